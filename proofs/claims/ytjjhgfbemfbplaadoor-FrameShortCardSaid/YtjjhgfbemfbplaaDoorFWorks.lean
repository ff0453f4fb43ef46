/-
  Layer 6's works; Cut of frames, of what is cut off.
-/
import Derived.Test.YtjjhgfbemfbplaaDoorFWalkC
namespace Go.Proofs.YtjjhgfbemfbplaaDoor
open Go.RowKit

/-- 'Cut' of a frame, whatever stands behind. -/
theorem Cut_whole (t F r : ByteArray) (ht : t.size ≤ 1048576) (hr : r.size ≤ 137438953472) (hF : Hid (str (fr t.data.toList) = F)) (w : World) (hW : Hid (Tab w)) :
    Calls Tryd.prog 11 #[.string (F ++ r)] w fun e w' => e = .returned (.tuple #[.string t, .string r, .int .i64 0]) ∧ Below w.heap.size w w' := by
  have hl : t.data.toList.length ≤ 1048576 := by rw [← size_len]; exact ht
  have hd : (F ++ r).data.toList = fr t.data.toList ++ r.data.toList := by rw [ByteArray.data_append, Array.toList_append, ← hF.out]; rfl
  have hz : (F ++ r).size ≤ 1099511627776 := by rw [size_len, hd, List.length_append, fr_len, ← size_len, ← size_len]; omega
  exact Cut_at (F ++ r) t r 0 hz w hW (by show _ = _; rw [hd]; exact cE_fr _ _ hl) (by show _ = _; rw [hd, cT_fr _ _ hl]; rfl) (by show _ = _; rw [hd, cR_fr _ _ hl]; rfl)
/-- .. of a beginning of one. -/
theorem Cut_part (t F : ByteArray) (k : Nat) (ht : t.size ≤ 1048576) (hF : Hid (str (fr t.data.toList) = F)) (hk : k < F.size) (w : World) (hW : Hid (Tab w)) :
    Calls Tryd.prog 11 #[.string (F.extract 0 k)] w fun e w' => e = .returned (.tuple #[.string ⟨#[]⟩, .string ⟨#[]⟩, .int .i64 20]) ∧ Below w.heap.size w w' := by
  have hl : t.data.toList.length ≤ 1048576 := by rw [← size_len]; exact ht
  have hFz : F.size = 8 + t.size := by rw [← hF.out, str_size, fr_len, ← size_len]
  have hd : (F.extract 0 k).data.toList = (fr t.data.toList).take k := by rw [Lib.extract_data, List.drop_zero, Nat.sub_zero, ← hF.out]; rfl
  have hc : cE (F.extract 0 k).data.toList = 20 := by rw [hd]; exact cE_cut _ hl k (by rw [fr_len, ← size_len]; omega)
  exact Cut_at (F.extract 0 k) ⟨#[]⟩ ⟨#[]⟩ 20 (by rw [ByteArray.size_extract]; omega) w hW hc (by show _ = _; rw [cT_bad (by rw [hc]; decide)]; rfl) (by show _ = _; rw [cR_bad (by rw [hc]; decide)]; rfl)

set_option maxHeartbeats 1000000 in
theorem works_any (w : World) (hT : Hid (Tab w)) : Calls Tryd.prog 8 #[] w fun e w' => e = .returned (.bool true) ∧ Below w.heap.size w w' := by
  obtain ⟨F, hF⟩ : ∃ F, str (fr (⟨#[97, 98]⟩ : ByteArray).data.toList) = F := ⟨_, rfl⟩
  have hFs : F.size = 10 := by rw [← hF, str_size, fr_len]; rfl
  have K1 := Lib.hid (fun W hW => Put_at (⟨#[97, 98]⟩ : ByteArray) F (by decide) W hW hF)
  have K2 := Lib.hid (fun W hW => Cut_whole (⟨#[97, 98]⟩ : ByteArray) F (⟨#[120, 121, 122]⟩ : ByteArray) (by decide) (by decide) hF W hW)
  have K3 := Lib.hid (fun W hW => Cut_part (⟨#[97, 98]⟩ : ByteArray) F 9 (by decide) hF (by omega) W hW)
  have K4 := Lib.hid (fun W => Size_any (⟨#[97, 98]⟩ : ByteArray) (by decide) W)
  clear hF
  go_enter Tryd.func8, Tryd.ntmps8
  go_wp2_with fail
  refine (K1.out _ hT).mono ?_
  rintro e w1 ⟨rfl, hb⟩
  have HB1 := Lib.hid hb
  have HT1 : Hid (Tab w1) := hT.out.below hb
  clear hb
  go_wp2_with fail
  refine (K2.out _ HT1).mono ?_
  rintro e w2 ⟨rfl, hb⟩
  have HB2 := Lib.hid (HB1.out.trans (hb.mono HB1.out.size))
  have HT2 : Hid (Tab w2) := HT1.out.below hb
  clear hb HB1 HT1
  go_wp2_with fail
  refine (K3.out _ HT2).mono ?_
  rintro e w3 ⟨rfl, hb⟩
  have HB3 := Lib.hid (HB2.out.trans (hb.mono HB2.out.size))
  clear hb HB2 HT2
  go_wp2_with fail
  refine (K4.out _).mono ?_
  rintro e w4 ⟨rfl, rfl⟩
  go_wp2_with fail
  go_ret
  exact ⟨rfl, HB3.out⟩

end Go.Proofs.YtjjhgfbemfbplaaDoor
