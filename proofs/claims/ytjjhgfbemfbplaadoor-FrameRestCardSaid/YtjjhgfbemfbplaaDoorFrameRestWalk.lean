/-
  FrameRest, the walk.
-/
import Derived.Test.YtjjhgfbemfbplaaDoorFWorks
import Derived.OpenShut
namespace Go.Proofs.YtjjhgfbemfbplaaDoor.frameRest
open Go.RowKit

theorem eq_false {a b : ByteArray} (h : a ≠ b) : (a.toList == b.toList) = false := by
  rw [beq_eq_false_iff_ne]
  intro e
  rw [Lib.toList_data, Lib.toList_data] at e
  exact h (by rw [← str_of a, ← str_of b, e])

set_option maxHeartbeats 1000000 in
set_option maxRecDepth 100000 in
theorem walk_n (a b r : ByteArray) (hs : a.size + b.size + r.size ≤ 4096) (w : World) (hT : Hid (Tab w)) :
    Calls Tryd.prog 6 #[.string a, .string b, .string r] w fun e w' => e = .returned (.bool true) ∧ Below w.heap.size w w' := by
  obtain ⟨F, hF⟩ : ∃ F, str (fr a.data.toList) = F := ⟨_, rfl⟩
  obtain ⟨G, hG⟩ : ∃ G, str (fr b.data.toList) = G := ⟨_, rfl⟩
  obtain ⟨U, hU⟩ : ∃ U, str (cT r.data.toList) = U := ⟨_, rfl⟩
  obtain ⟨V, hV⟩ : ∃ V, str (cR r.data.toList) = V := ⟨_, rfl⟩
  obtain ⟨h, hh⟩ : ∃ h, cE r.data.toList = h := ⟨_, rfl⟩
  have KA := Lib.hid (fun W hW => Put_at a F (by omega) W hW hF)
  have KB := Lib.hid (fun W hW => Put_at b G (by omega) W hW hG)
  have KC := Lib.hid (fun W hW => Cut_whole a F r (by omega) (by omega) hF W hW)
  have KD := Lib.hid (fun W hW => Cut_at r U V h (by omega) W hW hh hU hV)
  have hFs : F.size ≤ 1099511627776 := by rw [← hF, str_size, fr_len, ← size_len]; omega
  have hrs : r.size ≤ 1099511627776 := by omega
  have hiff : Hid (F = G ↔ a = b) := by
    constructor
    · intro e
      have : fr a.data.toList = fr b.data.toList := by rw [← str_data (fr a.data.toList), hF, e, ← hG]; rfl
      have := fr_inj (by rw [← size_len]; omega) (by rw [← size_len]; omega) this
      rw [← str_of a, ← str_of b, this]
    · intro e
      rw [← hF, ← hG, e]
  clear hF hG hU hV hh
  by_cases hab : a = b
  · obtain rfl := hiff.out.2 hab
    subst hab
    clear hiff KB
    go_enter Tryd.func6, Tryd.ntmps6
    go_wp2_with fail
    refine (KA.out _ hT).mono ?_
    rintro e w1 ⟨rfl, hb⟩
    have HB1 := Lib.hid hb
    have HT1 : Hid (Tab w1) := hT.out.below hb
    clear hb
    go_wp2_with fail
    refine (KA.out _ HT1).mono ?_
    rintro e w2 ⟨rfl, hb⟩
    have HB2 := Lib.hid (HB1.out.trans (hb.mono HB1.out.size))
    have HT2 : Hid (Tab w2) := HT1.out.below hb
    clear hb HB1 HT1
    go_wp2_with fail
    refine (KC.out _ HT2).mono ?_
    rintro e w3 ⟨rfl, hb⟩
    have HB3 := Lib.hid (HB2.out.trans (hb.mono HB2.out.size))
    have HT3 : Hid (Tab w3) := HT2.out.below hb
    clear hb HB2 HT2
    go_wp2_with fail
    refine (KD.out _ HT3).mono ?_
    rintro e w4 ⟨rfl, hb⟩
    have HB4 := Lib.hid (HB3.out.trans (hb.mono HB3.out.size))
    have HT4 : Hid (Tab w4) := HT3.out.below hb
    clear hb HB3 HT3
    go_wp2_with fail
    refine (KD.out _ HT4).mono ?_
    rintro e w5 ⟨rfl, hb⟩
    have HB5 := Lib.hid (HB4.out.trans (hb.mono HB4.out.size))
    have HT5 : Hid (Tab w5) := HT4.out.below hb
    clear hb HB4 HT4
    go_wp2_with (go_at_call 8; refine (works_any _ HT5).mono ?_; rintro e w6 ⟨rfl, hb⟩)
    go_ret
    exact ⟨rfl, HB5.out.trans (hb.mono HB5.out.size)⟩
  · have t1 := eq_false hab
    have t2 := eq_false (fun e => hab (hiff.out.1 e))
    clear hiff hab
    go_enter Tryd.func6, Tryd.ntmps6
    go_wp2_with fail
    refine (KA.out _ hT).mono ?_
    rintro e w1 ⟨rfl, hb⟩
    have HB1 := Lib.hid hb
    have HT1 : Hid (Tab w1) := hT.out.below hb
    clear hb
    go_wp2_with fail
    refine (KB.out _ HT1).mono ?_
    rintro e w2 ⟨rfl, hb⟩
    have HB2 := Lib.hid (HB1.out.trans (hb.mono HB1.out.size))
    have HT2 : Hid (Tab w2) := HT1.out.below hb
    clear hb HB1 HT1
    go_wp2_with fail
    refine (KC.out _ HT2).mono ?_
    rintro e w3 ⟨rfl, hb⟩
    have HB3 := Lib.hid (HB2.out.trans (hb.mono HB2.out.size))
    have HT3 : Hid (Tab w3) := HT2.out.below hb
    clear hb HB2 HT2
    go_wp2_with fail
    refine (KD.out _ HT3).mono ?_
    rintro e w4 ⟨rfl, hb⟩
    have HB4 := Lib.hid (HB3.out.trans (hb.mono HB3.out.size))
    have HT4 : Hid (Tab w4) := HT3.out.below hb
    clear hb HB3 HT3
    go_wp2_with fail
    refine (KD.out _ HT4).mono ?_
    rintro e w5 ⟨rfl, hb⟩
    have HB5 := Lib.hid (HB4.out.trans (hb.mono HB4.out.size))
    have HT5 : Hid (Tab w5) := HT4.out.below hb
    clear hb HB4 HT4
    go_wp2_with (go_at_call 8; refine (works_any _ HT5).mono ?_; rintro e w6 ⟨rfl, hb⟩)
    go_ret
    exact ⟨rfl, HB5.out.trans (hb.mono HB5.out.size)⟩

theorem walk (a b r : ByteArray) (ha : a.size ≤ 140737488351232) (hb : b.size ≤ 140737488351232) (hr : r.size ≤ 140737488351232) (w : World) (hT : Tab w) :
    Calls Tryd.prog 6 #[.string a, .string b, .string r] w fun e w' => e = .returned (.bool true) ∧ Below w.heap.size w w' := by
  have HT := Lib.hid hT
  clear hT
  by_cases h : a.size + b.size + r.size ≤ 4096
  · exact walk_n a b r h w HT
  · have h' : 4096 < a.size + b.size + r.size := by omega
    clear h
    go_enter Tryd.func6, Tryd.ntmps6
    go_wp2_with (go_at_call 8; refine (works_any _ HT).mono ?_; rintro e w6 ⟨rfl, hb⟩)
    go_ret
    exact ⟨rfl, hb⟩

end Go.Proofs.YtjjhgfbemfbplaaDoor.frameRest
