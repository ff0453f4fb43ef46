/-
  ShaLong, the walk.
-/
import Derived.Test.YteajhimmhlccdaaDoorSOne
namespace Go.Proofs.YteajhimmhlccdaaDoor.shaLong
open Go.RowKit

theorem cel8_set (L : List UInt8) (i : Nat) (b : UInt8) : (cel8 L).set i (.int .u8 (b.toNat : Int)) = cel8 (L.set i b) := by simp [cel8, List.map_set]
theorem of_byte (c : Int) (h : (Lit.int .u8 c).wf = true) : ∃ b : UInt8, c = (b.toNat : Int) := by
  have h1 : 0 ≤ c ∧ c ≤ 255 := by
    rw [Lit.wf, Bool.and_eq_true, decide_eq_true_eq, decide_eq_true_eq] at h
    exact h
  exact ⟨UInt8.ofNat c.toNat, by simp; omega⟩

set_option maxRecDepth 100000 in
set_option maxHeartbeats 1000000 in
theorem walk (n0 c0 : Int) (hn : (Lit.int .u8 n0).wf = true) (hc : (Lit.int .u8 c0).wf = true) (w : World) (hT : Tab w) :
    Calls Tryd.prog 6 #[.int .u8 n0, .int .u8 c0] w fun e w' => e = .returned (.bool true) ∧ Below w.heap.size w w' := by
  obtain ⟨b, rfl⟩ := of_byte c0 hc
  obtain ⟨nb, rfl⟩ := of_byte n0 hn
  obtain ⟨n, hnn, hn⟩ : ∃ n, nb.toNat = n ∧ n < 256 := ⟨_, rfl, nb.toNat_lt⟩
  rw [hnn]
  have HT0 := Lib.hid hT
  clear hT hnn hc
  obtain ⟨i0, hi, hz0, hz1, hz2⟩ := info_parts info5
  go_enter Tryd.func6, Tryd.ntmps6
  go_wp2_with (at_make; refine wpList_make_len _ rfl _ _ 35 rfl w.heap.size 5 i0 (.int .u8 0) Tryd.underlying35 hi hz0 hz1 rfl .i64 .i64 _ _ n n rfl rfl (by omega) (by omega) (by omega) (by rw [hz2]; omega) (by unfold maxLen; omega) (Nat.le_refl _) ?_; intro w0 hown0 hgrow0)
  have HB0 : Hid (Below w.heap.size w w0) := (Below.refl _ w).grown hgrow0 (Nat.le_refl _) (fun k hk => by cases hk)
  have HO0 : Hid (w0.ownsRow w.heap.size 5 1 (.slice (some ⟨w.heap.size, 0, none⟩) n n) n (cel8 (List.replicate n 0))) := by
    rw [cel8_rep] at hown0; exact hown0
  clear hown0 hgrow0
  go_loopw [6] (fun iv wr => ∃ (i : Nat) (L : List UInt8), i ≤ n ∧ iv = .int .i64 i ∧ L.length = n ∧ Hid (wr.ownsRow w.heap.size 5 1 (.slice (some ⟨w.heap.size, 0, none⟩) n n) n (cel8 L)) ∧ Hid (Below w.heap.size w wr)) (fun iv _ => n - (intOf iv).toNat)
  case atStart => exact ⟨0, _, Nat.zero_le _, rfl, by simp, HO0, HB0⟩
  case round =>
    clear HO0 HB0
    obtain ⟨i, L, hi', rfl, hL, HO, HB⟩ := hrel
    have HL := Lib.hid hL
    clear hL
    by_cases hlt : i < n
    · have hc : wr.cell? ⟨w.heap.size, i, none⟩ = some (.int .u8 ((L[i]'(by rw [HL.out]; exact hlt)).toNat : Int)) := by
        rw [HO.out.cellAt i (by omega), cel8_at]
      have hf := HO.out.frozenAt i
      have hst : Hid ((wr.setCell ⟨w.heap.size, i, none⟩ (.int .u8 (b.toNat : Int))).ownsRow w.heap.size 5 1 (.slice (some ⟨w.heap.size, 0, none⟩) n n) n (cel8 (L.set i b))) := by
        rw [← cel8_set]; exact (HO.out.stored i (.int .u8 (b.toNat : Int))).1
      go_wp2_with fail
      go_roundw
      case rel => exact ⟨i + 1, L.set i b, by omega, by go_num, by rw [List.length_set]; exact HL.out, hst, HB.out.setCell (Nat.le_refl _) _⟩
      case measure => simp [intOf]; omega
    · obtain ⟨s, hs⟩ : ∃ s : ByteArray, s = ⟨L.toArray⟩ := ⟨_, rfl⟩
      have hcv : (convert 35 9 (.slice (some ⟨w.heap.size, 0, none⟩) n n)).run Tryd.prog wr = .ok (.string s) wr := by
        rw [hs, ← HL.out]
        refine run_convert_bytes_back wr 35 9 5 ⟨w.heap.size, 0, none⟩ L.length L Tryd.underlying35 Tryd.underlying5 Tryd.underlying9 (fun j hj => ?_)
        have e : (⟨w.heap.size, 0, none⟩ : Addr).add j = ⟨w.heap.size, j, none⟩ := by unfold Addr.add; split <;> simp_all
        rw [e, HO.out.cellAt j (by have := HL.out; omega), cel8_at L j hj]
      obtain ⟨X, hX⟩ : ∃ X, dg s.data.toList = X := ⟨_, rfl⟩
      have HX := Lib.hid hX
      obtain ⟨Y, hY⟩ : ∃ Y, dg (s ++ (⟨#[120]⟩ : ByteArray)).data.toList = Y := ⟨_, rfl⟩
      have HY := Lib.hid hY
      clear hX hY
      have HS : Hid (s.size = n) := by show _ = _; rw [hs, ← HL.out]; simp [ByteArray.size]
      have HZ : Hid ((s ++ (⟨#[120]⟩ : ByteArray)).size = n + 1) := by show _ = _; rw [ByteArray.size_append, HS.out]; rfl
      have HT1 : Hid (Tab wr) := HT0.out.below HB.out
      clear hs HO HL
      have hss : s.size < 256 := by have := HS.out; omega
      go_wp2_with fail
      refine (Of_one s X HX (by have := HS.out; omega) _ HT1).mono ?_
      rintro e w2 ⟨rfl, hb⟩
      have HB2 : Hid (Below w.heap.size w w2) := HB.out.trans (hb.mono HB.out.size)
      have HT2 : Hid (Tab w2) := HT1.out.below hb
      clear hb HB HT1
      go_wp2_with fail
      refine (Of_ref_at s X HX (by have := HS.out; omega) _).mono ?_
      rintro e w3 ⟨rfl, hb⟩
      have HB3 : Hid (Below w.heap.size w w3) := HB2.out.trans (hb.mono HB2.out.size)
      have HT3 : Hid (Tab w3) := HT2.out.below hb
      clear hb HB2 HT2
      go_wp2_with fail
      refine (Of_one (s ++ (⟨#[120]⟩ : ByteArray)) Y HY (by have := HZ.out; omega) _ HT3).mono ?_
      rintro e w4 ⟨rfl, hb⟩
      have HB4 : Hid (Below w.heap.size w w4) := HB3.out.trans (hb.mono HB3.out.size)
      have HT4 : Hid (Tab w4) := HT3.out.below hb
      clear hb HB3 HT3
      go_wp2_with fail
      refine (Of_one s X HX (by have := HS.out; omega) _ HT4).mono ?_
      rintro e w5 ⟨rfl, hb⟩
      have HB5 : Hid (Below w.heap.size w w5) := HB4.out.trans (hb.mono HB4.out.size)
      have HT5 : Hid (Tab w5) := HT4.out.below hb
      clear hb HB4 HT4
      go_wp2_with fail
      refine (Of_ref_at (s ++ (⟨#[120]⟩ : ByteArray)) Y HY (by have := HZ.out; omega) _).mono ?_
      rintro e w6 ⟨rfl, hb⟩
      have HB6 : Hid (Below w.heap.size w w6) := HB5.out.trans (hb.mono HB5.out.size)
      have HT6 : Hid (Tab w6) := HT5.out.below hb
      clear hb HB5 HT5
      go_wp2_with fail
      refine (Of_ref_at s X HX (by have := HS.out; omega) _).mono ?_
      rintro e w7 ⟨rfl, hb⟩
      have HB7 : Hid (Below w.heap.size w w7) := HB6.out.trans (hb.mono HB6.out.size)
      have HT7 : Hid (Tab w7) := HT6.out.below hb
      clear hb HB6 HT6
      go_wp2_with fail
      refine (works_any _ HT7).mono ?_
      rintro e w8 ⟨rfl, hb⟩
      have HB8 : Hid (Below w.heap.size w w8) := HB7.out.trans (hb.mono HB7.out.size)
      clear hb HB7 HT7
      go_wp2_with fail
      go_ret
      exact ⟨rfl, HB8.out⟩
end Go.Proofs.YteajhimmhlccdaaDoor.shaLong
