/-
  ShaPairs, the walk.
-/
import Derived.Test.YteajhimmhlccdaaDoorSWorks
namespace Go.Proofs.YteajhimmhlccdaaDoor.shaPairs
open Go.RowKit

theorem cats3 (a b : ByteArray) : cats [⟨#[1]⟩, a, b] = 1 :: (a.data.toList ++ b.data.toList) := by simp [cats]
theorem sum3 (a b : ByteArray) : (((⟨#[1]⟩ : ByteArray) ++ a) ++ b).data.toList = 1 :: (a.data.toList ++ b.data.toList) := by simp [ByteArray.data_append]

set_option maxRecDepth 100000 in
set_option maxHeartbeats 1000000 in
theorem walk (a b : ByteArray) (za : a.size ≤ 140737488351232) (zb : b.size ≤ 140737488351232) (w : World) (hT : Tab w) :
    Calls Tryd.prog 5 #[.string a, .string b] w fun e w' => e = .returned (.bool true) ∧ Below w.heap.size w w' := by
  have HT0 := Lib.hid hT
  clear hT
  obtain ⟨X, hX⟩ : ∃ X, dg (1 :: (a.data.toList ++ b.data.toList)) = X := ⟨_, rfl⟩
  have HX := Lib.hid hX
  clear hX
  go_enter Tryd.func5, Tryd.ntmps5
  go_wp2_with fail
  rotate_left
  · have hc : a.size + b.size ≤ 2048 := by omega
    have HC := Lib.hid hc
    clear hc
    refine (Pair_at a b X HX (by have := HC.out; omega) _ HT0).mono ?_
    rintro e w1 ⟨rfl, hb⟩
    have HB1 := Lib.hid hb
    have HT1 : Hid (Tab w1) := HT0.out.below hb
    clear hb
    go_wp2_with fail
    refine (Of_ref_at (((⟨#[1]⟩ : ByteArray) ++ a) ++ b) X (Lib.hid (by rw [sum3]; exact HX.out)) (by have := HC.out; rw [ByteArray.size_append, ByteArray.size_append]; have : (⟨#[1]⟩ : ByteArray).size = 1 := rfl; omega) _).mono ?_
    rintro e w2 ⟨rfl, hb⟩
    have HB2 : Hid (Below w.heap.size w w2) := HB1.out.trans (hb.mono HB1.out.size)
    have HT2 : Hid (Tab w2) := HT1.out.below hb
    clear hb HB1 HT1
    go_wp2_with fail
    refine (Pair_at a b X HX (by have := HC.out; omega) _ HT2).mono ?_
    rintro e w3 ⟨rfl, hb⟩
    have HB3 : Hid (Below w.heap.size w w3) := HB2.out.trans (hb.mono HB2.out.size)
    have HT3 : Hid (Tab w3) := HT2.out.below hb
    clear hb HB2 HT2
    go_wp2_with fail
    refine (Of_at _ 3 3 [⟨#[1]⟩, a, b] X (Lib.hid (by rw [cats3]; exact HX.out)) (by decide) (by have := HC.out; rw [cats3]; simp; omega) _ (Strs.built w3 [⟨#[1]⟩, a, b] 3 rfl) (Lib.hid (HT3.out.below ((Below.refl w3.heap.size w3).alloc (Nat.le_refl _) _)))).mono ?_
    rintro e w4 ⟨rfl, hb0⟩
    have hb : Below w3.heap.size w3 w4 := ((Below.refl w3.heap.size w3).alloc (Nat.le_refl _) _).trans (hb0.mono (by simp))
    have HB4 : Hid (Below w.heap.size w w4) := HB3.out.trans (hb.mono HB3.out.size)
    have HT4 : Hid (Tab w4) := HT3.out.below hb
    clear hb hb0 HB3 HT3
    go_wp2_with fail
    refine (works_any _ HT4).mono ?_
    rintro e w5 ⟨rfl, hb⟩
    have HB5 : Hid (Below w.heap.size w w5) := HB4.out.trans (hb.mono HB4.out.size)
    clear hb HB4 HT4
    go_wp2_with fail
    go_ret
    exact ⟨rfl, HB5.out⟩
  · refine (works_any _ HT0).mono ?_
    rintro e w5 ⟨rfl, hb⟩
    have HB5 := Lib.hid hb
    clear hb
    go_wp2_with fail
    go_ret
    exact ⟨rfl, HB5.out⟩
end Go.Proofs.YteajhimmhlccdaaDoor.shaPairs
