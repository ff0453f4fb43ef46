/-
  Layer 4: named results; what 'works' answers.
-/
import Derived.Test.YteajhimmhlccdaaDoorSWalkJ
import Derived.Test.YteajhimmhlccdaaDoorSWalkH
namespace Go.Proofs.YteajhimmhlccdaaDoor
open Go.RowKit

def dg (l : List UInt8) : ByteArray := ⟨(dig l).toArray⟩
theorem dg_size (l : List UInt8) : (dg l).size = 32 := by show (dig l).toArray.size = 32; rw [List.size_toArray, dig_len]
theorem Of_at (A : Option Addr) (n cap : Nat) (ss : List ByteArray) (X : ByteArray) (hX : Hid (dg (cats ss) = X)) (hn : n ≤ 140737488355328) (hl : (cats ss).length ≤ 274877906944) (w : World) (hS : Hid (Strs w A n ss)) (hT : Hid (Tab w)) :
    Calls Tryd.prog 8 #[.slice A n cap] w fun e w' => e = .returned (.string X) ∧ Below w.heap.size w w' := by
  rw [← hX.out]; exact Of_any A n cap ss hn hl w hS hT
theorem Sum_at (g : Nat) (l : List UInt8) (X : ByteArray) (hX : Hid (dg l = X)) (hl : l.length ≤ 549755813888) (w : World) (hH : Hid (Hash w g l)) (hT : Hid (Tab w)) :
    Calls Tryd.prog 12 #[.pointer (some ⟨g, 0, none⟩)] w fun e w' => e = .returned (.string X) ∧ Below w.heap.size w w' := by
  rw [← hX.out]; exact Sum_any g l hl w hH hT
theorem Pair_at (a b : ByteArray) (X : ByteArray) (hX : Hid (dg (1 :: (a.data.toList ++ b.data.toList)) = X)) (hl : a.size + b.size ≤ 137438953472) (w : World) (hT : Hid (Tab w)) :
    Calls Tryd.prog 14 #[.string a, .string b] w fun e w' => e = .returned (.string X) ∧ Below w.heap.size w w' := by
  rw [← hX.out]; exact Pair_any a b hl w hT
theorem Of_ref_at (s : ByteArray) (X : ByteArray) (hX : Hid (dg s.data.toList = X)) (hs : s.size ≤ 1073741824) (w : World) :
    Calls Tryd.prog 9 #[.string s] w fun e w' => e = .returned (.string X) ∧ Below w.heap.size w w' := by
  rw [← hX.out]; exact Of_ref s hs w
theorem Len_at (g : Nat) (l : List UInt8) (n : Nat) (hn : Hid (l.length = n)) (w : World) (hH : Hid (Hash w g l)) : Calls Tryd.prog 13 #[.pointer (some ⟨g, 0, none⟩)] w fun e w' => e = .returned (.int .u64 (n : Nat)) ∧ w = w' := by
  rw [← hn.out]; exact Len_any g l w hH
theorem Strs.nil (w : World) : Strs w none 0 [] := ⟨rfl, fun i hi => by simp at hi⟩
/-- The world behind a call's own block. -/
theorem Strs.built (w : World) (ss : List ByteArray) (n : Nat) (hn : ss.length = n) : Hid (Strs (w.alloc (.cells (ss.map Value.string).toArray 9)) (some ⟨w.heap.size, 0, none⟩) n ss) := Strs.new w ss 9 n hn

set_option maxRecDepth 100000 in
set_option maxHeartbeats 1000000 in
theorem works_any (w : World) (hT : Hid (Tab w)) : Calls Tryd.prog 7 #[] w fun e w' => e = .returned (.bool true) ∧ Below w.heap.size w w' := by
  obtain ⟨D, hD⟩ : ∃ D, dg (cats []) = D := ⟨_, rfl⟩
  obtain ⟨X, hX⟩ : ∃ X, dg (cats [⟨#[97, 98]⟩]) = X := ⟨_, rfl⟩
  obtain ⟨Y, hY⟩ : ∃ Y, dg (cats [⟨#[1, 120]⟩, ⟨#[121]⟩]) = Y := ⟨_, rfl⟩
  have hDs : D.size = 32 := by rw [← hD]; exact dg_size _
  have HD := Lib.hid hD
  have HX := Lib.hid hX
  have HX' : Hid (dg (([] ++ (⟨#[97]⟩ : ByteArray).data.toList) ++ (⟨#[98]⟩ : ByteArray).data.toList) = X) := hX
  have HY := Lib.hid hY
  have HY' : Hid (dg (1 :: ((⟨#[120]⟩ : ByteArray).data.toList ++ (⟨#[121]⟩ : ByteArray).data.toList)) = Y) := hY
  clear hD hX hY
  go_enter Tryd.func7, Tryd.ntmps7
  go_wp2_with fail
  refine (New_any _).mono ?_
  rintro e w1 ⟨g, rfl, hg, hh, hb1⟩
  have HH1 := Lib.hid hh
  have HB1 := Lib.hid hb1
  have HT1 : Hid (Tab w1) := hT.out.below hb1
  clear hh hb1
  go_wp2_with fail
  refine (Add_any g [] ⟨#[97]⟩ (by decide) _ HH1 HT1).mono ?_
  rintro e w2 ⟨rfl, hh, hg2⟩
  have HH2 := Lib.hid hh
  have HB2 : Hid (Below w.heap.size w w2) := HB1.out.grown hg2 HB1.out.size (fun k hk => by injection hk with hk; omega)
  have HT2 : Hid (Tab w2) := HT1.out.grown HH1.out hg2
  clear hh hg2 HB1 HH1 HT1
  go_wp2_with fail
  refine (Add_any g _ ⟨#[98]⟩ (by decide) _ HH2 HT2).mono ?_
  rintro e w3 ⟨rfl, hh, hg2⟩
  have HH3 := Lib.hid hh
  have HB3 : Hid (Below w.heap.size w w3) := HB2.out.grown hg2 HB2.out.size (fun k hk => by injection hk with hk; omega)
  have HT3 : Hid (Tab w3) := HT2.out.grown HH2.out hg2
  clear hh hg2 HB2 HH2 HT2
  go_wp2_with fail
  refine (Of_at none 0 0 [] D HD (by decide) (by decide) _ (Strs.nil _) HT3).mono ?_
  rintro e w4 ⟨rfl, hb⟩
  have HB4 : Hid (Below w.heap.size w w4) := HB3.out.trans (hb.mono HB3.out.size)
  have HH4 : Hid (Hash w4 g _) := HH3.out.below hb HH3.out.lt
  have HT4 : Hid (Tab w4) := HT3.out.below hb
  clear hb HB3 HH3 HT3
  go_wp2_with fail
  refine (Sum_at g _ X HX' (by decide) _ HH4 HT4).mono ?_
  rintro e w5 ⟨rfl, hb⟩
  have HB5 : Hid (Below w.heap.size w w5) := HB4.out.trans (hb.mono HB4.out.size)
  have HH5 : Hid (Hash w5 g _) := HH4.out.below hb HH4.out.lt
  have HT5 : Hid (Tab w5) := HT4.out.below hb
  clear hb HB4 HH4 HT4
  go_wp2_with fail
  refine (Of_at _ 1 1 [⟨#[97, 98]⟩] X HX (by decide) (by decide) _ (Strs.built w5 [⟨#[97, 98]⟩] 1 rfl) (Lib.hid (HT5.out.below ((Below.refl w5.heap.size w5).alloc (Nat.le_refl _) _)))).mono ?_
  rintro e w6 ⟨rfl, hb0⟩
  have hb : Below w5.heap.size w5 w6 := ((Below.refl w5.heap.size w5).alloc (Nat.le_refl _) _).trans (hb0.mono (by simp))
  have HB6 : Hid (Below w.heap.size w w6) := HB5.out.trans (hb.mono HB5.out.size)
  have HH6 : Hid (Hash w6 g _) := HH5.out.below hb HH5.out.lt
  have HT6 : Hid (Tab w6) := HT5.out.below hb
  clear hb hb0 HB5 HH5 HT5
  go_wp2_with fail
  refine (Len_at g _ 2 (Lib.hid rfl) _ HH6).mono ?_
  rintro e _ ⟨rfl, rfl⟩
  clear HH6
  go_wp2_with fail
  refine (Pair_at ⟨#[120]⟩ ⟨#[121]⟩ Y HY' (by decide) _ HT6).mono ?_
  rintro e w7 ⟨rfl, hb⟩
  have HB7 : Hid (Below w.heap.size w w7) := HB6.out.trans (hb.mono HB6.out.size)
  have HT7 : Hid (Tab w7) := HT6.out.below hb
  clear hb HB6 HT6
  go_wp2_with fail
  refine (Of_at _ 2 2 [⟨#[1, 120]⟩, ⟨#[121]⟩] Y HY (by decide) (by decide) _ (Strs.built w7 [⟨#[1, 120]⟩, ⟨#[121]⟩] 2 rfl) (Lib.hid (HT7.out.below ((Below.refl w7.heap.size w7).alloc (Nat.le_refl _) _)))).mono ?_
  rintro e w8 ⟨rfl, hb0⟩
  have hb : Below w7.heap.size w7 w8 := ((Below.refl w7.heap.size w7).alloc (Nat.le_refl _) _).trans (hb0.mono (by simp))
  have HB8 : Hid (Below w.heap.size w w8) := HB7.out.trans (hb.mono HB7.out.size)
  clear hb hb0 HB7 HT7
  go_wp2_with fail
  go_ret
  exact ⟨rfl, HB8.out⟩
end Go.Proofs.YteajhimmhlccdaaDoor
