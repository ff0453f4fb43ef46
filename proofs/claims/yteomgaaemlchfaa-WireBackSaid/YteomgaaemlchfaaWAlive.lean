/-
  Layer 5: contracts at named results; the known case that each statement asks ('alive') answers true.
-/
import Derived.Test.YteomgaaemlchfaaWTexts
import Derived.Test.YteomgaaemlchfaaWRest
namespace Go.Proofs.Yteomgaaemlchfaa
open Go.RowKit

theorem New_of (l : List UInt8) (s : ByteArray) (hs : Hid (str l = s)) (w : World) :
    Calls Try.prog 15 #[.string s] w fun r w' => ∃ g, r = .returned (.pointer (some ⟨g, 0, none⟩)) ∧ w.heap.size ≤ g ∧ RD g l 0 w' ∧ Below w.heap.size w w' := by
  rw [← hs.out]
  exact (New_at l w).mono (by rintro r w' ⟨rfl, h1, h2⟩; exact ⟨_, rfl, Nat.le_refl _, h1, h2⟩)
theorem Nums_at (A : Option Addr) (n cap : Nat) (N : List Nat) (hn : n ≤ 1000000) (w : World) (hS : Hid (Ints w A n N)) (hN : Hid (∀ x ∈ N, x ≤ 18446744073709551615)) (s : ByteArray) (hs : Hid (str (cat N) = s)) :
    Calls Try.prog 9 #[.slice A n cap] w fun e w' => e = .returned (.string s) ∧ Below w.heap.size w w' := by
  rw [← hs.out]
  exact Nums_any A n cap N hn w hS hN
theorem Texts_at (A : Option Addr) (n cap : Nat) (ss : List ByteArray) (hn : n ≤ 1000000) (hl : (txs ss).length ≤ 1099511627776) (w : World) (hS : Hid (Strs w A n ss)) (s : ByteArray) (hs : Hid (str (txs ss) = s)) :
    Calls Try.prog 11 #[.slice A n cap] w fun e w' => e = .returned (.string s) ∧ Below w.heap.size w w' := by
  rw [← hs.out]
  exact Texts_any A n cap ss hn hl w hS
theorem Bool_of (t : Bool) (w : World) (s : ByteArray) (hs : Hid (str [if t then 1 else 0] = s)) : Calls Try.prog 13 #[.bool t] w fun e w' => e = .returned (.string s) ∧ w = w' := by
  rw [← hs.out]
  exact bool_bytes t w

theorem ints_one (w : World) (x : Nat) (t : TypeId) : Ints (w.alloc (.cells #[.int .u64 (x : Nat)] t)) (some ⟨w.heap.size, 0, none⟩) 1 [x] :=
  ⟨rfl, fun i hi => by
    obtain rfl : i = 0 := by simpa using hi
    exact ⟨_, _, rfl, by simp, by rw [World.cell?_alloc_at _ _ _ _ (by simp)]; rfl⟩⟩
theorem strs_one (w : World) (x : ByteArray) (t : TypeId) : Strs (w.alloc (.cells #[.string x] t)) (some ⟨w.heap.size, 0, none⟩) 1 [x] :=
  ⟨rfl, fun i hi => by
    obtain rfl : i = 0 := by simpa using hi
    exact ⟨_, _, rfl, by simp, by rw [World.cell?_alloc_at _ _ _ _ (by simp)]; rfl⟩⟩

set_option maxRecDepth 100000 in
set_option maxHeartbeats 2000000 in
theorem alive_any (w : World) : Calls Try.prog 8 #[] w fun e w' => e = .returned (.bool true) ∧ Below w.heap.size w w' := by
  obtain ⟨A1, hA1⟩ : ∃ A : ByteArray, str (cat [300]) = A := ⟨_, rfl⟩
  obtain ⟨A2, hA2⟩ : ∃ A : ByteArray, str (txs [⟨#[97, 98]⟩]) = A := ⟨_, rfl⟩
  obtain ⟨A3, hA3⟩ : ∃ A : ByteArray, str [1] = A := ⟨_, rfl⟩
  have s1 : A1.size ≤ 10 := by rw [← hA1]; decide
  have s2 : A2.size ≤ 10 := by rw [← hA2]; decide
  have s3 : A3.size ≤ 10 := by rw [← hA3]; decide
  have hS : str [172, 2, 2, 97, 98, 1] = A1 ++ A2 ++ A3 := by
    rw [← hA1, ← hA2, ← hA3]
    have e1 : cat [300] = [172, 2] := by decide
    have e2 : txs [⟨#[97, 98]⟩] = [2, 97, 98] := by decide
    rw [e1, e2]; rfl
  have HA1 := Lib.hid hA1
  have HA2 := Lib.hid hA2
  have HA3 := Lib.hid hA3
  have HS := Lib.hid hS
  have hEq : ((A1 ++ A2 ++ A3).toList == ([172, 2, 2, 97, 98, 1] : List UInt8)) = true := by rw [← hS]; rw [Lib.toList_data]; rfl
  have q1 : Hid (numR 300 [172, 2, 2, 97, 98, 1] = (300, 2, 0)) := by show _ = _; decide
  have q2 : Hid (txtR 2 [2, 97, 98, 1] = ([97, 98], 3, 0)) := by show _ = _; decide
  have q3 : Hid (bolR [1] = (true, 1, 0)) := by show _ = _; decide
  have q4 : Hid (endR [] = 0) := by show _ = _; decide
  have q5 : Hid (numR 299 [172, 2, 2, 97, 98, 1] = (0, 0, 9)) := by show _ = _; decide
  clear hA1 hA2 hA3 hS
  go_enter Try.func8, Try.ntmps8
  go_wp2_with fail
  refine (Nums_at _ 1 1 [300] (by decide) _ (ints_one w 300 _) (by intro x hx; simp at hx; omega) A1 HA1).mono ?_
  rintro e w1 ⟨rfl, hb1⟩
  have HB1 : Below w.heap.size w w1 := ((Below.refl _ _).alloc (Nat.le_refl _) _).trans (hb1.mono (by simp))
  clear hb1
  go_wp2_with fail
  refine (Texts_at _ 1 1 [⟨#[97, 98]⟩] (by decide) (by decide) _ (strs_one w1 _ _) A2 HA2).mono ?_
  rintro e w2 ⟨rfl, hb2⟩
  have HB2 : Below w.heap.size w w2 := (HB1.alloc HB1.size _).trans (hb2.mono (by have := HB1.size; simp; omega))
  clear hb2 HB1
  go_wp2_with (go_at_call 13; refine (Bool_of true _ A3 HA3).mono ?_; rintro e w' ⟨rfl, rfl⟩)
  obtain ⟨S, hS⟩ : ∃ S, A1 ++ A2 ++ A3 = S := ⟨_, rfl⟩
  simp only [hS] at HS hEq ⊢
  clear hS HA1 HA2 HA3
  refine (New_of [172, 2, 2, 97, 98, 1] S HS _).mono ?_
  rintro e w3 ⟨g, rfl, hg, r3, hb3⟩
  have hz2 := HB2.size
  have HB3 : Below w.heap.size w w3 := HB2.trans (hb3.mono hz2)
  clear hb3 HB2
  go_wp2_with fail
  refine (Num_at g _ w3 r3 (by decide) 300 300 2 0 q1).mono ?_
  rintro e w4 ⟨rfl, r4, hb4⟩
  have HB4 : Below w.heap.size w w4 := HB3.trans (hb4.mono (by omega))
  clear r3 hb4 HB3
  go_wp2_with fail
  refine (Text_at g _ w4 r4 (by decide) 2 (by decide) [97, 98] 3 0 q2).mono ?_
  rintro e w5 ⟨rfl, r5, hb5⟩
  have HB5 : Below w.heap.size w w5 := HB4.trans (hb5.mono (by omega))
  clear r4 hb5 HB4
  go_wp2_with fail
  refine (Bool_at g _ w5 r5 true 1 0 q3).mono ?_
  rintro e w6 ⟨rfl, r6, hb6⟩
  have HB6 : Below w.heap.size w w6 := HB5.trans (hb6.mono (by omega))
  clear r5 hb6 HB5
  go_wp2_with fail
  refine (End_at g _ w6 r6 0 q4).mono ?_
  rintro e w7 ⟨rfl, r7, hb7⟩
  have HB7 : Below w.heap.size w w7 := HB6.trans (hb7.mono (by omega))
  clear r6 hb7 HB6
  go_wp2_with fail
  refine (New_of [172, 2, 2, 97, 98, 1] S HS _).mono ?_
  rintro e w8 ⟨k, rfl, hk, q8, hb8⟩
  have hz7 := HB7.size
  have r8 := r7.below hb8 r7.lt
  have hgk : g < k := by have := r7.lt; omega
  have HB8 : Below w.heap.size w w8 := HB7.trans (hb8.mono hz7)
  clear hb8 HB7 r7
  go_wp2_with fail
  refine (Num_at k _ w8 q8 (by decide) 299 0 0 9 q5).mono ?_
  rintro e w9 ⟨rfl, q9, hb9⟩
  have r9 := r8.below hb9 hgk
  have HB9 : Below w.heap.size w w9 := HB8.trans (hb9.mono (by omega))
  clear r8 hb9 HB8 q8
  go_wp2_with fail
  refine (Num_err k _ 9 w9 q9 (by decide) _).mono ?_
  rintro e w10 ⟨rfl, hb10⟩
  have r10 := r9.below hb10 r9.lt
  have q10 := q9.below hb10 q9.lt
  have HB10 : Below w.heap.size w w10 := HB9.trans (hb10.mono HB9.size)
  clear r9 hb10 HB9 q9
  have hab : ((str [97, 98]).toList == ([97, 98] : List UInt8)) = true := by rw [Lib.toList_data]; rfl
  go_wp2_with fail
  refine (Err_at g _ _ _ r10).mono ?_
  rintro e w11 ⟨rfl, rfl⟩
  go_wp2_with fail
  refine (Err_at k _ _ _ q10).mono ?_
  rintro e w11 ⟨rfl, rfl⟩
  go_wp2_with fail
  go_ret
  exact ⟨rfl, HB10⟩

end Go.Proofs.Yteomgaaemlchfaa
