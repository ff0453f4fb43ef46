/-
  The walk of the law NumBack.
-/
import Derived.Test.YtlikbkffadpbeaaNWorks
import Derived.OpenShut
namespace Go.Proofs.Ytlikbkffadpbeaa.numBack
open Go.RowKit

theorem Turn_at (i : Int) (w : World) (h1 : -9223372036854775808 ≤ i) (h2 : i ≤ 9223372036854775807) (n : Int) (h : Hid (tnI i = n)) :
    Calls Try.prog 10 #[.int .i64 i] w fun e w' => e = .returned (.int .u64 n) ∧ w = w' := by
  refine (Turn_any i w h1 h2).mono ?_
  rw [h.out]
  exact fun _ _ h => h
theorem Back_at (n : Int) (w : World) (h1 : 0 ≤ n) (h2 : n ≤ 18446744073709551615) (i : Int) (h : Hid (bkI n = i)) :
    Calls Try.prog 9 #[.int .u64 n] w fun e w' => e = .returned (.int .i64 i) ∧ w = w' := by
  refine (Back_any n w h1 h2).mono ?_
  rw [h.out]
  exact fun _ _ h => h

theorem app_data (a b : ByteArray) : (a ++ b).data.toList = a.data.toList ++ b.data.toList := by simp
theorem read_whole (a : Nat) (s : ByteArray) (ha : a ≤ 18446744073709551615) : rdN (str (ub a) ++ s).data.toList = (a, (str (ub a)).size, 0) := by
  rw [app_data]
  exact rdN_back a s.data.toList (by omega)
theorem read_short (a k : Nat) (hk : k < (str (ub a)).size) : rdN ((str (ub a)).extract 0 k).data.toList = (0, 0, 20) := by
  rw [Lib.extract_data, List.drop_zero, Nat.sub_zero]
  exact rdN_short a k hk
theorem str_inj {a b : List UInt8} (h : str a = str b) : a = b := by
  have := congrArg (fun x : ByteArray => x.data.toList) h
  simpa [str] using this
theorem toList_inj {a b : ByteArray} (h : a.toList = b.toList) : a = b := by
  rw [Lib.toList_data, Lib.toList_data] at h
  cases a; cases b; simp at h; rw [h]
theorem up_ne {a b : Nat} (ha : a ≤ 18446744073709551615) (hb : b ≤ 18446744073709551615) (h : a ≠ b) : str (ub a) ≠ str (ub b) :=
  fun e => h (ub_inj a b (by omega) (by omega) (str_inj e))

theorem walk_big (a b : Nat) (i : Int) (s : ByteArray) (hs : 4096 < s.size) (w : World) :
    Calls Try.prog 3 #[.int .u64 a, .int .u64 b, .int .i64 i, .string s] w fun e w' => e = .returned (.bool true) ∧ Below w.heap.size w w' := by
  have HB : Below w.heap.size w w := Below.refl _ _
  go_enter Try.func3, Try.ntmps3
  go_wp2_with (go_at_call 6; refine (works_any _).mono ?_; rintro e w' ⟨rfl, hb⟩; replace HB := HB.trans (hb.mono HB.size); clear hb)
  go_ret
  exact ⟨rfl, HB⟩

set_option maxHeartbeats 1000000 in
set_option maxRecDepth 100000 in
theorem walk_eq (a : Nat) (i : Int) (s : ByteArray) (ha : a ≤ 18446744073709551615) (i1 : -9223372036854775808 ≤ i) (i2 : i ≤ 9223372036854775807) (hs : s.size ≤ 4096) (w : World) :
    Calls Try.prog 3 #[.int .u64 a, .int .u64 a, .int .i64 i, .string s] w fun e w' => e = .returned (.bool true) ∧ Below w.heap.size w w' := by
  have HB : Below w.heap.size w w := Below.refl _ _
  obtain ⟨X, hX⟩ : ∃ X, X = str (ub a) := ⟨_, rfl⟩
  have HX : Hid (str (ub a) = X) := hX.symm
  have hl1 : 1 ≤ X.size := by rw [hX]; exact ub_pos a
  have hl2 : X.size ≤ 10 := by rw [hX]; exact ub_le a
  have d3 : decide (a < a) = false := by rw [decide_eq_false_iff_not]; omega
  clear hX
  have R1 : Hid (rdN (X ++ s).data.toList = (a, X.size, 0)) := by rw [← HX.out]; exact read_whole a s ha
  have R2 : Hid (rdN (X.extract 0 (X.size - 1)).data.toList = (0, 0, 20)) := by rw [← HX.out] at hl1 ⊢; exact read_short a _ (by omega)
  have K1 := Lib.hid (fun W => Read_at (X ++ s) W (by rw [ByteArray.size_append]; unfold maxLen; omega) a X.size 0 R1)
  have K2 := Lib.hid (fun W => Read_at (X.extract 0 (X.size - 1)) W (by rw [ByteArray.size_extract]; unfold maxLen; omega) 0 0 20 R2)
  have e1 : max ((X.size : Int) - 1) 0 = ((X.size - 1 : Nat) : Int) := by omega
  obtain ⟨t, ht⟩ : ∃ t, tnI i = t := ⟨_, rfl⟩
  have T1 : Hid (tnI i = t) := ht
  have T2 : Hid (bkI t = i) := by show _ = _; rw [← ht]; exact bk_tn i
  have t1 : 0 ≤ t ∧ t ≤ 18446744073709551615 := by rw [← ht]; unfold tnI; split <;> omega
  obtain ⟨t1, t2⟩ := t1
  clear ht
  obtain ⟨j, hj⟩ : ∃ j, bkI a = j := ⟨_, rfl⟩
  have J1 : Hid (bkI a = j) := hj
  have J2 : Hid (tnI j = a) := by show _ = _; rw [← hj]; exact tn_bk a (by omega)
  have j1 : -9223372036854775808 ≤ j ∧ j ≤ 9223372036854775807 := by rw [← hj]; unfold bkI; split <;> omega
  obtain ⟨j1, j2⟩ := j1
  clear hj
  go_enter Try.func3, Try.ntmps3
  go_wp2_with (go_at_call 7; refine (Up_at a _ ha X HX).mono ?_; rintro e w' ⟨rfl, hb'⟩; replace HB := HB.trans (hb'.mono HB.size); clear hb')
  refine (K1.out _).mono ?_
  rintro e w3 ⟨rfl, rfl⟩
  go_wp2_with fail
  refine (K2.out _).mono ?_
  rintro e w4 ⟨rfl, rfl⟩
  clear e1
  go_wp2_with fail
  refine (Turn_at i _ i1 i2 t T1).mono ?_; rintro e w5 ⟨rfl, rfl⟩
  go_wp2_with fail
  refine (Back_at t _ t1 t2 i T2).mono ?_; rintro e w6 ⟨rfl, rfl⟩
  go_wp2_with fail
  refine (Back_at (a : Nat) _ (by omega) (by omega) j J1).mono ?_; rintro e w7 ⟨rfl, rfl⟩
  go_wp2_with fail
  refine (Turn_at j _ j1 j2 (a : Nat) J2).mono ?_; rintro e w8 ⟨rfl, rfl⟩
  go_wp2_with (go_at_call 6; refine (works_any _).mono ?_; rintro e w' ⟨rfl, hb'⟩; replace HB := HB.trans (hb'.mono HB.size); clear hb')
  go_ret
  exact ⟨rfl, HB⟩

set_option maxHeartbeats 1000000 in
set_option maxRecDepth 100000 in
theorem walk_lt (a b : Nat) (i : Int) (s : ByteArray) (ha : a ≤ 18446744073709551615) (hb : b ≤ 18446744073709551615) (hab : a < b) (i1 : -9223372036854775808 ≤ i) (i2 : i ≤ 9223372036854775807) (hs : s.size ≤ 4096) (w : World) :
    Calls Try.prog 3 #[.int .u64 a, .int .u64 b, .int .i64 i, .string s] w fun e w' => e = .returned (.bool true) ∧ Below w.heap.size w w' := by
  have HB : Below w.heap.size w w := Below.refl _ _
  obtain ⟨X, hX⟩ : ∃ X, X = str (ub a) := ⟨_, rfl⟩
  have HX : Hid (str (ub a) = X) := hX.symm
  have hl1 : 1 ≤ X.size := by rw [hX]; exact ub_pos a
  have hl2 : X.size ≤ 10 := by rw [hX]; exact ub_le a
  obtain ⟨Y, hY⟩ : ∃ Y, Y = str (ub b) := ⟨_, rfl⟩
  have HY : Hid (str (ub b) = Y) := hY.symm
  have hne : X ≠ Y := by rw [hX, hY]; exact up_ne ha hb (by omega)
  have d1 : (X.toList == Y.toList) = false := by rw [beq_eq_false_iff_ne]; exact fun e => hne (toList_inj e)
  have d2 : ((a : Int) == (b : Int)) = false := by rw [beq_eq_false_iff_ne]; omega
  have d2n : (a == b) = false := by rw [beq_eq_false_iff_ne]; omega
  have d3 : decide (b < a) = false := by rw [decide_eq_false_iff_not]; omega
  have hl3 : X.size ≤ Y.size := by rw [hX, hY]; exact ub_mono a b (by omega)
  have d4 : decide (X.size ≤ Y.size) = true := decide_eq_true hl3
  clear hY hne
  clear hX
  have R1 : Hid (rdN (X ++ s).data.toList = (a, X.size, 0)) := by rw [← HX.out]; exact read_whole a s ha
  have R2 : Hid (rdN (X.extract 0 (X.size - 1)).data.toList = (0, 0, 20)) := by rw [← HX.out] at hl1 ⊢; exact read_short a _ (by omega)
  have K1 := Lib.hid (fun W => Read_at (X ++ s) W (by rw [ByteArray.size_append]; unfold maxLen; omega) a X.size 0 R1)
  have K2 := Lib.hid (fun W => Read_at (X.extract 0 (X.size - 1)) W (by rw [ByteArray.size_extract]; unfold maxLen; omega) 0 0 20 R2)
  have e1 : max ((X.size : Int) - 1) 0 = ((X.size - 1 : Nat) : Int) := by omega
  obtain ⟨t, ht⟩ : ∃ t, tnI i = t := ⟨_, rfl⟩
  have T1 : Hid (tnI i = t) := ht
  have T2 : Hid (bkI t = i) := by show _ = _; rw [← ht]; exact bk_tn i
  have t1 : 0 ≤ t ∧ t ≤ 18446744073709551615 := by rw [← ht]; unfold tnI; split <;> omega
  obtain ⟨t1, t2⟩ := t1
  clear ht
  obtain ⟨j, hj⟩ : ∃ j, bkI a = j := ⟨_, rfl⟩
  have J1 : Hid (bkI a = j) := hj
  have J2 : Hid (tnI j = a) := by show _ = _; rw [← hj]; exact tn_bk a (by omega)
  have j1 : -9223372036854775808 ≤ j ∧ j ≤ 9223372036854775807 := by rw [← hj]; unfold bkI; split <;> omega
  obtain ⟨j1, j2⟩ := j1
  clear hj
  go_enter Try.func3, Try.ntmps3
  go_wp2_with fail
  refine (Up_at a _ ha X HX).mono ?_; rintro e w1 ⟨rfl, hb'⟩; replace HB := HB.trans (hb'.mono HB.size); clear hb'
  go_wp2_with fail
  refine (Up_at b _ hb Y HY).mono ?_; rintro e w2 ⟨rfl, hb'⟩; replace HB := HB.trans (hb'.mono HB.size); clear hb'
  go_wp2_with fail
  refine (K1.out _).mono ?_
  rintro e w3 ⟨rfl, rfl⟩
  go_wp2_with fail
  refine (K2.out _).mono ?_
  rintro e w4 ⟨rfl, rfl⟩
  clear e1
  go_wp2_with fail
  refine (Turn_at i _ i1 i2 t T1).mono ?_; rintro e w5 ⟨rfl, rfl⟩
  go_wp2_with fail
  refine (Back_at t _ t1 t2 i T2).mono ?_; rintro e w6 ⟨rfl, rfl⟩
  go_wp2_with fail
  refine (Back_at (a : Nat) _ (by omega) (by omega) j J1).mono ?_; rintro e w7 ⟨rfl, rfl⟩
  go_wp2_with fail
  refine (Turn_at j _ j1 j2 (a : Nat) J2).mono ?_; rintro e w8 ⟨rfl, rfl⟩
  go_wp2_with (go_at_call 6; refine (works_any _).mono ?_; rintro e w' ⟨rfl, hb'⟩; replace HB := HB.trans (hb'.mono HB.size); clear hb')
  go_ret
  exact ⟨rfl, HB⟩

set_option maxHeartbeats 1000000 in
set_option maxRecDepth 100000 in
theorem walk_gt (a b : Nat) (i : Int) (s : ByteArray) (ha : a ≤ 18446744073709551615) (hb : b ≤ 18446744073709551615) (hab : b < a) (i1 : -9223372036854775808 ≤ i) (i2 : i ≤ 9223372036854775807) (hs : s.size ≤ 4096) (w : World) :
    Calls Try.prog 3 #[.int .u64 a, .int .u64 b, .int .i64 i, .string s] w fun e w' => e = .returned (.bool true) ∧ Below w.heap.size w w' := by
  have HB : Below w.heap.size w w := Below.refl _ _
  obtain ⟨X, hX⟩ : ∃ X, X = str (ub a) := ⟨_, rfl⟩
  have HX : Hid (str (ub a) = X) := hX.symm
  have hl1 : 1 ≤ X.size := by rw [hX]; exact ub_pos a
  have hl2 : X.size ≤ 10 := by rw [hX]; exact ub_le a
  obtain ⟨Y, hY⟩ : ∃ Y, Y = str (ub b) := ⟨_, rfl⟩
  have HY : Hid (str (ub b) = Y) := hY.symm
  have hne : X ≠ Y := by rw [hX, hY]; exact up_ne ha hb (by omega)
  have d1 : (X.toList == Y.toList) = false := by rw [beq_eq_false_iff_ne]; exact fun e => hne (toList_inj e)
  have d2 : ((a : Int) == (b : Int)) = false := by rw [beq_eq_false_iff_ne]; omega
  have d2n : (a == b) = false := by rw [beq_eq_false_iff_ne]; omega
  have d3 : decide (b < a) = true := decide_eq_true hab
  clear hY hne
  clear hX
  have R1 : Hid (rdN (X ++ s).data.toList = (a, X.size, 0)) := by rw [← HX.out]; exact read_whole a s ha
  have R2 : Hid (rdN (X.extract 0 (X.size - 1)).data.toList = (0, 0, 20)) := by rw [← HX.out] at hl1 ⊢; exact read_short a _ (by omega)
  have K1 := Lib.hid (fun W => Read_at (X ++ s) W (by rw [ByteArray.size_append]; unfold maxLen; omega) a X.size 0 R1)
  have K2 := Lib.hid (fun W => Read_at (X.extract 0 (X.size - 1)) W (by rw [ByteArray.size_extract]; unfold maxLen; omega) 0 0 20 R2)
  have e1 : max ((X.size : Int) - 1) 0 = ((X.size - 1 : Nat) : Int) := by omega
  obtain ⟨t, ht⟩ : ∃ t, tnI i = t := ⟨_, rfl⟩
  have T1 : Hid (tnI i = t) := ht
  have T2 : Hid (bkI t = i) := by show _ = _; rw [← ht]; exact bk_tn i
  have t1 : 0 ≤ t ∧ t ≤ 18446744073709551615 := by rw [← ht]; unfold tnI; split <;> omega
  obtain ⟨t1, t2⟩ := t1
  clear ht
  obtain ⟨j, hj⟩ : ∃ j, bkI a = j := ⟨_, rfl⟩
  have J1 : Hid (bkI a = j) := hj
  have J2 : Hid (tnI j = a) := by show _ = _; rw [← hj]; exact tn_bk a (by omega)
  have j1 : -9223372036854775808 ≤ j ∧ j ≤ 9223372036854775807 := by rw [← hj]; unfold bkI; split <;> omega
  obtain ⟨j1, j2⟩ := j1
  clear hj
  go_enter Try.func3, Try.ntmps3
  go_wp2_with fail
  refine (Up_at a _ ha X HX).mono ?_; rintro e w1 ⟨rfl, hb'⟩; replace HB := HB.trans (hb'.mono HB.size); clear hb'
  go_wp2_with fail
  refine (Up_at b _ hb Y HY).mono ?_; rintro e w2 ⟨rfl, hb'⟩; replace HB := HB.trans (hb'.mono HB.size); clear hb'
  go_wp2_with fail
  refine (K1.out _).mono ?_
  rintro e w3 ⟨rfl, rfl⟩
  go_wp2_with fail
  refine (K2.out _).mono ?_
  rintro e w4 ⟨rfl, rfl⟩
  clear e1
  go_wp2_with fail
  refine (Turn_at i _ i1 i2 t T1).mono ?_; rintro e w5 ⟨rfl, rfl⟩
  go_wp2_with fail
  refine (Back_at t _ t1 t2 i T2).mono ?_; rintro e w6 ⟨rfl, rfl⟩
  go_wp2_with fail
  refine (Back_at (a : Nat) _ (by omega) (by omega) j J1).mono ?_; rintro e w7 ⟨rfl, rfl⟩
  go_wp2_with fail
  refine (Turn_at j _ j1 j2 (a : Nat) J2).mono ?_; rintro e w8 ⟨rfl, rfl⟩
  go_wp2_with (go_at_call 6; refine (works_any _).mono ?_; rintro e w' ⟨rfl, hb'⟩; replace HB := HB.trans (hb'.mono HB.size); clear hb')
  go_ret
  exact ⟨rfl, HB⟩

theorem walk (a b i : Int) (s : ByteArray) (ha : (Lit.int .u64 a).wf = true) (hb : (Lit.int .u64 b).wf = true) (hi : (Lit.int .i64 i).wf = true) (_hs : s.size ≤ maxLen) (w : World) :
    Calls Try.prog 3 #[.int .u64 a, .int .u64 b, .int .i64 i, .string s] w fun e w' => e = .returned (.bool true) ∧ Below w.heap.size w w' := by
  obtain ⟨a1, a2⟩ := bounds_u64 ha
  obtain ⟨b1, b2⟩ := bounds_u64 hb
  obtain ⟨i1, i2⟩ := bounds_i64 hi
  obtain ⟨a, rfl⟩ := Int.eq_ofNat_of_zero_le a1
  obtain ⟨b, rfl⟩ := Int.eq_ofNat_of_zero_le b1
  by_cases h0 : 4096 < s.size
  · exact walk_big a b i s h0 w
  · by_cases h1 : a = b
    · subst h1
      exact walk_eq a i s (by omega) i1 i2 (by omega) w
    · by_cases h2 : a < b
      · exact walk_lt a b i s (by omega) (by omega) h2 i1 i2 (by omega) w
      · exact walk_gt a b i s (by omega) (by omega) (by omega) i1 i2 (by omega) w

end Go.Proofs.Ytlikbkffadpbeaa.numBack
