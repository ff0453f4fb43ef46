/-
  The walk of the law NumSums.
-/
import Derived.Test.YtlikbkffadpbeaaNWorks
import Derived.OpenShut
namespace Go.Proofs.Ytlikbkffadpbeaa.numSums
open Go.RowKit

theorem Add_at (a b : Int) (w : World) (h1 : 0 ≤ a) (h2 : a ≤ 18446744073709551615) (h3 : 0 ≤ b) (h4 : b ≤ 18446744073709551615) (n : Int) (t : Bool) (hn : Hid (addI a b = n)) (ht : Hid (addB a b = t)) :
    Calls Try.prog 11 #[.int .u64 a, .int .u64 b] w fun e w' => e = .returned (.tuple #[.int .u64 n, .bool t]) ∧ w = w' := by
  refine (Add_any a b w h1 h2 h3 h4).mono ?_
  rw [hn.out, ht.out]
  exact fun _ _ h => h
theorem Sum_at (a b : Int) (w : World) (h1 : -9223372036854775808 ≤ a) (h2 : a ≤ 9223372036854775807) (h3 : -9223372036854775808 ≤ b) (h4 : b ≤ 9223372036854775807) (n : Int) (t : Bool) (hn : Hid (sumI a b = n)) (ht : Hid (sumB a b = t)) :
    Calls Try.prog 12 #[.int .i64 a, .int .i64 b] w fun e w' => e = .returned (.tuple #[.int .i64 n, .bool t]) ∧ w = w' := by
  refine (Sum_any a b w h1 h2 h3 h4).mono ?_
  rw [hn.out, ht.out]
  exact fun _ _ h => h

set_option maxHeartbeats 1000000 in
set_option maxRecDepth 100000 in
theorem walk1 (a b c d : Int) (a1 : 0 ≤ a) (a2 : a ≤ 18446744073709551615) (b1 : 0 ≤ b) (b2 : b ≤ 18446744073709551615) (c1 : -9223372036854775808 ≤ c) (c2 : c ≤ 9223372036854775807) (d1 : -9223372036854775808 ≤ d) (d2 : d ≤ 9223372036854775807) (ha : a + b ≤ 18446744073709551615) (hd : 0 ≤ d) (hs : c + d ≤ 9223372036854775807) (w : World) :
    Calls Try.prog 4 #[.int .u64 a, .int .u64 b, .int .i64 c, .int .i64 d] w fun e w' => e = .returned (.bool true) ∧ Below w.heap.size w w' := by
  have HB : Below w.heap.size w w := Below.refl _ _
  have A1 : Hid (addI a b = a + b) := if_pos ha
  have A2 : Hid (addB a b = true) := decide_eq_true ha
  have S1 : Hid (sumI c d = c + d) := if_pos (by omega)
  have S2 : Hid (sumB c d = true) := decide_eq_true (by omega)
  have f1 : decide (a ≤ 18446744073709551615 - b) = true := by rw [decide_eq_true_iff]; omega
  have g1 : decide (0 ≤ d) = true := by rw [decide_eq_true_iff]; omega
  have g2 : decide (d < 0) = false := by rw [decide_eq_false_iff_not]; omega
  have f2 : decide (c ≤ 9223372036854775807 - d) = true := by rw [decide_eq_true_iff]; omega
  go_enter Try.func4, Try.ntmps4
  go_wp2_with fail
  refine (Add_at a b _ a1 a2 b1 b2 _ _ A1 A2).mono ?_; rintro e w' ⟨rfl, rfl⟩
  go_wp2_with fail
  refine (Sum_at c d _ c1 c2 d1 d2 _ _ S1 S2).mono ?_; rintro e w' ⟨rfl, rfl⟩
  go_wp2_with (go_at_call 6; refine (works_any _).mono ?_; rintro e w' ⟨rfl, hb⟩; replace HB := HB.trans (hb.mono HB.size); clear hb)
  go_ret
  exact ⟨rfl, HB⟩

set_option maxHeartbeats 1000000 in
set_option maxRecDepth 100000 in
theorem walk2 (a b c d : Int) (a1 : 0 ≤ a) (a2 : a ≤ 18446744073709551615) (b1 : 0 ≤ b) (b2 : b ≤ 18446744073709551615) (c1 : -9223372036854775808 ≤ c) (c2 : c ≤ 9223372036854775807) (d1 : -9223372036854775808 ≤ d) (d2 : d ≤ 9223372036854775807) (ha : a + b ≤ 18446744073709551615) (hd : 0 ≤ d) (hs : 9223372036854775807 < c + d) (w : World) :
    Calls Try.prog 4 #[.int .u64 a, .int .u64 b, .int .i64 c, .int .i64 d] w fun e w' => e = .returned (.bool true) ∧ Below w.heap.size w w' := by
  have HB : Below w.heap.size w w := Below.refl _ _
  have A1 : Hid (addI a b = a + b) := if_pos ha
  have A2 : Hid (addB a b = true) := decide_eq_true ha
  have S1 : Hid (sumI c d = 0) := if_neg (by omega)
  have S2 : Hid (sumB c d = false) := decide_eq_false (by omega)
  have f1 : decide (a ≤ 18446744073709551615 - b) = true := by rw [decide_eq_true_iff]; omega
  have g1 : decide (0 ≤ d) = true := by rw [decide_eq_true_iff]; omega
  have g2 : decide (d < 0) = false := by rw [decide_eq_false_iff_not]; omega
  have f2 : decide (c ≤ 9223372036854775807 - d) = false := by rw [decide_eq_false_iff_not]; omega
  go_enter Try.func4, Try.ntmps4
  go_wp2_with fail
  refine (Add_at a b _ a1 a2 b1 b2 _ _ A1 A2).mono ?_; rintro e w' ⟨rfl, rfl⟩
  go_wp2_with fail
  refine (Sum_at c d _ c1 c2 d1 d2 _ _ S1 S2).mono ?_; rintro e w' ⟨rfl, rfl⟩
  go_wp2_with (go_at_call 6; refine (works_any _).mono ?_; rintro e w' ⟨rfl, hb⟩; replace HB := HB.trans (hb.mono HB.size); clear hb)
  go_ret
  exact ⟨rfl, HB⟩

set_option maxHeartbeats 1000000 in
set_option maxRecDepth 100000 in
theorem walk3 (a b c d : Int) (a1 : 0 ≤ a) (a2 : a ≤ 18446744073709551615) (b1 : 0 ≤ b) (b2 : b ≤ 18446744073709551615) (c1 : -9223372036854775808 ≤ c) (c2 : c ≤ 9223372036854775807) (d1 : -9223372036854775808 ≤ d) (d2 : d ≤ 9223372036854775807) (ha : a + b ≤ 18446744073709551615) (hd : d < 0) (hs : -9223372036854775808 ≤ c + d) (w : World) :
    Calls Try.prog 4 #[.int .u64 a, .int .u64 b, .int .i64 c, .int .i64 d] w fun e w' => e = .returned (.bool true) ∧ Below w.heap.size w w' := by
  have HB : Below w.heap.size w w := Below.refl _ _
  have A1 : Hid (addI a b = a + b) := if_pos ha
  have A2 : Hid (addB a b = true) := decide_eq_true ha
  have S1 : Hid (sumI c d = c + d) := if_pos (by omega)
  have S2 : Hid (sumB c d = true) := decide_eq_true (by omega)
  have f1 : decide (a ≤ 18446744073709551615 - b) = true := by rw [decide_eq_true_iff]; omega
  have g1 : decide (0 ≤ d) = false := by rw [decide_eq_false_iff_not]; omega
  have g2 : decide (d < 0) = true := by rw [decide_eq_true_iff]; omega
  have f2 : decide (-9223372036854775808 - d ≤ c) = true := by rw [decide_eq_true_iff]; omega
  go_enter Try.func4, Try.ntmps4
  go_wp2_with fail
  refine (Add_at a b _ a1 a2 b1 b2 _ _ A1 A2).mono ?_; rintro e w' ⟨rfl, rfl⟩
  go_wp2_with fail
  refine (Sum_at c d _ c1 c2 d1 d2 _ _ S1 S2).mono ?_; rintro e w' ⟨rfl, rfl⟩
  go_wp2_with (go_at_call 6; refine (works_any _).mono ?_; rintro e w' ⟨rfl, hb⟩; replace HB := HB.trans (hb.mono HB.size); clear hb)
  go_ret
  exact ⟨rfl, HB⟩

set_option maxHeartbeats 1000000 in
set_option maxRecDepth 100000 in
theorem walk4 (a b c d : Int) (a1 : 0 ≤ a) (a2 : a ≤ 18446744073709551615) (b1 : 0 ≤ b) (b2 : b ≤ 18446744073709551615) (c1 : -9223372036854775808 ≤ c) (c2 : c ≤ 9223372036854775807) (d1 : -9223372036854775808 ≤ d) (d2 : d ≤ 9223372036854775807) (ha : a + b ≤ 18446744073709551615) (hd : d < 0) (hs : c + d < -9223372036854775808) (w : World) :
    Calls Try.prog 4 #[.int .u64 a, .int .u64 b, .int .i64 c, .int .i64 d] w fun e w' => e = .returned (.bool true) ∧ Below w.heap.size w w' := by
  have HB : Below w.heap.size w w := Below.refl _ _
  have A1 : Hid (addI a b = a + b) := if_pos ha
  have A2 : Hid (addB a b = true) := decide_eq_true ha
  have S1 : Hid (sumI c d = 0) := if_neg (by omega)
  have S2 : Hid (sumB c d = false) := decide_eq_false (by omega)
  have f1 : decide (a ≤ 18446744073709551615 - b) = true := by rw [decide_eq_true_iff]; omega
  have g1 : decide (0 ≤ d) = false := by rw [decide_eq_false_iff_not]; omega
  have g2 : decide (d < 0) = true := by rw [decide_eq_true_iff]; omega
  have f2 : decide (-9223372036854775808 - d ≤ c) = false := by rw [decide_eq_false_iff_not]; omega
  go_enter Try.func4, Try.ntmps4
  go_wp2_with fail
  refine (Add_at a b _ a1 a2 b1 b2 _ _ A1 A2).mono ?_; rintro e w' ⟨rfl, rfl⟩
  go_wp2_with fail
  refine (Sum_at c d _ c1 c2 d1 d2 _ _ S1 S2).mono ?_; rintro e w' ⟨rfl, rfl⟩
  go_wp2_with (go_at_call 6; refine (works_any _).mono ?_; rintro e w' ⟨rfl, hb⟩; replace HB := HB.trans (hb.mono HB.size); clear hb)
  go_ret
  exact ⟨rfl, HB⟩

set_option maxHeartbeats 1000000 in
set_option maxRecDepth 100000 in
theorem walk5 (a b c d : Int) (a1 : 0 ≤ a) (a2 : a ≤ 18446744073709551615) (b1 : 0 ≤ b) (b2 : b ≤ 18446744073709551615) (c1 : -9223372036854775808 ≤ c) (c2 : c ≤ 9223372036854775807) (d1 : -9223372036854775808 ≤ d) (d2 : d ≤ 9223372036854775807) (ha : 18446744073709551615 < a + b) (hd : 0 ≤ d) (hs : c + d ≤ 9223372036854775807) (w : World) :
    Calls Try.prog 4 #[.int .u64 a, .int .u64 b, .int .i64 c, .int .i64 d] w fun e w' => e = .returned (.bool true) ∧ Below w.heap.size w w' := by
  have HB : Below w.heap.size w w := Below.refl _ _
  have A1 : Hid (addI a b = 0) := if_neg (by omega)
  have A2 : Hid (addB a b = false) := decide_eq_false (by omega)
  have S1 : Hid (sumI c d = c + d) := if_pos (by omega)
  have S2 : Hid (sumB c d = true) := decide_eq_true (by omega)
  have f1 : decide (a ≤ 18446744073709551615 - b) = false := by rw [decide_eq_false_iff_not]; omega
  have g1 : decide (0 ≤ d) = true := by rw [decide_eq_true_iff]; omega
  have g2 : decide (d < 0) = false := by rw [decide_eq_false_iff_not]; omega
  have f2 : decide (c ≤ 9223372036854775807 - d) = true := by rw [decide_eq_true_iff]; omega
  go_enter Try.func4, Try.ntmps4
  go_wp2_with fail
  refine (Add_at a b _ a1 a2 b1 b2 _ _ A1 A2).mono ?_; rintro e w' ⟨rfl, rfl⟩
  go_wp2_with fail
  refine (Sum_at c d _ c1 c2 d1 d2 _ _ S1 S2).mono ?_; rintro e w' ⟨rfl, rfl⟩
  go_wp2_with (go_at_call 6; refine (works_any _).mono ?_; rintro e w' ⟨rfl, hb⟩; replace HB := HB.trans (hb.mono HB.size); clear hb)
  go_ret
  exact ⟨rfl, HB⟩

set_option maxHeartbeats 1000000 in
set_option maxRecDepth 100000 in
theorem walk6 (a b c d : Int) (a1 : 0 ≤ a) (a2 : a ≤ 18446744073709551615) (b1 : 0 ≤ b) (b2 : b ≤ 18446744073709551615) (c1 : -9223372036854775808 ≤ c) (c2 : c ≤ 9223372036854775807) (d1 : -9223372036854775808 ≤ d) (d2 : d ≤ 9223372036854775807) (ha : 18446744073709551615 < a + b) (hd : 0 ≤ d) (hs : 9223372036854775807 < c + d) (w : World) :
    Calls Try.prog 4 #[.int .u64 a, .int .u64 b, .int .i64 c, .int .i64 d] w fun e w' => e = .returned (.bool true) ∧ Below w.heap.size w w' := by
  have HB : Below w.heap.size w w := Below.refl _ _
  have A1 : Hid (addI a b = 0) := if_neg (by omega)
  have A2 : Hid (addB a b = false) := decide_eq_false (by omega)
  have S1 : Hid (sumI c d = 0) := if_neg (by omega)
  have S2 : Hid (sumB c d = false) := decide_eq_false (by omega)
  have f1 : decide (a ≤ 18446744073709551615 - b) = false := by rw [decide_eq_false_iff_not]; omega
  have g1 : decide (0 ≤ d) = true := by rw [decide_eq_true_iff]; omega
  have g2 : decide (d < 0) = false := by rw [decide_eq_false_iff_not]; omega
  have f2 : decide (c ≤ 9223372036854775807 - d) = false := by rw [decide_eq_false_iff_not]; omega
  go_enter Try.func4, Try.ntmps4
  go_wp2_with fail
  refine (Add_at a b _ a1 a2 b1 b2 _ _ A1 A2).mono ?_; rintro e w' ⟨rfl, rfl⟩
  go_wp2_with fail
  refine (Sum_at c d _ c1 c2 d1 d2 _ _ S1 S2).mono ?_; rintro e w' ⟨rfl, rfl⟩
  go_wp2_with (go_at_call 6; refine (works_any _).mono ?_; rintro e w' ⟨rfl, hb⟩; replace HB := HB.trans (hb.mono HB.size); clear hb)
  go_ret
  exact ⟨rfl, HB⟩

set_option maxHeartbeats 1000000 in
set_option maxRecDepth 100000 in
theorem walk7 (a b c d : Int) (a1 : 0 ≤ a) (a2 : a ≤ 18446744073709551615) (b1 : 0 ≤ b) (b2 : b ≤ 18446744073709551615) (c1 : -9223372036854775808 ≤ c) (c2 : c ≤ 9223372036854775807) (d1 : -9223372036854775808 ≤ d) (d2 : d ≤ 9223372036854775807) (ha : 18446744073709551615 < a + b) (hd : d < 0) (hs : -9223372036854775808 ≤ c + d) (w : World) :
    Calls Try.prog 4 #[.int .u64 a, .int .u64 b, .int .i64 c, .int .i64 d] w fun e w' => e = .returned (.bool true) ∧ Below w.heap.size w w' := by
  have HB : Below w.heap.size w w := Below.refl _ _
  have A1 : Hid (addI a b = 0) := if_neg (by omega)
  have A2 : Hid (addB a b = false) := decide_eq_false (by omega)
  have S1 : Hid (sumI c d = c + d) := if_pos (by omega)
  have S2 : Hid (sumB c d = true) := decide_eq_true (by omega)
  have f1 : decide (a ≤ 18446744073709551615 - b) = false := by rw [decide_eq_false_iff_not]; omega
  have g1 : decide (0 ≤ d) = false := by rw [decide_eq_false_iff_not]; omega
  have g2 : decide (d < 0) = true := by rw [decide_eq_true_iff]; omega
  have f2 : decide (-9223372036854775808 - d ≤ c) = true := by rw [decide_eq_true_iff]; omega
  go_enter Try.func4, Try.ntmps4
  go_wp2_with fail
  refine (Add_at a b _ a1 a2 b1 b2 _ _ A1 A2).mono ?_; rintro e w' ⟨rfl, rfl⟩
  go_wp2_with fail
  refine (Sum_at c d _ c1 c2 d1 d2 _ _ S1 S2).mono ?_; rintro e w' ⟨rfl, rfl⟩
  go_wp2_with (go_at_call 6; refine (works_any _).mono ?_; rintro e w' ⟨rfl, hb⟩; replace HB := HB.trans (hb.mono HB.size); clear hb)
  go_ret
  exact ⟨rfl, HB⟩

set_option maxHeartbeats 1000000 in
set_option maxRecDepth 100000 in
theorem walk8 (a b c d : Int) (a1 : 0 ≤ a) (a2 : a ≤ 18446744073709551615) (b1 : 0 ≤ b) (b2 : b ≤ 18446744073709551615) (c1 : -9223372036854775808 ≤ c) (c2 : c ≤ 9223372036854775807) (d1 : -9223372036854775808 ≤ d) (d2 : d ≤ 9223372036854775807) (ha : 18446744073709551615 < a + b) (hd : d < 0) (hs : c + d < -9223372036854775808) (w : World) :
    Calls Try.prog 4 #[.int .u64 a, .int .u64 b, .int .i64 c, .int .i64 d] w fun e w' => e = .returned (.bool true) ∧ Below w.heap.size w w' := by
  have HB : Below w.heap.size w w := Below.refl _ _
  have A1 : Hid (addI a b = 0) := if_neg (by omega)
  have A2 : Hid (addB a b = false) := decide_eq_false (by omega)
  have S1 : Hid (sumI c d = 0) := if_neg (by omega)
  have S2 : Hid (sumB c d = false) := decide_eq_false (by omega)
  have f1 : decide (a ≤ 18446744073709551615 - b) = false := by rw [decide_eq_false_iff_not]; omega
  have g1 : decide (0 ≤ d) = false := by rw [decide_eq_false_iff_not]; omega
  have g2 : decide (d < 0) = true := by rw [decide_eq_true_iff]; omega
  have f2 : decide (-9223372036854775808 - d ≤ c) = false := by rw [decide_eq_false_iff_not]; omega
  go_enter Try.func4, Try.ntmps4
  go_wp2_with fail
  refine (Add_at a b _ a1 a2 b1 b2 _ _ A1 A2).mono ?_; rintro e w' ⟨rfl, rfl⟩
  go_wp2_with fail
  refine (Sum_at c d _ c1 c2 d1 d2 _ _ S1 S2).mono ?_; rintro e w' ⟨rfl, rfl⟩
  go_wp2_with (go_at_call 6; refine (works_any _).mono ?_; rintro e w' ⟨rfl, hb⟩; replace HB := HB.trans (hb.mono HB.size); clear hb)
  go_ret
  exact ⟨rfl, HB⟩

theorem walk (a b c d : Int) (ha : (Lit.int .u64 a).wf = true) (hb : (Lit.int .u64 b).wf = true) (hc : (Lit.int .i64 c).wf = true) (hd : (Lit.int .i64 d).wf = true) (w : World) :
    Calls Try.prog 4 #[.int .u64 a, .int .u64 b, .int .i64 c, .int .i64 d] w fun e w' => e = .returned (.bool true) ∧ Below w.heap.size w w' := by
  obtain ⟨a1, a2⟩ := bounds_u64 ha
  obtain ⟨b1, b2⟩ := bounds_u64 hb
  obtain ⟨c1, c2⟩ := bounds_i64 hc
  obtain ⟨d1, d2⟩ := bounds_i64 hd
  by_cases h1 : a + b ≤ 18446744073709551615
  · by_cases h2 : 0 ≤ d
    · by_cases h3 : c + d ≤ 9223372036854775807
      · exact walk1 a b c d a1 a2 b1 b2 c1 c2 d1 d2 h1 h2 h3 w
      · exact walk2 a b c d a1 a2 b1 b2 c1 c2 d1 d2 h1 h2 (by omega) w
    · by_cases h3 : -9223372036854775808 ≤ c + d
      · exact walk3 a b c d a1 a2 b1 b2 c1 c2 d1 d2 h1 (by omega) h3 w
      · exact walk4 a b c d a1 a2 b1 b2 c1 c2 d1 d2 h1 (by omega) (by omega) w
  · by_cases h2 : 0 ≤ d
    · by_cases h3 : c + d ≤ 9223372036854775807
      · exact walk5 a b c d a1 a2 b1 b2 c1 c2 d1 d2 (by omega) h2 h3 w
      · exact walk6 a b c d a1 a2 b1 b2 c1 c2 d1 d2 (by omega) h2 (by omega) w
    · by_cases h3 : -9223372036854775808 ≤ c + d
      · exact walk7 a b c d a1 a2 b1 b2 c1 c2 d1 d2 (by omega) (by omega) h3 w
      · exact walk8 a b c d a1 a2 b1 b2 c1 c2 d1 d2 (by omega) (by omega) (by omega) w

end Go.Proofs.Ytlikbkffadpbeaa.numSums
