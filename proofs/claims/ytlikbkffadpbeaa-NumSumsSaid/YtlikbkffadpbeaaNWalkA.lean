/-
  Contracts of layer 2's functions without a loop: Turn, Back, Add, Sum, Size.
-/
import Derived.Test.YtlikbkffadpbeaaShelf
import Derived.Test.YtlikbkffadpbeaaNPure
import Derived.WalkKit
import Derived.BigCall
import Derived.Lib.OthersKept
import Derived.Lib.Hide
import Derived.Shelf.Spec.BitsCarry
import Derived.IntWalk
import Derived.Laws.BitsAllLaws
namespace Go.Proofs.Ytlikbkffadpbeaa
open Go.RowKit Go.Shelf

theorem ret_int {k : IntKind} {a b : Int} (h : a = b) : Ending.returned (.int k a) = Ending.returned (.int k b) := by rw [h]
theorem ret_bool {a b : Bool} (h : a = b) : Ending.returned (.bool a) = Ending.returned (.bool b) := by rw [h]

theorem i64_not_any (i : Int) (h1 : -9223372036854775808 ≤ i) (h2 : i ≤ 9223372036854775807) : bits .xor .i64 (-1) i = -i - 1 := by
  show IntKind.i64.wrap ((BitVec.ofInt 64 (-1) ^^^ BitVec.ofInt 64 i).toNat : Int) = _
  have h1 : BitVec.ofInt 64 (-1) = BitVec.allOnes 64 := by decide
  rw [h1, BitVec.allOnes_xor, BitVec.toNat_not, BitVec.toNat_ofInt, IntKind.wrap_i64]
  omega

theorem Turn_any (i : Int) (w : World) (h1 : -9223372036854775808 ≤ i) (h2 : i ≤ 9223372036854775807) :
    Calls Try.prog 10 #[.int .i64 i] w fun e w' => e = .returned (.int .u64 (tnI i)) ∧ w = w' := by
  by_cases hh : 0 ≤ i
  · go_enter Try.func10, Try.ntmps10
    go_wp2_with fail
    go_ret
    exact ⟨ret_int (by unfold tnI; rw [if_pos hh]), rfl⟩
  · go_enter Try.func10, Try.ntmps10
    go_wp2_with fail
    go_ret
    exact ⟨ret_int (by unfold tnI; rw [if_neg (by omega), i64_not_any i h1 h2]; simp only [IntKind.wrap_u64]; omega), rfl⟩

theorem Back_any (n : Int) (w : World) (h1 : 0 ≤ n) (h2 : n ≤ 18446744073709551615) :
    Calls Try.prog 9 #[.int .u64 n] w fun e w' => e = .returned (.int .i64 (bkI n)) ∧ w = w' := by
  by_cases hh : n % 2 = 0
  · go_enter Try.func9, Try.ntmps9
    go_wp2_with fail
    go_ret
    exact ⟨ret_int (by unfold bkI; rw [if_pos hh]), rfl⟩
  · go_enter Try.func9, Try.ntmps9
    go_wp2_with fail
    go_ret
    exact ⟨ret_int (by unfold bkI; rw [if_neg hh, i64_not_any _ (by omega) (by omega)]), rfl⟩

/-- Sum: what comes of it. -/
def sumI (a b : Int) : Int := if -9223372036854775808 ≤ a + b ∧ a + b ≤ 9223372036854775807 then a + b else 0
def sumB (a b : Int) : Bool := decide (-9223372036854775808 ≤ a + b ∧ a + b ≤ 9223372036854775807)
theorem Sum_any (a b : Int) (w : World) (h1 : -9223372036854775808 ≤ a) (h2 : a ≤ 9223372036854775807) (h3 : -9223372036854775808 ≤ b) (h4 : b ≤ 9223372036854775807) :
    Calls Try.prog 12 #[.int .i64 a, .int .i64 b] w fun e w' => e = .returned (.tuple #[.int .i64 (sumI a b), .bool (sumB a b)]) ∧ w = w' := by
  by_cases h : -9223372036854775808 ≤ a + b ∧ a + b ≤ 9223372036854775807
  · have e1 : (decide (a + b < a) == decide (b < 0)) = true := by
      rw [Bool.beq_eq_decide_eq, decide_eq_true_iff]; rw [decide_eq_decide]; omega
    have e2 := h.1
    have e3 := h.2
    have E1 : sumI a b = a + b := if_pos h
    have E2 : sumB a b = true := decide_eq_true h
    rw [E1, E2]
    clear h E1 E2
    go_enter Try.func12, Try.ntmps12
    go_wp2_with fail
    go_ret2
    exact ⟨rfl, rfl⟩
  · have e1 : (decide (wrap64 (a + b) < a) == decide (b < 0)) = false := by
      rw [Bool.beq_eq_decide_eq, decide_eq_false_iff_not, decide_eq_decide]; unfold wrap64; omega
    have E1 : sumI a b = 0 := if_neg h
    have E2 : sumB a b = false := decide_eq_false h
    rw [E1, E2]
    clear h E1 E2
    go_enter Try.func12, Try.ntmps12
    go_wp2_with fail
    go_ret2
    exact ⟨rfl, rfl⟩

theorem add64_c (x y c : Nat) (hc : c ≤ 1) (w : World) :
    (callFunc 15 #[.int .u64 x, .int .u64 y, .int .u64 c]).run Try.prog w =
      .ok (.value (.tuple #[.int .u64 (((x + y + c) % 18446744073709551616 : Nat) : Int), .int .u64 (((x + y + c) / 18446744073709551616 : Nat) : Int)])) w := by
  rw [run_callFunc_extern Try.func15 (by kernel_rfl) (by kernel_rfl) (by kernel_rfl) (e := add64Entry) (by kernel_rfl), run_add64 x y c (by omega) (by omega) (by omega) (by omega)]
  simp only [Result.andThen]
  congr 5 <;> omega

theorem add64_0 (x y : Int) (hx : 0 ≤ x) (h1 : x ≤ 18446744073709551615) (hy : 0 ≤ y) (h2 : y ≤ 18446744073709551615) (w : World) : (callFunc 15 #[.int .u64 x, .int .u64 y, .int .u64 0]).run Try.prog w =
    .ok (.value (.tuple #[.int .u64 ((x + y) % 18446744073709551616), .int .u64 ((x + y) / 18446744073709551616)])) w := by
  obtain ⟨x, rfl⟩ := Int.eq_ofNat_of_zero_le hx
  obtain ⟨y, rfl⟩ := Int.eq_ofNat_of_zero_le hy
  refine (add64_c x y 0 (by omega) w).trans ?_
  congr 5 <;> omega

/-- Add: what comes of it. -/
def addI (a b : Int) : Int := if a + b ≤ 18446744073709551615 then a + b else 0
def addB (a b : Int) : Bool := decide (a + b ≤ 18446744073709551615)
theorem Add_any (a b : Int) (w : World) (h1 : 0 ≤ a) (h2 : a ≤ 18446744073709551615) (h3 : 0 ≤ b) (h4 : b ≤ 18446744073709551615) :
    Calls Try.prog 11 #[.int .u64 a, .int .u64 b] w fun e w' => e = .returned (.tuple #[.int .u64 (addI a b), .bool (addB a b)]) ∧ w = w' := by
  by_cases h : a + b ≤ 18446744073709551615
  · have e1 : decide (0 < (a + b) / 18446744073709551616) = false := by rw [decide_eq_false_iff_not]; omega
    have E1 : addI a b = (a + b) % 18446744073709551616 := (if_pos h).trans (by omega)
    have E2 : addB a b = true := decide_eq_true h
    rw [E1, E2]
    clear h E1 E2
    go_enter Try.func11, Try.ntmps11
    go_wp2_with (simp only [add64_0 a b h1 h2 h3 h4])
    go_ret2
    exact ⟨rfl, rfl⟩
  · have e1 : decide (0 < (a + b) / 18446744073709551616) = true := by rw [decide_eq_true_iff]; omega
    have E1 : addI a b = 0 := if_neg h
    have E2 : addB a b = false := decide_eq_false h
    rw [E1, E2]
    clear h E1 E2
    go_enter Try.func11, Try.ntmps11
    go_wp2_with (simp only [add64_0 a b h1 h2 h3 h4])
    go_ret2
    exact ⟨rfl, rfl⟩

theorem Size_any (n : Nat) (w : World) (h : n ≤ 18446744073709551615) :
    Calls Try.prog 13 #[.int .u64 n] w fun e w' => e = .returned (.int .i64 ((ub n).length : Nat)) ∧ w = w' := by
  have hb : Lib.bitLen n ≤ 64 := by
    have : ∀ f x, Lib.bitLenAux f x ≤ f := by
      intro f
      induction f with
      | zero => intro x; simp [Lib.bitLenAux]
      | succ f ih => intro x; simp only [Lib.bitLenAux]; split; omega; have := ih (x / 2); omega
    exact this 64 n
  have E := size_ub n (by omega)
  rw [E]
  clear E
  go_enter Try.func13, Try.ntmps13
  go_wp2_with (go_at_call 16; refine (Try.bits_Len64 _ _ (by omega) (by omega)).mono ?_; rintro e w' ⟨rfl, rfl⟩)
  go_ret
  exact ⟨ret_int (by omega), rfl⟩

end Go.Proofs.Ytlikbkffadpbeaa
