/-
  Contracts of layer 4: words turned right.
-/
import Derived.Test.YteajhimmhlccdaaDoorProg
import Derived.Test.YteajhimmhlccdaaDoorSPure
import Derived.WalkKit
import Derived.BigCall
import Derived.BigQuiet
import Derived.Deep.QuietTactic
import Derived.Lib.OthersKept
import Derived.Lib.Hide
import Derived.IntWalk
import Derived.Below
import Derived.Laws.BitsAllLaws
namespace Go.Proofs.YteajhimmhlccdaaDoor
open Go.RowKit

theorem ret_int {k : IntKind} {a b : Int} (h : a = b) : Ending.returned (.int k a) = Ending.returned (.int k b) := by rw [h]
theorem ret_bool {a b : Bool} (h : a = b) : Ending.returned (.bool a) = Ending.returned (.bool b) := by rw [h]

theorem quiet_eq {P : Program} {f : FuncId} {args : Array Value} {w : World} {n : Nat} {v : Value}
    (h : Calls P f args (w.drewN n) fun e w' => e = .returned v ∧ w.drewN n = w') : Calls P f args (w.drewN n) fun e w'' => e = .returned v ∧ ∃ m, w'' = w.drewN m :=
  h.mono fun _ _ ⟨he, hm⟩ => ⟨he, n, hm.symm⟩

theorem and31 (n : Nat) (h1 : 0 < n) (h2 : n < 32) : bits .and .u64 (IntKind.u64.wrap (-(n : Int))) 31 = ((32 - n : Nat) : Int) := by
  have e : IntKind.u64.wrap (-(n : Int)) = ((18446744073709551616 - n : Nat) : Int) := by rw [IntKind.wrap_u64]; omega
  rw [e, show (31 : Int) = ((31 : Nat) : Int) from rfl, u64_and_nat _ 31 (by omega) (by decide), nat_mask5]
  congr 1
  omega

theorem xor_i (a b : Nat) (ha : a < 4294967296) (hb : b < 4294967296) : bits .xor .u32 (a : Int) (b : Int) = ((a ^^^ b : Nat) : Int) := u32_xor_nat a b ha hb
theorem and_i (a b : Nat) (ha : a < 4294967296) (hb : b < 4294967296) : bits .and .u32 (a : Int) (b : Int) = ((a &&& b : Nat) : Int) := u32_and_nat a b ha hb
theorem or_i (a b : Nat) (ha : a < 4294967296) (hb : b < 4294967296) : bits .or .u32 (a : Int) (b : Int) = ((a ||| b : Nat) : Int) := u32_or_nat a b ha hb
theorem cast_div (x n : Nat) : ((x : Int) / 2 ^ n) = ((x / 2 ^ n : Nat) : Int) := by simp
theorem cast_mulmod (x n : Nat) : ((x : Int) * 2 ^ n % 4294967296) = ((x * 2 ^ n % 4294967296 : Nat) : Int) := by simp
theorem rot_i (x n : Nat) (hx : x < 4294967296) : bits .or .u32 ((x : Int) / 2 ^ n) ((x : Int) * 2 ^ (32 - n) % 4294967296) = (rot x n : Nat) := by
  rw [cast_div, cast_mulmod, or_i _ _ (div32 _ hx) (mod32 _)]; rfl
theorem rot_j (x n : Nat) (hx : x < 4294967296) (hn : n < 32) : bits .or .u32 ((x : Int) * 2 ^ (32 - n) % 4294967296) ((x : Int) / 2 ^ (32 - (32 - n))) = (rot x n : Nat) := by
  rw [show 32 - (32 - n) = n by omega, cast_div, cast_mulmod, or_i _ _ (mod32 _) (div32 _ hx), Nat.or_comm]; rfl

theorem rotl_any (x n : Nat) (hx : x < 4294967296) (h1 : 0 < n) (h2 : n < 32) (w : World) :
    Calls Tryd.prog 29 #[.int .u32 x, .int .i64 (-(n : Int))] w fun e w' => e = .returned (.int .u32 (rot x n : Nat)) ∧ w = w' := by
  have H := and31 n h1 h2
  go_enter Tryd.func29, Tryd.ntmps29
  go_wp2_with fail
  go_ret
  exact ⟨ret_int (rot_j x n hx h2), rfl⟩

theorem right_any (x n : Nat) (hx : x < 4294967296) (h1 : 0 < n) (h2 : n < 32) (w : World) :
    Calls Tryd.prog 23 #[.int .u32 x, .int .u64 n] w fun e w' => e = .returned (.int .u32 (rot x n : Nat)) ∧ w = w' := by
  go_enter Tryd.func23, Tryd.ntmps23
  go_wp2_with fail
  go_ret
  exact ⟨ret_int (rot_i x n hx), rfl⟩

theorem turned_any (x i j k : Nat) (hx : x < 4294967296) (h1 : 0 < i) (h2 : i < 32) (h3 : 0 < j) (h4 : j < 32) (h5 : 0 < k) (h6 : k < 32) (w : World) :
    Calls Tryd.prog 25 #[.int .u32 x, .int .i64 i, .int .i64 j, .int .i64 k] w fun e w' => e = .returned (.int .u32 ((rot x i ^^^ rot x j) ^^^ rot x k : Nat)) ∧ w = w' := by
  have r1 := rot_lt i hx
  have r2 := rot_lt j hx
  have r3 := rot_lt k hx
  have E1 := Lib.hid (xor_i (rot x i) (rot x j) r1 r2)
  have E2 := Lib.hid (xor_i (rot x i ^^^ rot x j) (rot x k) (xor32 r1 r2) r3)
  go_enter Tryd.func25, Tryd.ntmps25
  go_wp2_with (go_at_call 29; refine (rotl_any _ _ (by assumption) (by assumption) (by assumption) _).mono ?_; rintro e w' ⟨rfl, rfl⟩)
  go_ret
  exact ⟨ret_int (by rw [E1.out, E2.out]), rfl⟩

theorem shifted_any (x i j k : Nat) (hx : x < 4294967296) (h1 : 0 < i) (h2 : i < 32) (h3 : 0 < j) (h4 : j < 32) (h6 : k < 32) (w : World) :
    Calls Tryd.prog 28 #[.int .u32 x, .int .i64 i, .int .i64 j, .int .i64 k] w fun e w' => e = .returned (.int .u32 ((rot x i ^^^ rot x j) ^^^ x / 2 ^ k : Nat)) ∧ ∃ n, w' = w.drewN n := by
  have r1 := rot_lt i hx
  have r2 := rot_lt j hx
  have E1 := Lib.hid (xor_i (rot x i) (rot x j) r1 r2)
  have E2 := Lib.hid (xor_i (rot x i ^^^ rot x j) (x / 2 ^ k) (xor32 r1 r2) (div32 _ hx))
  have E3 := Lib.hid (cast_div x k)
  go_enter Tryd.func28, Tryd.ntmps28
  go_wp2_with fail
  go_quiet ((go_at_call 29; exact quiet_eq (rotl_any _ _ (by assumption) (by assumption) (by assumption) _)))
  go_wp2_with fail
  go_ret
  exact ⟨ret_int (by rw [E3.out, E1.out, E2.out]), nq, rfl⟩

theorem turned_S1 (x : Nat) (hx : x < 4294967296) (w : World) : Calls Tryd.prog 25 #[.int .u32 x, .int .i64 6, .int .i64 11, .int .i64 25] w fun e w' => e = .returned (.int .u32 (S1 x : Nat)) ∧ w = w' :=
  turned_any x 6 11 25 hx (by decide) (by decide) (by decide) (by decide) (by decide) (by decide) w
theorem turned_S0 (x : Nat) (hx : x < 4294967296) (w : World) : Calls Tryd.prog 25 #[.int .u32 x, .int .i64 2, .int .i64 13, .int .i64 22] w fun e w' => e = .returned (.int .u32 (S0 x : Nat)) ∧ w = w' :=
  turned_any x 2 13 22 hx (by decide) (by decide) (by decide) (by decide) (by decide) (by decide) w
theorem shifted_g1 (x : Nat) (hx : x < 4294967296) (w : World) : Calls Tryd.prog 28 #[.int .u32 x, .int .i64 17, .int .i64 19, .int .i64 10] w fun e w' => e = .returned (.int .u32 (g1 x : Nat)) ∧ ∃ n, w' = w.drewN n :=
  shifted_any x 17 19 10 hx (by decide) (by decide) (by decide) (by decide) (by decide) w
theorem shifted_g0 (x : Nat) (hx : x < 4294967296) (w : World) : Calls Tryd.prog 28 #[.int .u32 x, .int .i64 7, .int .i64 18, .int .i64 3] w fun e w' => e = .returned (.int .u32 (g0 x : Nat)) ∧ ∃ n, w' = w.drewN n :=
  shifted_any x 7 18 3 hx (by decide) (by decide) (by decide) (by decide) (by decide) w
end Go.Proofs.YteajhimmhlccdaaDoor
