/-
  Contracts of layer 4: the document's constants: products of two numbers, roots, primes.
-/
import Derived.Test.YteajhimmhlccdaaDoorSWalkA
import Derived.OwnWalk
import Derived.Deep.CutBlock
namespace Go.Proofs.YteajhimmhlccdaaDoor
open Go.RowKit

def mlow (a b : Nat) : Nat := (a % 4294967296) * (b % 4294967296) % 18446744073709551616
def mmid (a b : Nat) : Nat := ((a / 4294967296) * (b % 4294967296) % 18446744073709551616 + mlow a b / 4294967296) % 18446744073709551616
def mmore (a b : Nat) : Nat := ((a % 4294967296) * (b / 4294967296) % 18446744073709551616 + mmid a b % 4294967296) % 18446744073709551616
def mhi (a b : Nat) : Nat := (((a / 4294967296) * (b / 4294967296) % 18446744073709551616 + mmid a b / 4294967296) % 18446744073709551616 + mmore a b / 4294967296) % 18446744073709551616
def mlo (a b : Nat) : Nat := (mmore a b * 4294967296 % 18446744073709551616) ||| (mlow a b % 4294967296)

theorem and_lo (a : Nat) (h : a < 18446744073709551616) : bits .and .u64 (a : Int) 4294967295 = ((a % 4294967296 : Nat) : Int) := by
  rw [show (4294967295 : Int) = ((4294967295 : Nat) : Int) from rfl, u64_and_nat _ _ h (by decide)]
  congr 1
  exact Nat.and_two_pow_sub_one_eq_mod a 32
theorem and_lo' (a : Nat) : bits .and .u64 ((a % 18446744073709551616 : Nat) : Int) 4294967295 = ((a % 18446744073709551616 % 4294967296 : Nat) : Int) := and_lo _ (Nat.mod_lt _ (by decide))
theorem wrap_nat (a : Nat) : IntKind.u64.wrap (a : Int) = ((a % 18446744073709551616 : Nat) : Int) := by rw [IntKind.wrap_u64]; omega
theorem wrap_mul (a b : Nat) : IntKind.u64.wrap ((a : Int) * (b : Int)) = ((a * b % 18446744073709551616 : Nat) : Int) := by rw [← wrap_nat]; congr 1
theorem wrap_add (a b : Nat) : IntKind.u64.wrap ((a : Int) + (b : Int)) = (((a + b) % 18446744073709551616 : Nat) : Int) := by rw [← wrap_nat]; congr 1
theorem div_lit (a : Nat) : ((a : Int) / 4294967296) = ((a / 4294967296 : Nat) : Int) := rfl
theorem wrap_shl (a : Nat) : IntKind.u64.wrap ((a : Int) * 4294967296) = ((a * 4294967296 % 18446744073709551616 : Nat) : Int) := wrap_mul a 4294967296
theorem or_lo (a b : Nat) : bits .or .u64 ((a % 18446744073709551616 : Nat) : Int) ((b % 4294967296 : Nat) : Int) = (((a % 18446744073709551616) ||| (b % 4294967296) : Nat) : Int) :=
  u64_or_nat _ _ (Nat.mod_lt _ (by decide)) (Nat.lt_trans (Nat.mod_lt _ (by decide)) (by decide))
theorem ret_two {k : IntKind} {a b c d : Int} (h : a = b) (h' : c = d) : Ending.returned (.tuple #[.int k a, .int k c]) = Ending.returned (.tuple #[.int k b, .int k d]) := by rw [h, h']

theorem mul_any (a b : Nat) (ha : a < 18446744073709551616) (hb : b < 18446744073709551616) (w : World) :
    Calls Tryd.prog 30 #[.int .u64 a, .int .u64 b] w fun e w' => e = .returned (.tuple #[.int .u64 (mhi a b : Nat), .int .u64 (mlo a b : Nat)]) ∧ w = w' := by
  go_enter Tryd.func30, Tryd.ntmps30
  go_wp2_with fail
  go_ret2
  refine ⟨ret_two ?_ ?_, rfl⟩
  · rw [and_lo a ha, and_lo b hb]
    simp only [div_lit, wrap_mul, wrap_add, and_lo']
    rfl
  · rw [and_lo a ha, and_lo b hb]
    simp only [div_lit, wrap_mul, wrap_add, wrap_shl, and_lo']
    rw [or_lo]
    rfl
theorem mhi_lt (a b : Nat) : mhi a b < 18446744073709551616 := Nat.mod_lt _ (by decide)
theorem mlo_lt (a b : Nat) : mlo a b < 18446744073709551616 := Nat.or_lt_two_pow (n := 64) (Nat.mod_lt _ (by decide)) (Nat.lt_trans (Nat.mod_lt _ (by decide)) (by decide))
theorem mul_at (a b : Nat) (ha : a < 18446744073709551616) (hb : b < 18446744073709551616) (w : World) (u v : Nat) (hu : Hid (mhi a b = u)) (hv : Hid (mlo a b = v)) :
    Calls Tryd.prog 30 #[.int .u64 a, .int .u64 b] w fun e w' => e = .returned (.tuple #[.int .u64 (u : Nat), .int .u64 (v : Nat)]) ∧ w = w' := by
  rw [← hu.out, ← hv.out]
  exact mul_any a b ha hb w

def sqB (x p : Nat) : Bool := decide (mhi x x < p) || (decide (mhi x x = p) && decide (mlo x x = 0))
theorem square_any (x p : Nat) (hx : x < 18446744073709551616) (w : World) :
    Calls Tryd.prog 27 #[.int .u64 x, .int .u64 p] w fun e w' => e = .returned (.bool (sqB x p)) ∧ w = w' := by
  obtain ⟨u, hu⟩ : ∃ u, mhi x x = u := ⟨_, rfl⟩
  obtain ⟨v, hv⟩ : ∃ v, mlo x x = v := ⟨_, rfl⟩
  have hu1 : u < 18446744073709551616 := hu ▸ mhi_lt x x
  have hv1 : v < 18446744073709551616 := hv ▸ mlo_lt x x
  have HE : Hid (sqB x p = (decide (u < p) || (decide (u = p) && decide (v = 0)))) := by show _ = _; unfold sqB; rw [hu, hv]
  have HU : Hid (mhi x x = u) := hu
  have HV : Hid (mlo x x = v) := hv
  clear hu hv
  go_enter Tryd.func27, Tryd.ntmps27
  go_wp2_with (go_at_call 30; refine (mul_at _ _ hx hx _ u v HU HV).mono ?_; rintro e w' ⟨rfl, rfl⟩)
  all_goals go_ret
  all_goals refine ⟨ret_bool ?_, rfl⟩
  all_goals rw [HE.out, Bool.eq_iff_iff]
  all_goals simp
  all_goals omega

def mtop (x : Nat) : Nat := (mhi x x * x % 18446744073709551616 + mhi (mlo x x) x) % 18446744073709551616
def cuB (x p : Nat) : Bool := decide (mtop x < p * 4294967296 % 18446744073709551616) || (decide (mtop x = p * 4294967296 % 18446744073709551616) && decide (mlo (mlo x x) x = 0))
structure MulIs (a b u v : Nat) : Prop where
  hi : mhi a b = u
  lo : mlo a b = v
theorem mul_is (a b : Nat) (ha : a < 18446744073709551616) (hb : b < 18446744073709551616) (w : World) (u v : Nat) (h : MulIs a b u v) :
    Calls Tryd.prog 30 #[.int .u64 a, .int .u64 b] w fun e w' => e = .returned (.tuple #[.int .u64 (u : Nat), .int .u64 (v : Nat)]) ∧ w = w' := by
  rw [← h.hi, ← h.lo]
  exact mul_any a b ha hb w
theorem cube_one (x p u v y z t q : Nat) (hx : x < 18446744073709551616) (hv1 : v < 18446744073709551616) (HT : Hid (IntKind.u64.wrap (IntKind.u64.wrap ((u : Int) * (x : Int)) + (y : Int)) = (t : Int))) (HQ : IntKind.u64.wrap ((p : Int) * 4294967296) = (q : Int)) (HU : MulIs x x u v) (HY : MulIs v x y z) (w : World) :
    Calls Tryd.prog 26 #[.int .u64 x, .int .u64 p] w fun e w' => e = .returned (.bool (decide (t < q) || (decide (t = q) && decide (z = 0)))) ∧ w = w' := by
  go_enter Tryd.func26, Tryd.ntmps26
  go_upto_region 4 with (go_at_call 30; refine (mul_is _ _ (by assumption) (by assumption) _ _ _ (by assumption)).mono ?_; rintro e w' ⟨rfl, rfl⟩)
  rw [HT.out]
  go_wp2_with fail
  all_goals go_ret
  all_goals refine ⟨ret_bool ?_, rfl⟩
  all_goals rw [Bool.eq_iff_iff]
  all_goals simp
  all_goals omega
theorem cube_any (x p : Nat) (hx : x < 18446744073709551616) (w : World) :
    Calls Tryd.prog 26 #[.int .u64 x, .int .u64 p] w fun e w' => e = .returned (.bool (cuB x p)) ∧ w = w' :=
  cube_one x p (mhi x x) (mlo x x) (mhi (mlo x x) x) (mlo (mlo x x) x) (mtop x) (p * 4294967296 % 18446744073709551616) hx (mlo_lt x x)
    (show _ = _ by rw [wrap_mul, wrap_add, mtop]) (wrap_shl p) ⟨rfl, rfl⟩ ⟨rfl, rfl⟩ w
theorem cube_at (x p : Nat) (hx : x < 18446744073709551616) (w : World) (b : Bool) (hb : Hid (cuB x p = b)) :
    Calls Tryd.prog 26 #[.int .u64 x, .int .u64 p] w fun e w' => e = .returned (.bool b) ∧ w = w' := by rw [← hb.out]; exact cube_any x p hx w
theorem square_at (x p : Nat) (hx : x < 18446744073709551616) (w : World) (b : Bool) (hb : Hid (sqB x p = b)) :
    Calls Tryd.prog 27 #[.int .u64 x, .int .u64 p] w fun e w' => e = .returned (.bool b) ∧ w = w' := by rw [← hb.out]; exact square_any x p hx w

/-- A root, bit by bit: k bits are still to come. -/
def frN (t : Nat → Bool) : Nat → Nat → Nat
  | 0, x => x
  | k + 1, x => frN t k (if t (x ||| 2 ^ k) then x ||| 2 ^ k else x)
theorem or_bit (x k : Nat) (hx : x < 68719476736) (hk : k < 36) : x ||| 2 ^ k < 68719476736 :=
  Nat.or_lt_two_pow (n := 36) hx (Nat.pow_lt_pow_right (by decide) hk)

theorem bit_or (X j : Nat) (hX : X < 68719476736) (hj : j < 36) : bits .or .u64 (X : Int) (IntKind.u64.wrap (2 ^ j)) = ((X ||| 2 ^ j : Nat) : Int) := by
  have h : 2 ^ j < 68719476736 := Nat.pow_lt_pow_right (by decide) hj
  have e : IntKind.u64.wrap (2 ^ j) = ((2 ^ j : Nat) : Int) := by
    have : ((2 : Int) ^ j) = ((2 ^ j : Nat) : Int) := by simp
    rw [this, wrap_nat, Nat.mod_eq_of_lt (by omega)]
  rw [e, u64_or_nat _ _ (by omega) (by omega)]
theorem fr_next (t : Nat → Bool) (j X Y : Nat) (b : Bool) (hY : X ||| 2 ^ j = Y) (hb : t Y = b) : frN t (j + 1) X = frN t j (if b then Y else X) := by
  rw [frN, hY, hb]
theorem fr_end (t : Nat → Bool) (X : Nat) : frN t 0 X = X := rfl

set_option maxHeartbeats 1000000 in
theorem fraction_cube (p : Nat) (w : World) :
    Calls Tryd.prog 22 #[.int .u64 p, .bool true] w fun e w' => e = .returned (.int .u32 ((frN (fun x => cuB x p) 36 0) % 4294967296 : Nat)) ∧ w = w' := by
  go_enter Tryd.func22, Tryd.ntmps22
  go_wp2_with fail
  go_loop [5, 6, 7] (fun r i _ => ∃ (k X : Nat), k ≤ 36 ∧ i = .int .i64 ((k : Int) - 1) ∧ r = .int .u64 X ∧ X < 68719476736 ∧ Hid (frN (fun x => cuB x p) k X = frN (fun x => cuB x p) 36 0)) (fun _ i _ => (intOf i + 1).toNat)
  case atStart => exact ⟨36, 0, by omega, by go_num, rfl, by decide, rfl⟩
  case round =>
    obtain ⟨k, X, hk, rfl, rfl, hX, HX⟩ := hrel
    cases k with
    | zero =>
      rw [show (((0 : Nat) : Int) - 1) = -1 by rfl]
      go_wp2_with fail
      go_ret
      exact ⟨ret_int (by rw [← HX.out, fr_end]), rfl⟩
    | succ j =>
      rw [show (((j + 1 : Nat) : Int) - 1) = (j : Int) by omega]
      have HO := bit_or X j hX (by omega)
      obtain ⟨Y, hY⟩ : ∃ Y, X ||| 2 ^ j = Y := ⟨_, rfl⟩
      rw [hY] at HO
      have hYb : Y < 68719476736 := hY ▸ or_bit X j hX (by omega)
      have hYc : Y < 18446744073709551616 := by omega
      obtain ⟨b, hb⟩ : ∃ b, cuB Y p = b := ⟨_, rfl⟩
      have HF : Hid (frN (fun x => cuB x p) j (if b then Y else X) = frN (fun x => cuB x p) 36 0) := (fr_next (fun x => cuB x p) j X Y b hY hb).symm.trans HX.out
      have HB : Hid (cuB Y p = b) := hb
      clear hY hb HX
      cases b
      · go_wp2_with (go_at_call 26; refine (cube_at Y p hYc _ false HB).mono ?_; rintro e w' ⟨rfl, rfl⟩)
        go_round
        case rel => exact ⟨j, X, by omega, by go_num, rfl, hX, HF⟩
        case measure => simp [intOf]
      · go_wp2_with (go_at_call 26; refine (cube_at Y p hYc _ true HB).mono ?_; rintro e w' ⟨rfl, rfl⟩)
        go_round
        case rel => exact ⟨j, Y, by omega, by go_num, rfl, hYb, HF⟩
        case measure => simp [intOf]

set_option maxHeartbeats 1000000 in
theorem fraction_square (p : Nat) (w : World) :
    Calls Tryd.prog 22 #[.int .u64 p, .bool false] w fun e w' => e = .returned (.int .u32 ((frN (fun x => sqB x p) 36 0) % 4294967296 : Nat)) ∧ w = w' := by
  go_enter Tryd.func22, Tryd.ntmps22
  go_wp2_with fail
  go_loop [5, 6, 7] (fun r i _ => ∃ (k X : Nat), k ≤ 36 ∧ i = .int .i64 ((k : Int) - 1) ∧ r = .int .u64 X ∧ X < 68719476736 ∧ Hid (frN (fun x => sqB x p) k X = frN (fun x => sqB x p) 36 0)) (fun _ i _ => (intOf i + 1).toNat)
  case atStart => exact ⟨36, 0, by omega, by go_num, rfl, by decide, rfl⟩
  case round =>
    obtain ⟨k, X, hk, rfl, rfl, hX, HX⟩ := hrel
    cases k with
    | zero =>
      rw [show (((0 : Nat) : Int) - 1) = -1 by rfl]
      go_wp2_with fail
      go_ret
      exact ⟨ret_int (by rw [← HX.out, fr_end]), rfl⟩
    | succ j =>
      rw [show (((j + 1 : Nat) : Int) - 1) = (j : Int) by omega]
      have HO := bit_or X j hX (by omega)
      obtain ⟨Y, hY⟩ : ∃ Y, X ||| 2 ^ j = Y := ⟨_, rfl⟩
      rw [hY] at HO
      have hYb : Y < 68719476736 := hY ▸ or_bit X j hX (by omega)
      have hYc : Y < 18446744073709551616 := by omega
      obtain ⟨b, hb⟩ : ∃ b, sqB Y p = b := ⟨_, rfl⟩
      have HF : Hid (frN (fun x => sqB x p) j (if b then Y else X) = frN (fun x => sqB x p) 36 0) := (fr_next (fun x => sqB x p) j X Y b hY hb).symm.trans HX.out
      have HB : Hid (sqB Y p = b) := hb
      clear hY hb HX
      cases b
      · go_wp2_with (go_at_call 27; refine (square_at Y p hYc _ false HB).mono ?_; rintro e w' ⟨rfl, rfl⟩)
        go_round
        case rel => exact ⟨j, X, by omega, by go_num, rfl, hX, HF⟩
        case measure => simp [intOf]
      · go_wp2_with (go_at_call 27; refine (square_at Y p hYc _ true HB).mono ?_; rintro e w' ⟨rfl, rfl⟩)
        go_round
        case rel => exact ⟨j, Y, by omega, by go_num, rfl, hYb, HF⟩
        case measure => simp [intOf]

end Go.Proofs.YteajhimmhlccdaaDoor
