/-
  The known case that each statement of layer 2 asks ('works') answers true; contracts at named results.
-/
import Derived.Test.YtlikbkffadpbeaaNWalkC
namespace Go.Proofs.Ytlikbkffadpbeaa
open Go.RowKit

theorem Read_at (s : ByteArray) (w : World) (hs : s.size ≤ maxLen) (n k e : Nat) (h : Hid (rdN s.data.toList = (n, k, e))) :
    Calls Try.prog 8 #[.string s] w fun r w' => r = .returned (.tuple #[.int .u64 (n : Nat), .int .i64 (k : Nat), .int .i64 (e : Nat)]) ∧ w = w' := by
  refine (Read_any s w hs).mono ?_
  rw [h.out]
  exact fun _ _ h => h

theorem Up_at (N : Nat) (w : World) (h : N ≤ 18446744073709551615) (s : ByteArray) (hs : Hid (str (ub N) = s)) :
    Calls Try.prog 7 #[.int .u64 N] w fun e w' => e = .returned (.string s) ∧ Below w.heap.size w w' := by
  refine (Up_any N w h).mono ?_
  rw [hs.out]
  exact fun _ _ h => h

set_option maxHeartbeats 1000000 in
set_option maxRecDepth 100000 in
theorem works_any (w : World) : Calls Try.prog 6 #[] w fun e w' => e = .returned (.bool true) ∧ Below w.heap.size w w' := by
  have r1 : Hid (rdN [172, 2, 120] = (300, 2, 0)) := by show _ = _; decide
  have r2 : Hid (rdN [128] = (0, 0, 20)) := by show _ = _; decide
  have r3 : Hid (rdN [128, 0] = (0, 0, 8)) := by show _ = _; decide
  have u1 : Hid (str (ub 300) = ⟨#[172, 2]⟩) := by
    show _ = _
    have : ub 300 = [172, 2] := by decide
    rw [this]; rfl
  have t1 : tnI (-3) = 5 := by decide
  have t2 : bkI 5 = -3 := by decide
  have HB : Below w.heap.size w w := Below.refl _ _
  go_enter Try.func6, Try.ntmps6
  go_wp2_with (first
    | (go_at_call 8; refine (Read_at _ _ (by decide) 300 2 0 r1).mono ?_; rintro e w' ⟨rfl, rfl⟩)
    | (go_at_call 8; refine (Read_at _ _ (by decide) 0 0 20 r2).mono ?_; rintro e w' ⟨rfl, rfl⟩)
    | (go_at_call 8; refine (Read_at _ _ (by decide) 0 0 8 r3).mono ?_; rintro e w' ⟨rfl, rfl⟩)
    | (go_at_call 7; refine (Up_at 300 _ (by decide) _ u1).mono ?_; rintro e w' ⟨rfl, hb⟩; replace HB := HB.trans (hb.mono HB.size); clear hb)
    | (go_at_call 10; refine (Turn_any _ _ (by decide) (by decide)).mono ?_; rintro e w' ⟨rfl, rfl⟩)
    | (go_at_call 9; refine (Back_any _ _ (by decide) (by decide)).mono ?_; rintro e w' ⟨rfl, rfl⟩))
  go_ways
  go_ret
  exact ⟨rfl, HB⟩

end Go.Proofs.Ytlikbkffadpbeaa
