/-
  Layer 2's Read and Up at named results.
-/
import Derived.Test.YteomgaaemlchfaaNWalkC
namespace Go.Proofs.Yteomgaaemlchfaa
open Go.RowKit

theorem Read_at (s : ByteArray) (w : World) (hs : s.size ≤ maxLen) (n k e : Nat) (h : Hid (rdN s.data.toList = (n, k, e))) :
    Calls Try.prog 29 #[.string s] w fun r w' => r = .returned (.tuple #[.int .u64 (n : Nat), .int .i64 (k : Nat), .int .i64 (e : Nat)]) ∧ w = w' := by
  refine (Read_any s w hs).mono ?_
  rw [h.out]
  exact fun _ _ h => h

theorem Up_at (N : Nat) (w : World) (h : N ≤ 18446744073709551615) (s : ByteArray) (hs : Hid (str (ub N) = s)) :
    Calls Try.prog 24 #[.int .u64 N] w fun e w' => e = .returned (.string s) ∧ Below w.heap.size w w' := by
  refine (Up_any N w h).mono ?_
  rw [hs.out]
  exact fun _ _ h => h

end Go.Proofs.Yteomgaaemlchfaa
