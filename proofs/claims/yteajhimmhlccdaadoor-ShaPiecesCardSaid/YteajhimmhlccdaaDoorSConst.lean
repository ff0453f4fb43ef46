/-
  Layer 4: the document's constants are the program's.
-/
import Derived.Test.YteajhimmhlccdaaDoorSWalkB
import Derived.Test.YteajhimmhlccdaaDoorSRow
namespace Go.Proofs.YteajhimmhlccdaaDoor
open Go.RowKit

def P64 : List Nat := [2, 3, 5, 7, 11, 13, 17, 19, 23, 29, 31, 37, 41, 43, 47, 53, 59, 61, 67, 71, 73, 79, 83, 89, 97, 101, 103, 107, 109, 113, 127, 131, 137, 139, 149, 151, 157, 163, 167, 173, 179, 181, 191, 193, 197, 199, 211, 223, 227, 229, 233, 239, 241, 251, 257, 263, 269, 271, 277, 281, 283, 293, 307, 311]
/-- The primes below p. -/
def PL (p : Nat) : List Nat := P64.filter (· < p)
def pr (L : List Nat) (p : Nat) : Bool := L.all (fun q => p % q != 0)
theorem PL_next : ∀ p, p < 312 → 2 ≤ p → PL (p + 1) = if pr (PL p) p = true then PL p ++ [p] else PL p := by decide +kernel
theorem PL_few : ∀ p, p < 312 → (PL p).length < 64 := by decide +kernel
theorem PL_312 : PL 312 = P64 := by decide +kernel
theorem PL_2 : PL 2 = [] := by decide +kernel
theorem PL_pos (p : Nat) : ∀ q ∈ PL p, 0 < q ∧ q < 312 := by
  intro q hq
  have h : q ∈ P64 := (List.mem_filter.1 hq).1
  exact (show ∀ q ∈ P64, 0 < q ∧ q < 312 by decide +kernel) q h
theorem PL_le (p : Nat) : (PL p).length ≤ 64 := List.length_filter_le _ _

theorem consts_k : (P64.map fun p => frN (fun x => cuB x p) 36 0 % 4294967296) = ktab := by decide +kernel
theorem consts_h : ((P64.take 8).map fun p => frN (fun x => sqB x p) 36 0 % 4294967296) = H0.l := by decide +kernel
end Go.Proofs.YteajhimmhlccdaaDoor
