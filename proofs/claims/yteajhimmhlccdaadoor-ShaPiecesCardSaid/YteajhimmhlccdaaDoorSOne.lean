/-
  Layer 4: the digest of one text, where its row was made just now.
-/
import Derived.Test.YteajhimmhlccdaaDoorSWorks
namespace Go.Proofs.YteajhimmhlccdaaDoor
open Go.RowKit

theorem cats1 (s : ByteArray) : cats [s] = s.data.toList := by simp [cats]
theorem Of_one (s X : ByteArray) (hX : Hid (dg s.data.toList = X)) (hs : s.size ≤ 274877906944) (w : World) (hT : Hid (Tab w)) :
    Calls Tryd.prog 8 #[.slice (some ⟨w.heap.size, 0, none⟩) 1 1] (w.alloc (.cells #[.string s] 9)) fun e w' => e = .returned (.string X) ∧ Below w.heap.size w w' := by
  refine (Of_at _ 1 1 [s] X (Lib.hid (by rw [cats1]; exact hX.out)) (by decide) (by rw [cats1]; simpa using hs) _ (Strs.built w [s] 1 rfl) (Lib.hid (hT.out.below ((Below.refl w.heap.size w).alloc (Nat.le_refl _) _)))).mono ?_
  rintro e w' ⟨rfl, hb⟩
  exact ⟨rfl, ((Below.refl w.heap.size w).alloc (Nat.le_refl _) _).trans (hb.mono (by simp))⟩
end Go.Proofs.YteajhimmhlccdaaDoor
