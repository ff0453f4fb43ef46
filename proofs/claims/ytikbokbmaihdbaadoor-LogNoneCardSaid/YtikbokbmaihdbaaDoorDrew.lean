/-
  A world behind draws.
-/
import Derived.Test.YtikbokbmaihdbaaDoorProg
import Derived.WalkKit
import Derived.Below
import Derived.Deep.Draws
namespace Go.Proofs.YtikbokbmaihdbaaDoor
open Go.RowKit

theorem _root_.Go.RowKit.Below.drewN {B : Nat} {w w' : World} (h : Below B w w') (m : Nat) : Below B w (w'.drewN m) := ⟨h.os, h.tape, h.output, h.size, h.block⟩
theorem of_drewN {B : Nat} {w w' : World} (h : ∃ n, w' = w.drewN n) : Below B w w' := by obtain ⟨n, rfl⟩ := h; exact (Below.refl _ _).drewN n

end Go.Proofs.YtikbokbmaihdbaaDoor
