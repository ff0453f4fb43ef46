/-
  What the row's condition on the listed package variable gives a walk: layer 4's constants. And that the program's own start meets it.
-/
import Derived.Test.YteajhimmhlccdaaDoorRows
import Derived.Test.YteajhimmhlccdaaDoorTie
import Derived.Test.YteajhimmhlccdaaDoorSWalkD
import Derived.Lib.LaidTab
import Derived.LaidMore
import Derived.ProofKit
import Derived.Stop.Joined
namespace Go.Proofs.YteajhimmhlccdaaDoor.Laid
open Go.ChangeShapes Go.WideShapes Go.ChangeAt Go.RowKit

def steps : Nat := 14
def laid : List (String × DataW Unit) := [("gossamer/sha.constants", Rows.laid_gossamer_sha_constants)]

theorem door_met (os : Os) (args : Array Value) : laidMetH Tryd.prog laid ((World.doorLaid Tryd.prog steps os).forCall (fun _ _ => 0) ⟨#[], args, []⟩).memory :=
  laidMetH_of_parts3 (fuel := 8) (laidMet_of_run' 8 (by kernel_rfl) (by kernel_rfl)) (by kernel_rfl) (by kernel_rfl)

theorem kz_getD (i : Nat) : kz.getD i 0 = ((ktab.getD i 0 : Nat) : Int) := by
  rw [kz, List.getD_eq_getElem?_getD, List.getElem?_map, List.getD_eq_getElem?_getD]
  cases ktab[i]? <;> rfl
theorem of_laid {W : World} (h : laidMetH Tryd.prog laid W) : Tab W := by
  rw [MakeChecks.laidMetH_plain _ _ _ (by kernel_rfl)] at h
  have hT := Lib.tabIs_of_head (P := Tryd.prog) (W := W) (name := "gossamer/sha.constants") (k := .u32) (zs := kz) (rest := []) (g := 0) (t := 55) (e := 42) (n := 64)
    (by kernel_rfl) (by kernel_rfl) Tryd.underlying55 Tryd.underlying42 (by kernel_rfl) (by kernel_rfl) h
  intro i hi
  rw [← kz_getD i]
  exact hT.cell (by kernel_rfl) i hi

end Go.Proofs.YteajhimmhlccdaaDoor.Laid
