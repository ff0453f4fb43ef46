/-
  What the row's condition on the listed package variable gives a walk: layer 3's table. And that the program's own start meets it.
-/
import Derived.Test.YtikbokbmaihdbaaGreatDoorRows
import Derived.Test.YtikbokbmaihdbaaGreatDoorTie
import Derived.Test.YtikbokbmaihdbaaGreatDoorCWalkA
import Derived.Lib.LaidTab
import Derived.LaidMore
import Derived.ProofKit
import Derived.Stop.Joined
namespace Go.Proofs.YtikbokbmaihdbaaGreatDoor.Laid
open Go.ChangeShapes Go.WideShapes Go.ChangeAt Go.RowKit

def steps : Nat := 14
def laid : List (String × DataW Unit) := [("gossamer/crc.table", Rows.laid_gossamer_crc_table)]

theorem door_met (os : Os) (args : Array Value) : laidMetH Tryz.prog laid ((World.doorLaid Tryz.prog steps os).forCall (fun _ _ => 0) ⟨#[], args, []⟩).memory :=
  laidMetH_of_parts3 (fuel := 8) (laidMet_of_run' 8 (by kernel_rfl) (by kernel_rfl)) (by kernel_rfl) (by kernel_rfl)

theorem of_laid {W : World} (h : laidMetH Tryz.prog laid W) : Tab W := by
  rw [MakeChecks.laidMetH_plain _ _ _ (by kernel_rfl)] at h
  have hT := Lib.tabIs_of_head (P := Tryz.prog) (W := W) (name := "gossamer/crc.table") (k := .u32) (zs := tab) (rest := []) (g := 0) (t := 119) (e := 99) (n := 16)
    (by kernel_rfl) (by kernel_rfl) Tryz.underlying119 Tryz.underlying99 (by kernel_rfl) (by kernel_rfl) h
  intro i hi
  exact hT.cell (by kernel_rfl) i hi

end Go.Proofs.YtikbokbmaihdbaaGreatDoor.Laid
