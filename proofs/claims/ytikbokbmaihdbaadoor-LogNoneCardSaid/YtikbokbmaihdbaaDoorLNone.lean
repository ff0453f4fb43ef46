/-
  LogNone, the walk, over any disk, any log ('DoorB', 'LDoor') and what no log answers ('LShut').
-/
import Derived.Test.YtikbokbmaihdbaaDoorLWorks
import Derived.OpenShut
namespace Go.Proofs.YtikbokbmaihdbaaDoor.logNone
open Go.RowKit Go.ChangeShapes Go.WideShapes

/-- What the walk wants of the program's disk and log. -/
def Wants (D : Disks) (L : Logs) : Prop := DoorB D ∧ LDoor D L ∧ LShut

set_option maxRecDepth 100000 in
set_option maxHeartbeats 2000000 in
theorem walk {D : Disks} {L : Logs} (h : Wants D L) (s : ByteArray) (hs : s.size ≤ maxLen) (w : World) (hT : Tab w) :
    Calls Tryd.prog 5 #[.string s] w fun e w' => e = .returned (.bool true) ∧ Below w.heap.size w w' := by
  have HS := Lib.hid h.2.2
  have HW : Hid (∀ w : World, Tab w → Calls Tryd.prog 8 #[] w fun e w' => e = .returned (.bool true) ∧ Below w.heap.size w w') := fun w hT => lworks_any h.1 h.2.1 w hT
  have HT := Lib.hid hT
  clear h hT
  unfold maxLen at hs
  by_cases hl : 4096 < s.size
  · go_enter Tryd.func5, Tryd.ntmps5
    go_wp2_with fail
    refine (HW.out _ HT.out).mono ?_
    rintro e w1 ⟨rfl, hb⟩
    have HB := Lib.hid hb
    clear hb
    go_wp2_with fail
    go_ret
    exact ⟨rfl, HB.out⟩
  go_enter Tryd.func5, Tryd.ntmps5
  go_wp2_with fail
  refine (HS.out.opens ⟨#[97]⟩ _ (by decide)).mono ?_
  rintro e w1 ⟨⟨A, c, rfl⟩, hb⟩
  have B1 := Lib.hid hb
  clear hb
  go_wp2_with fail
  refine (HS.out.append _ 1 1 _ (by decide)).mono ?_
  rintro e w2 ⟨rfl, hb⟩
  have B2 := Lib.hid ((B1.out.alloc B1.out.size _).trans (hb.mono (Nat.le_trans B1.out.size (by simp))))
  clear hb B1
  go_wp2_with fail
  refine (HS.out.sync _).mono ?_
  rintro e w3 ⟨rfl, hb⟩
  have B3 := Lib.hid (B2.out.trans (hb.mono B2.out.size))
  clear hb B2
  go_wp2_with fail
  refine (HS.out.len _).mono ?_
  rintro e w4 ⟨rfl, hb⟩
  have B4 := Lib.hid (B3.out.trans (hb.mono B3.out.size))
  clear hb B3
  go_wp2_with fail
  refine (HS.out.count _).mono ?_
  rintro e w5 ⟨rfl, hb⟩
  have B5 := Lib.hid (B4.out.trans (hb.mono B4.out.size))
  clear hb B4
  go_wp2_with fail
  refine (HS.out.sure _).mono ?_
  rintro e w6 ⟨rfl, hb⟩
  have B6 := Lib.hid (B5.out.trans (hb.mono B5.out.size))
  clear hb B5
  go_wp2_with fail
  refine (HW.out _ (HT.out.below B6.out)).mono ?_
  rintro e w7 ⟨rfl, hb⟩
  have B7 := Lib.hid (B6.out.trans (hb.mono B6.out.size))
  clear hb B6
  go_wp2_with fail
  go_ret
  exact ⟨rfl, B7.out⟩

end Go.Proofs.YtikbokbmaihdbaaDoor.logNone
