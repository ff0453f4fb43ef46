/-
  Layer 8: what the program's Log is in memory; its small functions.
-/
import Derived.Test.YtikbokbmaihdbaaGreatDoorDMem
import Derived.Test.YtikbokbmaihdbaaGreatDoorLWorks
import Derived.WalkKit
import Derived.BigCall
import Derived.Lib.Hide
import Derived.IntWalk
namespace Go.Proofs.YtikbokbmaihdbaaGreatDoor
open Go.RowKit Go.ChangeShapes Go.WideShapes

def LHead (w : World) (x g : Nat) (n : ByteArray) (sz ct su : Nat) (br : Bool) : Prop :=
  w.heap[x]? = some (.cells #[ptr g, .string n, .int .i64 (sz : Nat), .int .i64 (ct : Nat), .int .i64 (su : Nat), .bool br] 71 (0, 0))
section
variable {w : World} {x g : Nat} {n : ByteArray} {sz ct su : Nat} {br : Bool} (h : LHead w x g n sz ct su br)
include h
theorem LHead.c0 : w.cell? ⟨x, 0, none⟩ = some (ptr g) := by rw [cell_hp h]; rfl
theorem LHead.c1 : w.cell? ⟨x, 1, none⟩ = some (.string n) := by rw [cell_hp h]; rfl
theorem LHead.c2 : w.cell? ⟨x, 2, none⟩ = some (.int .i64 (sz : Nat)) := by rw [cell_hp h]; rfl
theorem LHead.c3 : w.cell? ⟨x, 3, none⟩ = some (.int .i64 (ct : Nat)) := by rw [cell_hp h]; rfl
theorem LHead.c4 : w.cell? ⟨x, 4, none⟩ = some (.int .i64 (su : Nat)) := by rw [cell_hp h]; rfl
theorem LHead.c5 : w.cell? ⟨x, 5, none⟩ = some (.bool br) := by rw [cell_hp h]; rfl
theorem LHead.fr (j : Nat) : w.frozen? ⟨x, j, none⟩ = false := frozen_hp h j
theorem LHead.lt : x < w.heap.size := lt_of_heap h
theorem LHead.kept {w' : World} (hb : w'.heap[x]? = w.heap[x]?) : LHead w' x g n sz ct su br := hb.trans h
theorem LHead.below {w' : World} (hb : Below w.heap.size w w') : LHead w' x g n sz ct su br := (hb.block x (lt_of_heap h)).trans h
end
/-- A log is broken behind an error, but ErrFull. -/
def heeded (er : Nat) (br : Bool) : Bool := if er = 0 ∨ er = 6 then br else true
def TheLog : Logs := fun Q w x g n l => n.size ≤ many ∧ (frs l.recs).length ≤ 2199023255552 ∧ LHead w x g n (llen l) l.recs.length l.sure l.broken ∧ ∀ k, Q k ↔ k = x

section
variable {w : World} {x g : Nat} {n : ByteArray} {sz ct su : Nat} {br : Bool} (h : LHead w x g n sz ct su br)
include h
theorem lunmade_at : Calls Tryz.prog 50 #[ptr x] w fun e w' => e = .returned (.bool false) ∧ w = w' := by
  have c0 := h.c0
  go_enter Tryz.func50, Tryz.ntmps50
  go_wp2_with fail
  go_ret
  exact ⟨rfl, rfl⟩
theorem lready_at : Calls Tryz.prog 35 #[ptr x] w fun e w' => e = .returned (.int .i64 (if br = true then 3 else 0)) ∧ w = w' := by
  have c5 := h.c5
  cases br with
  | true =>
    go_enter Tryz.func35, Tryz.ntmps35
    go_wp2_with (go_at_call 50; refine (lunmade_at h).mono ?_; rintro e w' ⟨rfl, rfl⟩)
    go_ret
    exact ⟨rfl, rfl⟩
  | false =>
    go_enter Tryz.func35, Tryz.ntmps35
    go_wp2_with (go_at_call 50; refine (lunmade_at h).mono ?_; rintro e w' ⟨rfl, rfl⟩)
    go_ret
    exact ⟨rfl, rfl⟩
theorem lheed_at (er : Nat) : Calls Tryz.prog 38 #[ptr x, .int .i64 (er : Nat)] w fun e w' => e = .returned (.int .i64 (er : Nat)) ∧ LHead w' x g n sz ct su (heeded er br) ∧ Only (fun k => k = x) w w' ∧ w'.heap.size = w.heap.size := by
  by_cases h0 : er = 0
  · subst h0
    go_enter Tryz.func38, Tryz.ntmps38
    go_wp2_with fail
    go_ret
    exact ⟨rfl, h, Only.refl _ _, rfl⟩
  · by_cases h6 : er = 6
    · subst h6
      go_enter Tryz.func38, Tryz.ntmps38
      go_wp2_with fail
      go_ret
      exact ⟨rfl, h, Only.refl _ _, rfl⟩
    · have f5 := h.fr 5
      have c5 := h.c5
      have hs := heap_set (i := 5) h (.bool true)
      have q0 : ((er : Int) != 0) = true := by rw [bne_iff_ne]; omega
      have q6 : ((er : Int) != 6) = true := by rw [bne_iff_ne]; omega
      go_enter Tryz.func38, Tryz.ntmps38
      go_wp2_with fail
      go_ret
      have e1 : heeded er br = true := if_neg (by omega)
      rw [e1]
      exact ⟨rfl, hs, Only.set w x 5 _, by simp⟩
theorem llen_h : Calls Tryz.prog 18 #[ptr x] w fun e w' => e = .returned (.int .i64 (sz : Nat)) ∧ Below w.heap.size w w' := by
  have c2 := h.c2
  go_enter Tryz.func18, Tryz.ntmps18
  go_wp2_with (go_at_call 50; refine (lunmade_at h).mono ?_; rintro e w' ⟨rfl, rfl⟩)
  go_ret
  exact ⟨rfl, Below.refl _ _⟩
theorem lcount_h : Calls Tryz.prog 20 #[ptr x] w fun e w' => e = .returned (.int .i64 (ct : Nat)) ∧ Below w.heap.size w w' := by
  have c3 := h.c3
  go_enter Tryz.func20, Tryz.ntmps20
  go_wp2_with (go_at_call 50; refine (lunmade_at h).mono ?_; rintro e w' ⟨rfl, rfl⟩)
  go_ret
  exact ⟨rfl, Below.refl _ _⟩
theorem lsure_h : Calls Tryz.prog 21 #[ptr x] w fun e w' => e = .returned (.int .i64 (su : Nat)) ∧ Below w.heap.size w w' := by
  have c4 := h.c4
  go_enter Tryz.func21, Tryz.ntmps21
  go_wp2_with (go_at_call 50; refine (lunmade_at h).mono ?_; rintro e w' ⟨rfl, rfl⟩)
  go_ret
  exact ⟨rfl, Below.refl _ _⟩
end
theorem lunmade_nil (w : World) : Calls Tryz.prog 50 #[.pointer none] w fun e w' => e = .returned (.bool true) ∧ w = w' := by
  go_enter Tryz.func50, Tryz.ntmps50
  go_wp2_with fail
  go_ret
  exact ⟨rfl, rfl⟩
theorem lready_nil (w : World) : Calls Tryz.prog 35 #[.pointer none] w fun e w' => e = .returned (.int .i64 1) ∧ w = w' := by
  go_enter Tryz.func35, Tryz.ntmps35
  go_wp2_with (go_at_call 50; refine (lunmade_nil _).mono ?_; rintro e w' ⟨rfl, rfl⟩)
  go_ret
  exact ⟨rfl, rfl⟩

end Go.Proofs.YtikbokbmaihdbaaGreatDoor
