/-
  A row of bytes that the call itself made ('[]byte(s)'): its cells, read, stored, made a string again.
-/
import Derived.Test.YtikbokbmaihdbaaDoorProg
import Derived.Below
import Derived.Laws.IdiomStrings
import Derived.Lib.Hide
import Derived.WalkKit
import Derived.Deep.Draws
namespace Go.Proofs.YtikbokbmaihdbaaDoor
open Go.RowKit

def BRow (w : World) (g : Nat) (l : List UInt8) : Prop :=
  g < w.heap.size ∧ ∀ j (hj : j < l.length), w.cell? ⟨g, j, none⟩ = some (.int .u8 (l[j].toNat : Int)) ∧ w.frozen? ⟨g, j, none⟩ = false

theorem BRow.below {w w' : World} {g : Nat} {l : List UInt8} {B : Nat} (h : BRow w g l) (hb : Below B w w') (hg : g < B) : BRow w' g l :=
  ⟨Nat.lt_of_lt_of_le h.1 hb.size, fun j hj => ⟨(hb.cell (p := ⟨g, j, none⟩) hg).trans (h.2 j hj).1, (hb.frozen (p := ⟨g, j, none⟩) hg).trans (h.2 j hj).2⟩⟩
theorem BRow.other {w : World} {g : Nat} {l : List UInt8} (h : BRow w g l) (a : Addr) (ha : g ≠ a.block) (v : Value) : BRow (w.setCell a v) g l := by
  refine ⟨by simpa using h.1, fun j hj => ⟨?_, ?_⟩⟩
  · rw [World.cell?_setCell_other (w := w) (v := _) (h := fun e => ha (by rw [e]))]; exact (h.2 j hj).1
  · rw [World.frozen?_setCell]; exact (h.2 j hj).2
theorem BRow.store {w : World} {g : Nat} {l : List UInt8} (h : BRow w g l) (i : Nat) (hi : i < l.length) (c : UInt8) : BRow (w.setCell ⟨g, i, none⟩ (.int .u8 (c.toNat : Int))) g (l.set i c) := by
  refine ⟨by simpa using h.1, fun j hj => ?_⟩
  have hj' : j < l.length := by simpa using hj
  refine ⟨?_, ?_⟩
  · by_cases e : i = j
    · subst e
      rw [World.cell?_setCell_same (h := (h.2 i hi).1)]
      simp
    · rw [World.cell?_setCell_other (w := w) (v := _) (h := fun h => e (by injection h)), (h.2 j hj').1, List.getElem_set_ne e]
  · rw [World.frozen?_setCell]; exact (h.2 j hj').2
theorem BRow.drewN {w : World} {g : Nat} {l : List UInt8} (h : BRow w g l) (n : Nat) : BRow (w.drewN n) g l :=
  ⟨by simpa using h.1, fun j hj => ⟨by simpa using (h.2 j hj).1, by simpa using (h.2 j hj).2⟩⟩
theorem BRow.conv (w : World) (s : ByteArray) : ∃ (cap : Nat) (w1 : World),
    (convert 9 23 (.string s)).run Tryd.prog w = .ok (.slice (some ⟨w.heap.size, 0, none⟩) s.size cap) w1 ∧ BRow w1 w.heap.size s.data.toList ∧ Below w.heap.size w w1 ∧ w1.heap.size = w.heap.size + 1 := by
  refine ⟨_, _, run_bytes_of_string w 9 23 5 s Tryd.underlying9 Tryd.underlying23 Tryd.underlying5, ⟨by simp, fun j hj => ⟨?_, ?_⟩⟩, ((Below.refl _ w).drew).alloc (Nat.le_refl _) _, by simp⟩
  · have hj' : j < s.data.size := by simpa using hj
    have := World.cell?_alloc_mark w.drew (bytesRow s (grownCap w s.size 0 5)) 5 ((bytesRow s (grownCap w s.size 0 5)).size, (bytesRow s (grownCap w s.size 0 5)).size + 1) j
    refine this.trans ?_
    rw [bytesRow_at s _ j hj']
    simp
  · have := World.frozen?_alloc_mark w.drew (bytesRow s (grownCap w s.size 0 5)) 5 ((bytesRow s (grownCap w s.size 0 5)).size) ((bytesRow s (grownCap w s.size 0 5)).size + 1) j
    refine this.trans ?_
    have hb : j < (bytesRow s (grownCap w s.size 0 5)).size := by
      unfold bytesRow
      have hj' : j < s.data.size := by simpa using hj
      simp only [Array.size_append, Array.size_map, Array.size_replicate]
      omega
    simp only [Bool.and_eq_false_iff, decide_eq_false_iff_not]
    omega
theorem BRow.back {w : World} {g : Nat} {l : List UInt8} (h : BRow w g l) (n cap : Nat) (hn : n = l.length) :
    (convert 23 9 (.slice (some ⟨g, 0, none⟩) n cap)).run Tryd.prog w = .ok (.string ⟨l.toArray⟩) w := by
  subst hn
  refine run_convert_bytes_back w 23 9 5 ⟨g, 0, none⟩ cap l Tryd.underlying23 Tryd.underlying5 Tryd.underlying9 (fun j hj => ?_)
  have := (h.2 j hj).1
  have e : (⟨g, 0, none⟩ : Addr).add j = ⟨g, j, none⟩ := by unfold Addr.add; split <;> simp_all
  rw [e]
  exact this

end Go.Proofs.YtikbokbmaihdbaaDoor
