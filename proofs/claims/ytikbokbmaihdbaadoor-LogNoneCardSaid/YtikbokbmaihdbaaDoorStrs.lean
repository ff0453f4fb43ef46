/-
  Texts, and numbers, in a row of memory.
-/
import Derived.Test.YtikbokbmaihdbaaDoorProg
import Derived.WalkKit
import Derived.Below
namespace Go.Proofs.YtikbokbmaihdbaaDoor
open Go.RowKit

/-- Texts in a row. -/
structure Strs (w : World) (A : Option Addr) (n : Nat) (ss : List ByteArray) : Prop where
  len : ss.length = n
  cell : ∀ i (h : i < ss.length), ∃ b off, A = some ⟨b, off, none⟩ ∧ b < w.heap.size ∧ w.cell? ⟨b, off + i, none⟩ = some (.string ss[i])
theorem Strs.below {w w' : World} {A : Option Addr} {n : Nat} {ss : List ByteArray} (h : Strs w A n ss) (hb : Below w.heap.size w w') : Strs w' A n ss :=
  ⟨h.len, fun i hi => by
    obtain ⟨b, off, e, hl, hc⟩ := h.cell i hi
    exact ⟨b, off, e, Nat.lt_of_lt_of_le hl hb.size, (hb.cell (p := ⟨b, off + i, none⟩) hl).trans hc⟩⟩

/-- Numbers in a row. -/
structure Ints (w : World) (A : Option Addr) (n : Nat) (ns : List Nat) : Prop where
  len : ns.length = n
  cell : ∀ i (h : i < ns.length), ∃ b off, A = some ⟨b, off, none⟩ ∧ b < w.heap.size ∧ w.cell? ⟨b, off + i, none⟩ = some (.int .u64 (ns[i] : Nat))
theorem Ints.below {w w' : World} {A : Option Addr} {n : Nat} {ns : List Nat} (h : Ints w A n ns) (hb : Below w.heap.size w w') : Ints w' A n ns :=
  ⟨h.len, fun i hi => by
    obtain ⟨b, off, e, hl, hc⟩ := h.cell i hi
    exact ⟨b, off, e, Nat.lt_of_lt_of_le hl hb.size, (hb.cell (p := ⟨b, off + i, none⟩) hl).trans hc⟩⟩

end Go.Proofs.YtikbokbmaihdbaaDoor
