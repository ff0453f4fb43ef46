/-
  Arguments that are slices of integers, opened once, nil or not.
-/
import Derived.Test.YtikbokbmaihdbaaDoorProg
import Derived.ChangeSlices
import Derived.WideShapes
import Derived.RowKit
import Derived.Below
import Derived.Carry
namespace Go.Proofs.YtikbokbmaihdbaaDoor
open Go.ChangeShapes Go.WideShapes Go.RowKit

/-- What a slice of integers that came in is: its elements, where they lie. -/
def SliceView (W : World) (k : IntKind) (A : Option Addr) (len cap : Nat) (Z : List Int) : Prop :=
  Z.length = len ∧ len ≤ cap ∧ cap ≤ maxLen ∧ (A = none → len = 0 ∧ cap = 0) ∧
  (∀ t, t < len → ∃ b off, A = some ⟨b, off, none⟩ ∧ b < W.heap.size ∧ W.cell? ⟨b, off + t, none⟩ = some (.int k (Z.getD t 0))) ∧
  (∀ n ∈ Z, (Lit.int k n).wf = true)

theorem view_ints {H : Type} {enc : TypeId × Value → H} {P : Program} {W : World} {t e : TypeId} {k : IntKind} {fuel : Nat} {A : Option Addr} {len cap : Nat} {d : DataW H} {p : List MemPlace}
    (ht : P.underlying t = some (.slice e)) (he : P.underlying e = some (.int k)) (hc : P.cellsOf e = 1)
    (hf : DataW.trod enc P W 0 (fun _ => true) true fuel t (Value.slice A len cap).cells.toList = some (d, p)) : ∃ Z, SliceView W k A len cap Z := by
  rcases open_ints ht he hc hf with ⟨hcs, hx⟩ | ⟨a, len', cap', zs, hcs, _, hl, hm, hz, hx, hcell, hwz⟩
  · simp [Value.cells] at hcs
    obtain ⟨rfl, rfl, rfl⟩ := hcs
    exact ⟨[], rfl, Nat.le_refl _, Nat.zero_le _, fun _ => ⟨rfl, rfl⟩, (fun t ht => by omega), (fun n hn => by cases hn)⟩
  · simp [Value.cells] at hcs
    obtain ⟨rfl, rfl, rfl⟩ := hcs
    simp only [if_true] at hz
    refine ⟨zs.take len, (by simp; omega), hl, hm, (fun h => by cases h), fun t ht => ?_, fun n hn => hwz n (List.mem_of_mem_take hn)⟩
    have h := hcell t (by omega)
    have h0 := hcell 0 (by omega)
    obtain ⟨b, off, spot⟩ := a
    have hs : spot = none := by simpa [Addr.add] using World.cell?_spot h0
    subst hs
    rw [add_plain] at h
    exact ⟨b, off, rfl, World.block_lt_of_cell? W _ h, by rw [h]; simp [List.getD, ht]⟩

end Go.Proofs.YtikbokbmaihdbaaDoor
