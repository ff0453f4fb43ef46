/-
  Arguments that are slices of structs of two integers, opened once, nil or not.
-/
import Derived.Test.YteomgaaemlchfaaProg
import Derived.Deep.SlicePairs
import Derived.ChangeSlices
import Derived.ChangeArms
import Derived.WideShapes
import Derived.RowKit
import Derived.Below
import Derived.Carry
namespace Go.Proofs.Yteomgaaemlchfaa
open Go.ChangeShapes Go.WideShapes Go.RowKit

/-- What a slice of structs of two integers that came in is. -/
structure PairsView (W : World) (k0 k1 : IntKind) (A : Option Addr) (len cap : Nat) (F0 F1 : Nat → Int) : Prop where
  fits : len ≤ cap
  top : cap ≤ maxLen
  cell : ∀ i, i < len → ∃ b off, A = some ⟨b, off, none⟩ ∧ b < W.heap.size ∧ W.cell? ⟨b, off + i * 2, none⟩ = some (.int k0 (F0 i)) ∧ W.cell? ⟨b, off + (i * 2 + 1), none⟩ = some (.int k1 (F1 i)) ∧
    (Lit.int k0 (F0 i)).wf = true ∧ (Lit.int k1 (F1 i)).wf = true
  nil : A = none → len = 0 ∧ cap = 0

theorem view_pairs {H : Type} {enc : TypeId × Value → H} {P : Program} {W : World} {t e : TypeId} {f0 f1 : Field} {k0 k1 : IntKind} {fuel : Nat} {A : Option Addr} {len cap : Nat} {d : DataW H} {p : List MemPlace}
    (ht : P.underlying t = some (.slice e)) (he : P.underlying e = some (.struct #[f0, f1])) (ce : P.cellsOf e = 2) (o0 : f0.offset = 0) (o1 : f1.offset = 1) (c0 : P.cellsOf f0.type = 1) (c1 : P.cellsOf f1.type = 1)
    (u0 : P.underlying f0.type = some (.int k0)) (u1 : P.underlying f1.type = some (.int k1))
    (hf : DataW.trod enc P W 0 (fun _ => true) true fuel t (Value.slice A len cap).cells.toList = some (d, p)) : ∃ F0 F1, PairsView W k0 k1 A len cap F0 F1 := by
  rcases Go.Deep.open_slice_pairs ht he ce o0 o1 c0 c1 hf with ⟨hcs, hx⟩ | ⟨a, len', cap', m, n, V0, V1, D0, D1, P0, P1, hcs, _, hl, hm, hmm, hx, hcell⟩
  · simp [Value.cells] at hcs
    obtain ⟨rfl, rfl, rfl⟩ := hcs
    exact ⟨fun _ => 0, fun _ => 0, Nat.le_refl _, Nat.zero_le _, fun i hi => by omega, fun _ => ⟨rfl, rfl⟩⟩
  · simp [Value.cells] at hcs
    obtain ⟨rfl, rfl, rfl⟩ := hcs
    simp only [if_true] at hmm
    refine ⟨fun i => intOf (V0 i), fun i => intOf (V1 i), hl, hm, fun i hi => ?_, fun h => by cases h⟩
    obtain ⟨h0, h1, t0, t1⟩ := hcell i (by omega)
    obtain ⟨n0, e0, _, w0⟩ := DataW.trod_int u0 t0
    obtain ⟨n1, e1, _, w1⟩ := DataW.trod_int u1 t1
    have e0' : V0 i = .int k0 n0 := by simpa using e0
    have e1' : V1 i = .int k1 n1 := by simpa using e1
    rw [e0'] at h0
    rw [e1'] at h1
    obtain ⟨b, off, spot⟩ := a
    have z := (hcell 0 (by omega)).1
    have hs : spot = .none := by simpa [Addr.add] using World.cell?_spot z
    subst hs
    rw [add_plain] at h0 h1
    refine ⟨b, off, rfl, World.block_lt_of_cell? W _ h0, ?_, ?_, ?_, ?_⟩
    · rw [e0']; exact h0
    · rw [e1']; exact h1
    · rw [e0']; exact w0
    · rw [e1']; exact w1

end Go.Proofs.Yteomgaaemlchfaa
