/-
  Arguments that are slices of slices of strings, opened once, nil or not.
-/
import Derived.Test.YtikbokbmaihdbaaDoorStrArgs
import Derived.Deep.Slices
namespace Go.Proofs.YtikbokbmaihdbaaDoor
open Go.ChangeShapes Go.WideShapes Go.RowKit

/-- A row of texts as it lies in a row. -/
structure TRow where
  K : Option Addr
  kl : Nat
  kc : Nat
  ts : List ByteArray

/-- What a slice of slices of strings that came in is. -/
structure RowsView (W : World) (A : Option Addr) (len cap : Nat) (R : List TRow) : Prop where
  length : R.length = len
  fits : len ≤ cap
  few : len * 24 ≤ 140737488351232
  none : A = none → len = 0 ∧ cap = 0
  ok : ∀ r ∈ R, StrsView W r.K r.kl r.kc r.ts
  cell : ∀ i (h : i < R.length), ∃ b off, A = some ⟨b, off, .none⟩ ∧ b < W.heap.size ∧ W.cell? ⟨b, off + i, .none⟩ = some (.slice R[i].K R[i].kl R[i].kc)

theorem view_rows {H : Type} {enc : TypeId × Value → H} {P : Program} {W : World} {t e s : TypeId} {fuel : Nat} {A : Option Addr} {len cap : Nat} {d : DataW H} {p : List MemPlace}
    (ht : P.underlying t = some (.slice e)) (he : P.underlying e = some (.slice s)) (hc : P.cellsOf e = 1) (hb : P.bytesOf e = 24) (hs : P.underlying s = some .string) (cs : P.cellsOf s = 1) (bs : P.bytesOf s = 16)
    (hf : DataW.trod enc P W 0 (fun _ => true) true fuel t (Value.slice A len cap).cells.toList = some (d, p)) (hw : ∀ n ∈ d.weights P t, n ≤ reachBytes) : ∃ R, RowsView W A len cap R := by
  rcases Go.Deep.open_slice1 ht hc hf with ⟨hcs, hx⟩ | ⟨a, len', cap', m, fu, V, D, Pl, hcs, _, hl, hm, hmm, hx, hel⟩
  · simp [Value.cells] at hcs
    obtain ⟨rfl, rfl, rfl⟩ := hcs
    exact ⟨[], rfl, Nat.le_refl _, by omega, fun _ => ⟨rfl, rfl⟩, (fun s hs => by cases hs), (fun i hi => by simp at hi)⟩
  · simp [Value.cells] at hcs
    obtain ⟨rfl, rfl, rfl⟩ := hcs
    simp only [if_true] at hmm
    subst hmm
    simp only [Prod.mk.injEq] at hx
    obtain ⟨rfl, rfl⟩ := hx
    have each : ∀ i, i < len → ∃ r : TRow, StrsView W r.K r.kl r.kc r.ts ∧ ∃ b off, a = ⟨b, off, .none⟩ ∧ b < W.heap.size ∧ W.cell? ⟨b, off + i, .none⟩ = some (.slice r.K r.kl r.kc) := by
      intro i hi
      obtain ⟨h1, h2⟩ := hel i (by omega)
      have hin : ∀ n ∈ (D i).weights P e, n ≤ reachBytes := fun n hn => hw n (by
        simp only [DataW.weights, ht]
        exact List.mem_cons_of_mem _ (List.mem_append_left _ (weights_mem_all (List.mem_map.2 ⟨i, List.mem_range.2 hi, rfl⟩) n hn)))
      obtain ⟨K, kl, kc, hk⟩ : ∃ K kl kc, V i = .slice K kl kc := by
        rcases open_strings he hs cs h2 with ⟨h3, _⟩ | ⟨a5, l5, c5, zs, h3, _⟩
        · exact ⟨Option.none, 0, 0, by simpa using h3⟩
        · exact ⟨some a5, l5, c5, by simpa using h3⟩
      rw [hk] at h1 h2
      obtain ⟨ts, hts⟩ := view_strs he hs cs bs (A := K) (len := kl) (cap := kc) (W := W) (enc := enc) (d := D i) (p := Pl i) (fuel := fu) (by simpa [Value.cells] using h2) hin
      obtain ⟨b, off, spot⟩ := a
      have hz := (hel 0 (by omega)).1
      have hsp : spot = .none := by simpa [Addr.add] using World.cell?_spot hz
      subst hsp
      rw [add_plain] at h1
      exact ⟨⟨K, kl, kc, ts⟩, hts, b, off, rfl, World.block_lt_of_cell? W _ h1, h1⟩
    haveI : Inhabited TRow := ⟨⟨Option.none, 0, 0, []⟩⟩
    obtain ⟨S, hS⟩ := Go.Deep.choose_lt each
    refine ⟨(List.range len).map S, by simp, hl, ?_, fun h => (by cases h), ?_, ?_⟩
    · have h2 := hw _ (by simp only [DataW.weights, ht]; exact List.mem_cons_self)
      rw [hb] at h2
      simp only [List.length_map, List.length_range, reachBytes] at h2
      omega
    · intro r hr
      obtain ⟨i, hi, rfl⟩ := List.mem_map.1 hr
      exact (hS i (List.mem_range.1 hi)).1
    · intro i hi
      have hi' : i < len := by simpa using hi
      obtain ⟨b, off, e1, h0, h1⟩ := (hS i hi').2
      refine ⟨b, off, by rw [e1], h0, ?_⟩
      simpa using h1

theorem StrsView.below {W W' : World} {A : Option Addr} {len cap : Nat} {ss : List ByteArray} (h : StrsView W A len cap ss) (hb : Below W.heap.size W W') : StrsView W' A len cap ss :=
  ⟨h.row.below hb, h.short, h.few, h.fits, h.none⟩
theorem RowsView.below {W W' : World} {A : Option Addr} {len cap : Nat} {R : List TRow} (h : RowsView W A len cap R) (hb : Below W.heap.size W W') : RowsView W' A len cap R :=
  ⟨h.length, h.fits, h.few, h.none, fun r hr => (h.ok r hr).below hb, fun i hi => by
    obtain ⟨b, off, e, hl, hc⟩ := h.cell i hi
    exact ⟨b, off, e, Nat.lt_of_lt_of_le hl hb.size, (hb.cell (p := ⟨b, off + i, .none⟩) hl).trans hc⟩⟩

end Go.Proofs.YtikbokbmaihdbaaDoor
