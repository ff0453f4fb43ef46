/-
  Arguments that are slices of strings, opened once, nil or not.
-/
import Derived.Test.YtikbokbmaihdbaaDoorStrs
import Derived.SliceStrings
import Derived.SizedLaws
import Derived.ChangeSlices
import Derived.WideShapes
import Derived.Carry
namespace Go.Proofs.YtikbokbmaihdbaaDoor
open Go.ChangeShapes Go.WideShapes Go.RowKit

/-- What a slice of strings that came in is. -/
structure StrsView (W : World) (A : Option Addr) (len cap : Nat) (ss : List ByteArray) : Prop where
  row : Strs W A len ss
  short : ∀ s ∈ ss, s.size ≤ 140737488351232
  few : len * 16 ≤ 140737488351232
  fits : len ≤ cap
  none : A = none → len = 0 ∧ cap = 0

theorem weights_mem_all {H : Type} {P : Program} {e : TypeId} : ∀ {elems : List (DataW H)} {d : DataW H}, d ∈ elems → ∀ n ∈ d.weights P e, n ∈ DataW.weightsAll P e elems
  | d0 :: ds, d, hd, n, hn => by
    simp only [DataW.weightsAll, List.mem_append]
    rcases List.mem_cons.1 hd with rfl | h
    · exact Or.inl hn
    · exact Or.inr (weights_mem_all h n hn)

theorem view_strs {H : Type} {enc : TypeId × Value → H} {P : Program} {W : World} {t e : TypeId} {fuel : Nat} {A : Option Addr} {len cap : Nat} {d : DataW H} {p : List MemPlace}
    (ht : P.underlying t = some (.slice e)) (he : P.underlying e = some .string) (hc : P.cellsOf e = 1) (hb : P.bytesOf e = 16)
    (hf : DataW.trod enc P W 0 (fun _ => true) true fuel t (Value.slice A len cap).cells.toList = some (d, p)) (hw : ∀ n ∈ d.weights P t, n ≤ reachBytes) : ∃ ss, StrsView W A len cap ss := by
  rcases open_strings ht he hc hf with ⟨hcs, hx⟩ | ⟨a, len', cap', ss, hcs, _, hl, hm, hz, hx, hcell, hws⟩
  · simp [Value.cells] at hcs
    obtain ⟨rfl, rfl, rfl⟩ := hcs
    exact ⟨[], ⟨rfl, fun i hi => by simp at hi⟩, (fun s hs => by cases hs), by omega, Nat.le_refl _, fun _ => ⟨rfl, rfl⟩⟩
  · simp [Value.cells] at hcs
    obtain ⟨rfl, rfl, rfl⟩ := hcs
    simp only [if_true] at hz
    simp only [Prod.mk.injEq] at hx
    obtain ⟨rfl, rfl⟩ := hx
    have hall : ∀ s ∈ ss.take len, s.size ≤ 140737488351232 := by
      intro s hs
      have hm : (DataW.lit (.string s.data.toList) : DataW H) ∈ strs (ss.take len) := List.mem_map.2 ⟨s, hs, rfl⟩
      have h1 := weights_mem_all (P := P) (e := e) hm s.data.toList.length (by simp [DataW.weights])
      have h2 := hw s.data.toList.length (by simp only [DataW.weights, ht]; exact List.mem_cons_of_mem _ (List.mem_append_left _ h1))
      simpa [reachBytes] using h2
    have hfew : len * 16 ≤ 140737488351232 := by
      have h2 := hw _ (by simp only [DataW.weights, ht]; exact List.mem_cons_self)
      rw [hb] at h2
      simp only [strs, List.length_map, List.length_take, List.length_drop, reachBytes] at h2
      omega
    refine ⟨ss.take len, ⟨by simp; omega, fun i hi => ?_⟩, hall, hfew, hl, fun h => by cases h⟩
    have hi' : i < len := by simp at hi; omega
    have h := hcell i (by omega)
    obtain ⟨b, off, spot⟩ := a
    have h0 := hcell 0 (by omega)
    have hs : spot = .none := by simpa [Addr.add] using World.cell?_spot h0
    subst hs
    rw [add_plain] at h
    have hg : (ss.take len)[i] = ss.getD i ByteArray.empty := by
      rw [List.getElem_take, List.getD_eq_getElem?_getD, List.getElem?_eq_getElem (by omega)]; rfl
    exact ⟨b, off, rfl, World.block_lt_of_cell? W _ h, by rw [h, hg]⟩

end Go.Proofs.YtikbokbmaihdbaaDoor
