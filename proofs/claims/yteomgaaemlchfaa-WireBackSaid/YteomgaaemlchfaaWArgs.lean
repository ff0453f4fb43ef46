/-
  Layer 5: numbers and texts that came in; how many bytes texts are.
-/
import Derived.Test.YteomgaaemlchfaaArgs
import Derived.Test.YteomgaaemlchfaaStrArgs
import Derived.Test.YteomgaaemlchfaaWTexts
import Derived.OpenShut
namespace Go.Proofs.Yteomgaaemlchfaa
open Go.RowKit

theorem ints_of_view {W : World} {A : Option Addr} {len cap : Nat} {Z : List Int} (h : SliceView W .u64 A len cap Z) : ∃ N, Ints W A len N ∧ ∀ x ∈ N, x ≤ 18446744073709551615 := by
  obtain ⟨h1, _, _, _, h2, h3⟩ := h
  refine ⟨Z.map Int.toNat, ⟨by simp [h1], fun i hi => ?_⟩, fun n hn => ?_⟩
  · have hi' : i < Z.length := by simpa using hi
    obtain ⟨b, off, e, hb, hc⟩ := h2 i (by omega)
    have hz := bounds_u64 (h3 Z[i] (List.getElem_mem hi'))
    refine ⟨b, off, e, hb, ?_⟩
    rw [hc]
    simp [List.getD, List.getElem?_eq_getElem hi', Int.toNat_of_nonneg hz.1]
  · obtain ⟨z, hz, rfl⟩ := List.mem_map.1 hn
    have := bounds_u64 (h3 z hz)
    omega

/-- A byte, and its own, for each text. -/
def tot (ss : List ByteArray) : Nat := (ss.map fun s => 1 + s.size).sum
theorem tot_snoc (ss : List ByteArray) (k : Nat) (h : k < ss.length) : tot (ss.take (k + 1)) = tot (ss.take k) + 1 + ss[k].size := by
  rw [List.take_succ_eq_append_getElem h, tot, List.map_append, List.sum_append]
  simp [tot]; omega
theorem tot_len (ss : List ByteArray) : ss.length ≤ tot ss := by
  induction ss with
  | nil => simp [tot]
  | cons s t ih => simp only [tot, List.map_cons, List.sum_cons, List.length_cons] at *; omega
theorem txs_tot (ss : List ByteArray) : (txs ss).length ≤ 10 * tot ss := by
  induction ss with
  | nil => simp [txs]
  | cons s t ih =>
    have h := ub_le s.data.toList.length
    have e : s.data.toList.length = s.size := by simp
    simp only [txs, tot, txb, List.flatMap_cons, List.length_append, List.map_cons, List.sum_cons] at *
    omega

end Go.Proofs.Yteomgaaemlchfaa
