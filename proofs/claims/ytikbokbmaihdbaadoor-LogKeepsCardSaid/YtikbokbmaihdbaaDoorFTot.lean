/-
  Sums over rows of texts.
-/
import Derived.Test.YtikbokbmaihdbaaDoorFPure
namespace Go.Proofs.YtikbokbmaihdbaaDoor

def tot (c : Nat) (ss : List ByteArray) : Nat := (ss.map fun s => c + s.size).sum
theorem tot_snoc (c : Nat) (ss : List ByteArray) (i : Nat) (h : i < ss.length) : tot c (ss.take (i + 1)) = tot c (ss.take i) + (c + ss[i].size) := by
  rw [List.take_succ_eq_append_getElem h, tot, List.map_append, List.sum_append]; simp [tot]
theorem tot_le (c : Nat) (ss : List ByteArray) (i : Nat) : tot c (ss.take i) ≤ tot c ss := by
  have e : tot c ss = tot c (ss.take i) + tot c (ss.drop i) := by rw [tot, tot, tot, ← List.sum_append, ← List.map_append, List.take_append_drop]
  omega
theorem tot_mem {c : Nat} : ∀ {ss : List ByteArray} {s : ByteArray}, s ∈ ss → s.size ≤ tot c ss
  | t :: ss, s, h => by
    simp only [tot, List.map_cons, List.sum_cons]
    rcases List.mem_cons.1 h with rfl | h
    · omega
    · have := tot_mem (c := c) h
      rw [tot] at this
      omega
theorem tot_most {c m : Nat} : ∀ {ss : List ByteArray}, (∀ s ∈ ss, s.size ≤ m) → tot c ss ≤ ss.length * (c + m)
  | [], _ => by simp [tot]
  | t :: ss, h => by
    have h1 := h t (by simp)
    have h2 := tot_most (c := c) (fun s hs => h s (List.mem_cons_of_mem _ hs))
    simp only [tot, List.map_cons, List.sum_cons, List.length_cons] at h2 ⊢
    rw [Nat.add_mul]
    omega
theorem frs_tot (c : Nat) (hc : c ≤ 8) : ∀ (ss : List ByteArray), (frs ss).length = tot c ss + (8 - c) * ss.length
  | [] => by simp [frs, tot]
  | t :: ss => by
    have h := frs_tot c hc ss
    rw [frs_cons, List.length_append, fr_len, h, ← size_len]
    simp only [tot, List.map_cons, List.sum_cons, List.length_cons]
    rw [Nat.mul_add]
    omega

end Go.Proofs.YtikbokbmaihdbaaDoor
