/-
  Layer 6, plain mathematics: where each frame ends.
-/
import Derived.Test.YtikbokbmaihdbaaDoorFPure
namespace Go.Proofs.YtikbokbmaihdbaaDoor

def endAt (ss : List ByteArray) (i : Nat) : Nat := (frs (ss.take i)).length
theorem endAt_zero (ss : List ByteArray) : endAt ss 0 = 0 := by simp [endAt, frs]
theorem endAt_le (ss : List ByteArray) (i j : Nat) (h : i ≤ j) : endAt ss i ≤ endAt ss j := by
  have := frs_le (ss.take j) i
  rw [List.take_take, Nat.min_eq_left h] at this
  exact this
/-- How many frames are whole in the first k bytes. -/
theorem whole (ss : List ByteArray) (k : Nat) : ∃ j, j ≤ ss.length ∧ endAt ss j ≤ k ∧ (j < ss.length → k < endAt ss (j + 1)) := by
  have h : ∀ m, m ≤ ss.length → (∃ j, j < m ∧ endAt ss j ≤ k ∧ k < endAt ss (j + 1)) ∨ endAt ss m ≤ k := by
    intro m
    induction m with
    | zero => intro _; right; rw [endAt_zero]; omega
    | succ m ih =>
      intro hm
      rcases ih (by omega) with ⟨j, hj, h1, h2⟩ | h1
      · exact Or.inl ⟨j, by omega, h1, h2⟩
      · by_cases h2 : k < endAt ss (m + 1)
        · exact Or.inl ⟨m, by omega, h1, h2⟩
        · exact Or.inr (by omega)
  rcases h ss.length (Nat.le_refl _) with ⟨j, hj, h1, h2⟩ | h1
  · exact ⟨j, by omega, h1, fun _ => h2⟩
  · exact ⟨ss.length, Nat.le_refl _, h1, fun h => by omega⟩

end Go.Proofs.YtikbokbmaihdbaaDoor
