/-
  Rows of texts of one's own.
-/
import Derived.Test.YtikbokbmaihdbaaDoorStrs
import Derived.OwnWalk
import Derived.WideShapes
import Derived.ChangeSlices
namespace Go.Proofs.YtikbokbmaihdbaaDoor
open Go.RowKit Go.ChangeShapes Go.WideShapes

theorem info9 : (Tryd.prog.info? 9).map (fun i => (i.zero, i.size, i.bytes)) = some (some (.string ByteArray.empty), 1, 16) := by kernel_rfl

theorem owns_below {w w' : World} {base : Nat} {e : TypeId} {size : Nat} {v : Value} {n : Nat} {xs : List Value} (h : w.ownsRow base e size v n xs) (hb : Below w.heap.size w w') : w'.ownsRow base e size v n xs := by
  obtain ⟨h1, h2⟩ := h
  refine ⟨h1, ?_⟩
  rcases h2 with h2 | ⟨g, cap, cur, hv, hg, hh, r⟩
  · exact Or.inl h2
  · exact Or.inr ⟨g, cap, cur, hv, hg, (hb.block g (Array.getElem?_eq_some_iff.1 hh).1).trans hh, r⟩

def txt (ts : List ByteArray) : List Value := ts.map Value.string
theorem txt_snoc (ts : List ByteArray) (t : ByteArray) : txt ts ++ [.string t] = txt (ts ++ [t]) := by simp [txt]
theorem owns_strs {w : World} {base n : Nat} {e : TypeId} {v : Value} {ts : List ByteArray} (h : w.ownsRow base e 1 v n (txt ts)) (hn : ts.length = n) : ∃ A cap, v = .slice A n cap ∧ Strs w A n ts := by
  have h' := h
  rcases h.2 with ⟨rfl, h0⟩ | ⟨g, cap, cur, rfl, _, hg, _⟩
  · subst h0
    exact ⟨none, 0, rfl, hn, fun i hi => by omega⟩
  · refine ⟨_, cap, rfl, hn, fun i hi => ⟨g, 0, rfl, (Array.getElem?_eq_some_iff.1 hg).1, ?_⟩⟩
    have := h'.cells (g := g) rfl i (.string ts[i]) (by simp [txt, hi])
    rw [add_plain] at this
    exact this
/-- .. and where it lies. -/
theorem owns_strs0 {w : World} {base n : Nat} {e : TypeId} {v : Value} {ts : List ByteArray} (h : w.ownsRow base e 1 v n (txt ts)) (hn : ts.length = n) : ∃ A cap, v = .slice A n cap ∧ Strs w A n ts ∧ (A = none → cap = 0) ∧ ∀ ad, A = some ad → base ≤ ad.block := by
  have h' := h
  rcases h.2 with ⟨rfl, h0⟩ | ⟨g, cap, cur, rfl, hbg, hg, _⟩
  · subst h0
    exact ⟨none, 0, rfl, ⟨hn, fun i hi => by omega⟩, fun _ => rfl, fun ad had => by cases had⟩
  · refine ⟨_, cap, rfl, ⟨hn, fun i hi => ⟨g, 0, rfl, (Array.getElem?_eq_some_iff.1 hg).1, ?_⟩⟩, (fun had => by cases had), fun ad had => by cases had; exact hbg⟩
    have := h'.cells (g := g) rfl i (.string ts[i]) (by simp [txt, hi])
    rw [add_plain] at this
    exact this

end Go.Proofs.YtikbokbmaihdbaaDoor
