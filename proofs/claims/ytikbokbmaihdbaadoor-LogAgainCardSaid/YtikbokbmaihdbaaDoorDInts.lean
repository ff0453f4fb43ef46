/-
  Layer 7: a slice of ints that came in, copied ('append([]int(nil), l...)').
-/
import Derived.Test.YtikbokbmaihdbaaDoorDDoorB
import Derived.OwnWalk
import Derived.Laws.AppendOwnNone
namespace Go.Proofs.YtikbokbmaihdbaaDoor
open Go.RowKit Go.ChangeShapes Go.WideShapes

theorem info3 : (Tryd.prog.info? 3).map (fun i => (i.zero, i.size, i.bytes)) = some (some (.int .i64 0), 1, 8) := by kernel_rfl

theorem SliceView.below {w w' : World} {k : IntKind} {A : Option Addr} {len cap : Nat} {Z : List Int} (h : SliceView w k A len cap Z) (hb : Below w.heap.size w w') : SliceView w' k A len cap Z := by
  obtain ⟨h1, h2, h3, h4, h5, h6⟩ := h
  refine ⟨h1, h2, h3, h4, fun t ht => ?_, h6⟩
  obtain ⟨b, off, e, hl, hc⟩ := h5 t ht
  exact ⟨b, off, e, Nat.lt_of_lt_of_le hl hb.size, (hb.cell (p := ⟨b, off + t, none⟩) hl).trans hc⟩

set_option maxRecDepth 100000 in
/-- 'append([]int(nil), l...)'. -/
theorem wpList_copy_ints {ops : Array Oper} {rest : List Oper} {o : Oper} {a : Act} {w : World} {Q : Exit → Act → World → Prop} (hgd : o.guard = none) (s x : Operand)
    (ho : o.op = .call { callee := .builtin .append, args := #[s, x], argTypes := #[24, 24] }) (hs : a.eval s = .slice none 0 0) (A : Option Addr) (len cap : Nat) (zs : List Int) (hx : a.eval x = .slice A len cap) (hv : SliceView w .i64 A len cap zs) (hfew : len * 8 ≤ many)
    (h : ∀ A' cap' w', Hid (SliceView w' .i64 A' len cap' zs) → Hid (Below w.heap.size w w') → Hid (∀ a, A' = some a → w.heap.size ≤ a.block) → wpList Tryd.prog ops Q rest (a.put o.dst (.slice A' len cap')) w') : wpList Tryd.prog ops Q (o :: rest) a w := by
  obtain ⟨i, hi, hz, hs1, hb⟩ : ∃ i, Tryd.prog.info? 3 = some i ∧ i.zero = some (.int .i64 0) ∧ i.size = 1 ∧ i.bytes = 8 := by
    have h := info3
    cases hq : Tryd.prog.info? 3 with
    | none => rw [hq] at h; cases h
    | some i => rw [hq] at h; simp at h; exact ⟨i, rfl, h.1, h.2.1, h.2.2⟩
  have hv' := hv
  obtain ⟨h1, h2, h3, h4, h5, h6⟩ := hv
  unfold many at hfew
  cases A with
  | none =>
    obtain ⟨rfl, rfl⟩ := h4 rfl
    exact wpList_append_own_none hgd s x 24 ho 0 3 i 1 Tryd.underlying24 hi (.slice none 0 0) 0 [] hs ⟨rfl, .inl ⟨rfl, rfl⟩⟩ hx (h none 0 w hv' (Below.refl _ _) (fun a ha => by cases ha))
  | some ad =>
    refine wpList_append_own w hgd s x 24 ho w.heap.size 3 i (.int .i64 0) 1 8 Tryd.underlying24 hi hz hs1 hb rfl (by decide) (.slice none 0 0) 0 [] hs ⟨rfl, .inl ⟨rfl, rfl⟩⟩ ad len cap (zs.map (Value.int .i64)) hx (by simp [h1]) ?_ ?_ (by unfold maxLen; omega) (by omega) (Nat.le_refl _) ?_
    · intro j u hj
      have hjl : j < zs.length := by have := (List.getElem?_eq_some_iff.1 hj).1; simpa using this
      obtain ⟨b, off, e, _, hc⟩ := h5 j (by omega)
      injection e with e
      subst e
      rw [add_plain, hc]
      simp [List.getElem?_eq_getElem hjl] at hj
      rw [← hj]
      simp [List.getD, hjl]
    · intro u hu
      obtain ⟨y, _, rfl⟩ := List.mem_map.1 hu
      rfl
    · intro v' w' hown hg _
      rw [Nat.zero_add] at hown
      have hown' := hown
      rcases hown.2 with ⟨rfl, h0⟩ | ⟨g, c2, cur, rfl, hnew, hgd2, hl2, hm2, _⟩
      · subst h0
        exact h none 0 w' ⟨h1, Nat.le_refl _, Nat.zero_le _, fun _ => ⟨rfl, rfl⟩, fun t ht => by omega, h6⟩ ((Below.refl _ w).grown hg (Nat.le_refl _) (fun k hk => by cases hk)) (fun a ha => by cases ha)
      · refine h _ c2 w' ⟨h1, hl2, hm2, (fun h => by cases h), fun t ht => ⟨g, 0, rfl, (Array.getElem?_eq_some_iff.1 hgd2).1, ?_⟩, h6⟩ ((Below.refl _ w).grown hg (Nat.le_refl _) (fun k hk => by cases hk)) (fun a ha => by cases ha; exact hnew)
        have := hown'.cells (g := g) rfl t (.int .i64 (zs.getD t 0)) (by simp [List.getD, h1, ht])
        rw [add_plain] at this
        exact this

theorem Did.before {D : Disks} {O : Nat → Prop} {w w1 w' : World} {g : Nat} {r : Dsk × Nat} {e : Ending} (hb : Below w.heap.size w w1) (h : Did D O w1 g r e w') : Did D O w g r e w' := by
  obtain ⟨he, O', hd, ho, hO⟩ := h
  refine ⟨he, O', hd, (hb.only O).trans ho (fun i hi => Or.inl hi), fun k hk => ?_⟩
  rcases hO k hk with h | h
  · exact Or.inl h
  · exact Or.inr (Nat.le_trans hb.size h)

end Go.Proofs.YtikbokbmaihdbaaDoor
