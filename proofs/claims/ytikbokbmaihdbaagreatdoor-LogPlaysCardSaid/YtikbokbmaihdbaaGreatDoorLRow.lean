/-
  Layer 8: a row of texts of a law's own that grows beside a disk and a log.
-/
import Derived.Test.YtikbokbmaihdbaaGreatDoorLWorks
import Derived.Test.YtikbokbmaihdbaaGreatDoorBRow
import Derived.Maps.AppendAt
import Derived.Laws.AppendOwnNone
import Derived.BigFrame
namespace Go.Proofs.YtikbokbmaihdbaaGreatDoor
open Go.RowKit Go.ChangeShapes Go.WideShapes

def rowF (v : Value) : Nat → Prop := fun k => v.ownBlock = some k
theorem one_text' (w : World) (v : Value) (t : TypeId) : ∀ (j : Nat) (u : Value), [v][j]? = some u → (w.alloc (.cells #[v] t)).cell? ((⟨w.heap.size, 0, none⟩ : Addr).add j) = some u := by
  intro j u hj
  match j, hj with
  | 0, hj => simp at hj; subst hj; simp [Addr.add]
theorem row_keep {w w' : World} {base : Nat} {e : TypeId} {size : Nat} {v : Value} {n : Nat} {xs : List Value} (h : w.ownsRow base e size v n xs) (hk : Kept (rowF v) w w') : w'.ownsRow base e size v n xs := by
  obtain ⟨h1, h2⟩ := h
  refine ⟨h1, ?_⟩
  rcases h2 with h2 | ⟨g, cap, cur, hv, hg, hh, r⟩
  · exact Or.inl h2
  · exact Or.inr ⟨g, cap, cur, hv, hg, (hk g (by show v.ownBlock = some g; rw [hv]; rfl)).trans hh, r⟩
theorem row_strs {w : World} {base n : Nat} {e : TypeId} {v : Value} {ts : List ByteArray} (h : w.ownsRow base e 1 v n (txt ts)) (hn : ts.length = n) : ∃ A cap, v = .slice A n cap ∧ Strs w A n ts ∧ n ≤ cap ∧ cap ≤ maxLen := by
  obtain ⟨A, cap, hv, hst⟩ := owns_strs h hn
  refine ⟨A, cap, hv, hst, ?_⟩
  rcases h.2 with ⟨h1, h0⟩ | ⟨g, cap', cur, h1, _, _, h4, h5, _⟩
  · rw [hv] at h1
    injection h1 with _ h2 h3
    subst h3
    exact ⟨by omega, Nat.zero_le _⟩
  · rw [hv] at h1
    injection h1 with _ _ h3
    subst h3
    exact ⟨h4, h5⟩

theorem row_base {w : World} {B base : Nat} {e : TypeId} {size : Nat} {v : Value} {n : Nat} {xs : List Value} (h : w.ownsRow base e size v n xs) (hB : B ≤ base) : w.ownsRow B e size v n xs := by
  refine ⟨h.1, ?_⟩
  rcases h.2 with h | ⟨g, cap, cur, h1, h2, h3⟩
  · exact Or.inl h
  · exact Or.inr ⟨g, cap, cur, h1, Nat.le_trans hB h2, h3⟩
set_option maxRecDepth 100000 in
/-- 'append([]string(nil), l...)'. -/
theorem wp_copy_row {o : Oper} {a : Act} {w : World} {K : Act → World → Prop} {Q : Exit → Act → World → Prop} (s x : Operand)
    (ho : o.op = .call { callee := .builtin .append, args := #[s, x], argTypes := #[33, 33] }) (hs : a.eval s = .slice none 0 0) (A : Option Addr) (len cap : Nat) (ss : List ByteArray) (hx : a.eval x = .slice A len cap) (hv : Hid (Strs w A len ss)) (hfew : len ≤ 1000000) (hn : A = none → cap = 0)
    (h : ∀ v' w', Hid (w'.ownsRow w.heap.size 9 1 v' len (txt ss)) → Hid (Below w.heap.size w w') → K (a.put o.dst v') w') : o.wp Tryz.prog a w K Q := by
  obtain ⟨i, hi, hz, hs1, hb⟩ : ∃ i, Tryz.prog.info? 9 = some i ∧ i.zero = some (.string ByteArray.empty) ∧ i.size = 1 ∧ i.bytes = 16 := by
    have h := info9
    cases hq : Tryz.prog.info? 9 with
    | none => rw [hq] at h; cases h
    | some i => rw [hq] at h; simp at h; exact ⟨i, rfl, h.1, h.2.1, h.2.2⟩
  have hlen := hv.out.len
  cases A with
  | none =>
    obtain rfl := hn rfl
    have h0 : len = 0 := by
      rcases Nat.eq_zero_or_pos len with h0 | h0
      · exact h0
      · obtain ⟨b, off, e, _⟩ := hv.out.cell 0 (by omega)
        cases e
    subst h0
    have hss : ss = [] := List.eq_nil_of_length_eq_zero hlen
    subst hss
    have hrun := run_append_owned_none (P := Tryz.prog) (w := w) w.heap.size 33 o.type 9 i 1 Tryz.underlying33 hi (.slice none 0 0) 0 [] ⟨rfl, .inl ⟨rfl, rfl⟩⟩
    have hk := h _ w (World.ownsRow_nil _ _ _ _) (Below.refl _ _)
    unfold Oper.wp
    simp [execOp, ho, resolve, invoke, builtin, hs, hx, hrun, Result.andThen]
    exact hk
  | some ad =>
    refine wp_append_own w s x 33 ho w.heap.size 9 i (.string ByteArray.empty) 1 16 Tryz.underlying33 hi hz hs1 hb rfl (by decide) (.slice none 0 0) 0 [] hs ⟨rfl, .inl ⟨rfl, rfl⟩⟩ ad len cap (txt ss) hx (by simp [txt, hlen]) ?_ ?_ (by unfold maxLen; omega) (by omega) (Nat.le_refl _) ?_
    · intro j u hj
      have hjl : j < ss.length := by have := (List.getElem?_eq_some_iff.1 hj).1; simpa [txt] using this
      obtain ⟨b, off, e, _, hc⟩ := hv.out.cell j hjl
      injection e with e
      subst e
      rw [add_plain, hc]
      simp [txt, List.getElem?_eq_getElem hjl] at hj
      rw [hj]
    · intro u hu
      obtain ⟨y, _, rfl⟩ := List.mem_map.1 hu
      rfl
    · intro v' w' hown hg _
      rw [Nat.zero_add] at hown
      exact h v' w' hown ((Below.refl _ w).grown hg (Nat.le_refl _) (fun k hk => by cases hk))

/-- .. at the operation: unguarded, or where its guard says yes. -/
theorem wpList_copy_row {ops : Array Oper} {rest : List Oper} {o : Oper} {a : Act} {w : World} {Q : Exit → Act → World → Prop} (hw : Region.wanted o (yielded ops a.tmps) = true) (s x : Operand)
    (ho : o.op = .call { callee := .builtin .append, args := #[s, x], argTypes := #[33, 33] }) (hs : a.eval s = .slice none 0 0) (A : Option Addr) (len cap : Nat) (ss : List ByteArray) (hx : a.eval x = .slice A len cap) (hv : Hid (Strs w A len ss)) (hfew : len ≤ 1000000) (hn : A = none → cap = 0)
    (h : ∀ v' w', Hid (w'.ownsRow w.heap.size 9 1 v' len (txt ss)) → Hid (Below w.heap.size w w') → wpList Tryz.prog ops Q rest (a.put o.dst v') w') : wpList Tryz.prog ops Q (o :: rest) a w :=
  BigFrame.wpList_want hw fun _ hK => wp_copy_row s x ho hs A len cap ss hx hv hfew hn fun v' w' h1 h2 => hK _ _ (h v' w' h1 h2)

section
variable {D : Disks} {L : Logs} (hD : DoorB D) (hL : LDoor D L) {w0 w : World} {g x : Nat} {σ : Dsk} {n : ByteArray} {l : Lg}
include hD hL
set_option maxRecDepth 100000 in
/-- 'put = append(put, t)'. -/
theorem wpList_put_text {ops : Array Oper} {rest : List Oper} {o : Oper} {a : Act} {w1 : World} {Q : Exit → Act → World → Prop} (hgd : o.guard = none) (s y : Operand)
    (ho : o.op = .call { callee := .builtin .append, args := #[s, y], argTypes := #[33, 33] }) (t : ByteArray) (v : Value) (ts : List ByteArray) (hs : a.eval s = v) (hB : Hid (Both D L w0 w g σ x n l (rowF v))) (hO : Hid (w.ownsRow w0.heap.size 9 1 v ts.length (txt ts))) (hl : ts.length ≤ 1000000)
    (hx : a.eval y = .slice (some ⟨w.heap.size, 0, none⟩) 1 1) (h1 : w1 = w.alloc (.cells #[.string t] 9))
    (h : ∀ v' w', Hid (w'.ownsRow w0.heap.size 9 1 v' (ts ++ [t]).length (txt (ts ++ [t]))) → Hid (Both D L w0 w' g σ x n l (rowF v')) → wpList Tryz.prog ops Q rest (a.put o.dst v') w') : wpList Tryz.prog ops Q (o :: rest) a w1 := by
  subst h1
  obtain ⟨i, hi, hz, hs1, hb⟩ : ∃ i, Tryz.prog.info? 9 = some i ∧ i.zero = some (.string ByteArray.empty) ∧ i.size = 1 ∧ i.bytes = 16 := by
    have h := info9
    cases hq : Tryz.prog.info? 9 with
    | none => rw [hq] at h; cases h
    | some i => rw [hq] at h; simp at h; exact ⟨i, rfl, h.1, h.2.1, h.2.2⟩
  have hown1 := hO.out.alloc (.cells #[.string t] 9)
  have hbel := hB.out.bel
  refine wpList_append_own_at _ hgd s y 33 ho w0.heap.size 9 i (.string ByteArray.empty) 1 16 Tryz.underlying33 hi hz hs1 hb rfl (by decide) v ts.length (txt ts) hs hown1 ⟨w.heap.size, 0, none⟩ 1 1 [.string t] hx (by simp) (one_text' w _ _) (by intro u hu; simp at hu; subst hu; rfl) (by unfold maxLen; omega) (by omega) (by simp; exact Nat.le_succ_of_le hbel.size) ?_
  intro v' w' hown' hg _ hat
  have hsz : (w.alloc (.cells #[.string t] 9)).heap.size = w.heap.size + 1 := by simp
  have hs' := hg.size
  refine h v' w' ?_ ?_
  · have := hown'
    rw [txt_snoc] at this
    show World.ownsRow _ _ _ _ _ _ _
    simpa using this
  · refine Both.frame hD hL hB.out (Or.inr ⟨(hbel.alloc hbel.size _).grown hg (by have := hbel.size; omega) (fun k hk => (hown1.lt k hk).1), fun k hk hnF => ?_⟩) (fun k hk => ⟨(hown'.lt k hk).2, ?_⟩)
    · rw [hg.block k (by omega) (fun e => hnF e.symm)]
      exact Below.heap_alloc _ _ _ hk
    · rcases hat with h1 | h1
      · exact Or.inl (h1.symm.trans hk)
      · have hk' : v'.ownBlock = some k := hk
        rw [h1] at hk'
        injection hk' with hk'
        exact Or.inr (by omega)
end

end Go.Proofs.YtikbokbmaihdbaaGreatDoor
