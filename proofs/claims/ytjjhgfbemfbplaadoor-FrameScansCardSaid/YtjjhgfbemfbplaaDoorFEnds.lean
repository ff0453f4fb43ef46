/-
  A row of integers that grows by one at a time; where frames end.
-/
import Derived.Test.YtjjhgfbemfbplaaDoorFWorks
import Derived.Test.YtjjhgfbemfbplaaDoorFTot
namespace Go.Proofs.YtjjhgfbemfbplaaDoor
open Go.RowKit Go.ChangeShapes Go.WideShapes

theorem info3 : (Tryd.prog.info? 3).map (fun i => (i.zero, i.size, i.bytes)) = some (some (.int .i64 0), 1, 8) := by kernel_rfl

def zel (zs : List Int) : List Value := zs.map (Value.int .i64)
theorem zel_snoc (zs : List Int) (z : Int) : zel zs ++ [.int .i64 z] = zel (zs ++ [z]) := by simp [zel]

/-- Integers in a row of memory. -/
structure EndR (w : World) (A : Option Addr) (n : Nat) (zs : List Int) : Prop where
  len : zs.length = n
  cell : ∀ i (h : i < zs.length), ∃ b, A = some ⟨b, 0, none⟩ ∧ b < w.heap.size ∧ w.cell? ⟨b, i, none⟩ = some (.int .i64 zs[i])
theorem EndR.below {w w' : World} {A : Option Addr} {n : Nat} {zs : List Int} (h : EndR w A n zs) (hb : Below w.heap.size w w') : EndR w' A n zs :=
  ⟨h.len, fun i hi => by
    obtain ⟨b, e, hl, hc⟩ := h.cell i hi
    exact ⟨b, e, Nat.lt_of_lt_of_le hl hb.size, (hb.cell (p := ⟨b, i, none⟩) hl).trans hc⟩⟩
theorem owns_ends {w : World} {base n : Nat} {e : TypeId} {v : Value} {zs : List Int} (h : w.ownsRow base e 1 v n (zel zs)) (hn : zs.length = n) : ∃ A cap, v = .slice A n cap ∧ EndR w A n zs := by
  have h' := h
  rcases h.2 with ⟨rfl, h0⟩ | ⟨g, cap, cur, rfl, _, hg, _⟩
  · subst h0
    exact ⟨none, 0, rfl, hn, fun i hi => by omega⟩
  · refine ⟨_, cap, rfl, hn, fun i hi => ⟨g, rfl, (Array.getElem?_eq_some_iff.1 hg).1, ?_⟩⟩
    have := h'.cells (g := g) rfl i (.int .i64 zs[i]) (by simp [zel, hi])
    rw [add_plain, Nat.zero_add] at this
    exact this

theorem one_int (z : Int) : ∀ u ∈ [Value.int .i64 z], u.oneCell' = true := by intro u hu; simp at hu; subst hu; rfl

/-- 'append(ends, z)'. -/
theorem wpList_append_int {ops : Array Oper} {rest : List Oper} {o : Oper} {a : Act} {w1 : World} {Q : Exit → Act → World → Prop} (hgd : o.guard = none) (s x : Operand)
    (ho : o.op = .call { callee := .builtin .append, args := #[s, x], argTypes := #[36, 36] }) (w : World) (z : Int) (base : Nat) (hbase : base ≤ w.heap.size) (v : Value) (zs : List Int) (hs : a.eval s = v) (hown : w.ownsRow base 3 1 v zs.length (zel zs)) (hl : zs.length ≤ 1000000)
    (hx : a.eval x = .slice (some ⟨w.heap.size, 0, none⟩) 1 1) (h1 : w1 = w.alloc (.cells #[.int .i64 z] 3))
    (h : ∀ v' w', w'.ownsRow base 3 1 v' (zs ++ [z]).length (zel (zs ++ [z])) → Below base w w' → wpList Tryd.prog ops Q rest (a.put o.dst v') w') : wpList Tryd.prog ops Q (o :: rest) a w1 := by
  subst h1
  obtain ⟨i, hi, hz, hs1, hb⟩ : ∃ i, Tryd.prog.info? 3 = some i ∧ i.zero = some (.int .i64 0) ∧ i.size = 1 ∧ i.bytes = 8 := by
    have h := info3
    cases hq : Tryd.prog.info? 3 with
    | none => rw [hq] at h; cases h
    | some i => rw [hq] at h; simp at h; exact ⟨i, rfl, h.1, h.2.1, h.2.2⟩
  have hown1 := hown.alloc (.cells #[.int .i64 z] 3)
  refine wpList_append_own _ hgd s x 36 ho base 3 i (.int .i64 0) 1 8 Tryd.underlying36 hi hz hs1 hb rfl (by decide) v zs.length (zel zs) hs hown1 ⟨w.heap.size, 0, none⟩ 1 1 [.int .i64 z] hx (by simp) (one_text w _ _) (one_int z) (by unfold maxLen; omega) (by omega) (by simp; omega) ?_
  intro v' w' hown' hg _
  refine h v' w' ?_ (((Below.refl _ w).alloc hbase _).grown hg (by simp; omega) (fun k hk => (hown1.lt k hk).1))
  rw [zel_snoc] at hown'
  simpa using hown'

/-- Where each frame ends. -/
def endAt (ss : List ByteArray) (i : Nat) : Nat := (frs (ss.take i)).length
def endsTo (ss : List ByteArray) (i : Nat) : List Int := (List.range i).map fun j => (endAt ss (j + 1) : Int)
theorem endsTo_snoc (ss : List ByteArray) (i : Nat) : endsTo ss i ++ [(endAt ss (i + 1) : Int)] = endsTo ss (i + 1) := by simp [endsTo, List.range_succ]
theorem endsTo_len (ss : List ByteArray) (i : Nat) : (endsTo ss i).length = i := by simp [endsTo]
theorem endsTo_get (ss : List ByteArray) (i n : Nat) (h : i < (endsTo ss n).length) : (endsTo ss n)[i] = (endAt ss (i + 1) : Int) := by simp [endsTo]
theorem endAt_zero (ss : List ByteArray) : endAt ss 0 = 0 := by simp [endAt, frs]
theorem endAt_le (ss : List ByteArray) (i j : Nat) (h : i ≤ j) : endAt ss i ≤ endAt ss j := by
  have := frs_le (ss.take j) i
  rw [List.take_take, Nat.min_eq_left h] at this
  exact this
/-- How many frames are whole in the first k bytes. -/
theorem whole (ss : List ByteArray) (k : Nat) : ∃ j, j ≤ ss.length ∧ endAt ss j ≤ k ∧ (j < ss.length → k < endAt ss (j + 1)) := by
  have h : ∀ m, m ≤ ss.length → (∃ j, j < m ∧ endAt ss j ≤ k ∧ k < endAt ss (j + 1)) ∨ endAt ss m ≤ k := by
    intro m
    induction m with
    | zero => intro _; right; rw [endAt_zero]; omega
    | succ m ih =>
      intro hm
      rcases ih (by omega) with ⟨j, hj, h1, h2⟩ | h1
      · exact Or.inl ⟨j, by omega, h1, h2⟩
      · by_cases h2 : k < endAt ss (m + 1)
        · exact Or.inl ⟨m, by omega, h1, h2⟩
        · exact Or.inr (by omega)
  rcases h ss.length (Nat.le_refl _) with ⟨j, hj, h1, h2⟩ | h1
  · exact ⟨j, by omega, h1, fun _ => h2⟩
  · exact ⟨ss.length, Nat.le_refl _, h1, fun h => by omega⟩

theorem Strs.take {w : World} {A : Option Addr} {n : Nat} {ss : List ByteArray} (h : Strs w A n ss) (j : Nat) (hj : j ≤ n) : Strs w A j (ss.take j) := by
  refine ⟨by rw [List.length_take, h.len]; omega, fun i hi => ?_⟩
  have hi' : i < ss.length := by rw [List.length_take] at hi; omega
  obtain ⟨b, off, e, hl, hc⟩ := h.cell i hi'
  exact ⟨b, off, e, hl, by rw [hc, List.getElem_take]⟩

end Go.Proofs.YtjjhgfbemfbplaaDoor
