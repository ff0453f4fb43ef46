/-
  Layer 7: rows of texts and of numbers that grow beside each other, and beside a disk.
-/
import Derived.Test.YtaiifelkbajaoaaDWorks
import Derived.Maps.AppendAt
namespace Go.Proofs.Ytaiifelkbajaoaa
open Go.RowKit Go.ChangeShapes Go.WideShapes

theorem info9 : (Try.prog.info? 9).map (fun i => (i.zero, i.size, i.bytes)) = some (some (.string ByteArray.empty), 1, 16) := by kernel_rfl

def txt (ts : List ByteArray) : List Value := ts.map Value.string
theorem txt_snoc (ts : List ByteArray) (t : ByteArray) : txt ts ++ [.string t] = txt (ts ++ [t]) := by simp [txt]
def zel (zs : List Int) : List Value := zs.map (Value.int .i64)
theorem zel_snoc (zs : List Int) (z : Int) : zel zs ++ [.int .i64 z] = zel (zs ++ [z]) := by simp [zel]

theorem owns_kept {w w' : World} {base : Nat} {e : TypeId} {size : Nat} {v : Value} {n : Nat} {xs : List Value} (h : w.ownsRow base e size v n xs) (hb : ∀ k, v.ownBlock = some k → w'.heap[k]? = w.heap[k]?) : w'.ownsRow base e size v n xs := by
  obtain ⟨h1, h2⟩ := h
  refine ⟨h1, ?_⟩
  rcases h2 with h2 | ⟨g, cap, cur, hv, hg, hh, r⟩
  · exact Or.inl h2
  · exact Or.inr ⟨g, cap, cur, hv, hg, (hb g (by rw [hv]; rfl)).trans hh, r⟩
theorem owns_below {w w' : World} {base : Nat} {e : TypeId} {size : Nat} {v : Value} {n : Nat} {xs : List Value} (h : w.ownsRow base e size v n xs) (hb : Below w.heap.size w w') : w'.ownsRow base e size v n xs :=
  owns_kept h (fun k hk => hb.block k (h.lt k hk).2)

/-- A row of texts; it lies from block B on. -/
theorem owns_strs {w : World} {base n : Nat} {e : TypeId} {v : Value} {ts : List ByteArray} (h : w.ownsRow base e 1 v n (txt ts)) (hn : ts.length = n) : ∃ A cap, v = .slice A n cap ∧ Strs w A n ts ∧ ∀ ad, A = some ad → base ≤ ad.block := by
  have h' := h
  rcases h.2 with ⟨rfl, h0⟩ | ⟨g, cap, cur, rfl, hbg, hg, _⟩
  · subst h0
    exact ⟨none, 0, rfl, ⟨hn, fun i hi => by omega⟩, fun ad h => by cases h⟩
  · refine ⟨_, cap, rfl, ⟨hn, fun i hi => ⟨g, 0, rfl, (Array.getElem?_eq_some_iff.1 hg).1, ?_⟩⟩, fun ad h => by cases h; exact hbg⟩
    have := h'.cells (g := g) rfl i (.string ts[i]) (by simp [txt, hi])
    rw [add_plain] at this
    exact this
/-- Integers in a row of memory. -/
structure EndR (w : World) (A : Option Addr) (n : Nat) (zs : List Int) : Prop where
  len : zs.length = n
  cell : ∀ i (h : i < zs.length), ∃ b, A = some ⟨b, 0, none⟩ ∧ b < w.heap.size ∧ w.cell? ⟨b, i, none⟩ = some (.int .i64 zs[i])
theorem EndR.kept {w w' : World} {A : Option Addr} {n : Nat} {zs : List Int} (h : EndR w A n zs) (hs : w.heap.size ≤ w'.heap.size) (hb : ∀ ad, A = some ad → ad.block < w.heap.size → w'.heap[ad.block]? = w.heap[ad.block]?) : EndR w' A n zs :=
  ⟨h.len, fun i hi => by
    obtain ⟨b, e, hl, hc⟩ := h.cell i hi
    exact ⟨b, e, Nat.lt_of_lt_of_le hl hs, (World.cell?_of_block (w := w) (a := ⟨b, i, none⟩) (hb ⟨b, 0, none⟩ e hl)).trans hc⟩⟩
theorem EndR.below {w w' : World} {A : Option Addr} {n : Nat} {zs : List Int} (h : EndR w A n zs) (hb : Below w.heap.size w w') : EndR w' A n zs := h.kept hb.size (fun _ _ hl => hb.block _ hl)
theorem Strs.kept {w w' : World} {A : Option Addr} {n : Nat} {ss : List ByteArray} (h : Strs w A n ss) (hs : w.heap.size ≤ w'.heap.size) (hb : ∀ ad, A = some ad → ad.block < w.heap.size → w'.heap[ad.block]? = w.heap[ad.block]?) : Strs w' A n ss :=
  ⟨h.len, fun i hi => by
    obtain ⟨b, off, e, hl, hc⟩ := h.cell i hi
    exact ⟨b, off, e, Nat.lt_of_lt_of_le hl hs, (World.cell?_of_block (w := w) (a := ⟨b, off + i, none⟩) (hb ⟨b, off, none⟩ e hl)).trans hc⟩⟩
theorem owns_ends {w : World} {base n : Nat} {e : TypeId} {v : Value} {zs : List Int} (h : w.ownsRow base e 1 v n (zel zs)) (hn : zs.length = n) : ∃ A cap, v = .slice A n cap ∧ EndR w A n zs ∧ ∀ ad, A = some ad → base ≤ ad.block := by
  have h' := h
  rcases h.2 with ⟨rfl, h0⟩ | ⟨g, cap, cur, rfl, hbg, hg, _⟩
  · subst h0
    exact ⟨none, 0, rfl, ⟨hn, fun i hi => by omega⟩, fun ad h => by cases h⟩
  · refine ⟨_, cap, rfl, ⟨hn, fun i hi => ⟨g, rfl, (Array.getElem?_eq_some_iff.1 hg).1, ?_⟩⟩, fun ad h => by cases h; exact hbg⟩
    have := h'.cells (g := g) rfl i (.int .i64 zs[i]) (by simp [zel, hi])
    rw [add_plain, Nat.zero_add] at this
    exact this

/-- Two rows of the call's own, apart. -/
structure Two (w : World) (B : Nat) (v1 : Value) (ts : List ByteArray) (v2 : Value) (zs : List Int) : Prop where
  one : w.ownsRow B 9 1 v1 ts.length (txt ts)
  two : w.ownsRow B 3 1 v2 zs.length (zel zs)
  apart : ∀ b, v1.ownBlock = some b → v2.ownBlock ≠ some b
theorem Two.start (w : World) (B : Nat) : Two w B (.slice none 0 0) [] (.slice none 0 0) [] := ⟨⟨rfl, .inl ⟨rfl, rfl⟩⟩, ⟨rfl, .inl ⟨rfl, rfl⟩⟩, fun b h => by cases h⟩
theorem Two.below {w w' : World} {B : Nat} {v1 v2 : Value} {ts : List ByteArray} {zs : List Int} (h : Two w B v1 ts v2 zs) (hb : Below w.heap.size w w') : Two w' B v1 ts v2 zs := ⟨owns_below h.one hb, owns_below h.two hb, h.apart⟩

theorem one_new (w : World) (v : Value) (t : TypeId) : ∀ (j : Nat) (u : Value), [v][j]? = some u → (w.alloc (.cells #[v] t)).cell? ((⟨w.heap.size, 0, none⟩ : Addr).add j) = some u := by
  intro j u hj
  match j, hj with
  | 0, hj => simp at hj; subst hj; simp [Addr.add]
theorem lone (v : Value) (h : v.oneCell' = true) : ∀ u ∈ [v], u.oneCell' = true := by intro u hu; simp at hu; subst hu; exact h
theorem grown_alloc (w : World) (o : Obj) (row : Option Nat) : w.grownBy (w.alloc o) row := ⟨rfl, rfl, rfl, by simp, fun k hk _ => Below.heap_alloc _ _ _ hk⟩
theorem grown_trans {a b c : World} {row : Option Nat} (h : a.grownBy b row) (k : b.grownBy c row) : a.grownBy c row :=
  ⟨k.os.trans h.os, k.tape.trans h.tape, k.output.trans h.output, Nat.le_trans h.size k.size, fun i hi hn => (k.block i (Nat.lt_of_lt_of_le hi h.size) hn).trans (h.block i hi hn)⟩

/-- 'append(texts, t)', where the new row lies told. -/
theorem wpList_text_at {ops : Array Oper} {rest : List Oper} {o : Oper} {a : Act} {w1 : World} {Q : Exit → Act → World → Prop} (hgd : o.guard = none) (s x : Operand)
    (ho : o.op = .call { callee := .builtin .append, args := #[s, x], argTypes := #[33, 33] }) (w : World) (t : ByteArray) (base : Nat) (hbase : base ≤ w.heap.size) (v : Value) (ts : List ByteArray) (hs : a.eval s = v) (hown : w.ownsRow base 9 1 v ts.length (txt ts)) (hl : ts.length ≤ 1000000)
    (hx : a.eval x = .slice (some ⟨w.heap.size, 0, none⟩) 1 1) (h1 : w1 = w.alloc (.cells #[.string t] 9))
    (h : ∀ v' w', w'.ownsRow base 9 1 v' (ts ++ [t]).length (txt (ts ++ [t])) → w.grownBy w' v.ownBlock → (v'.ownBlock = v.ownBlock ∨ ∃ k, v'.ownBlock = some k ∧ w.heap.size ≤ k) → wpList Try.prog ops Q rest (a.put o.dst v') w') : wpList Try.prog ops Q (o :: rest) a w1 := by
  subst h1
  obtain ⟨i, hi, hz, hs1, hb⟩ : ∃ i, Try.prog.info? 9 = some i ∧ i.zero = some (.string ByteArray.empty) ∧ i.size = 1 ∧ i.bytes = 16 := by
    have h := info9
    cases hq : Try.prog.info? 9 with
    | none => rw [hq] at h; cases h
    | some i => rw [hq] at h; simp at h; exact ⟨i, rfl, h.1, h.2.1, h.2.2⟩
  have hown1 := hown.alloc (.cells #[.string t] 9)
  refine wpList_append_own_at _ hgd s x 33 ho base 9 i (.string ByteArray.empty) 1 16 Try.underlying33 hi hz hs1 hb rfl (by decide) v ts.length (txt ts) hs hown1 ⟨w.heap.size, 0, none⟩ 1 1 [.string t] hx (by simp) (one_new w _ _) (lone _ rfl) (by unfold maxLen; omega) (by omega) (by simp; omega) ?_
  intro v' w' hown' hg _ hloc
  refine h v' w' ?_ (grown_trans (grown_alloc w _ _) hg) (hloc.imp id (fun e => ⟨_, e, by simp⟩))
  rw [txt_snoc] at hown'
  simpa using hown'
/-- 'append(numbers, z)', likewise. -/
theorem wpList_int_at {ops : Array Oper} {rest : List Oper} {o : Oper} {a : Act} {w1 : World} {Q : Exit → Act → World → Prop} (hgd : o.guard = none) (s x : Operand)
    (ho : o.op = .call { callee := .builtin .append, args := #[s, x], argTypes := #[23, 23] }) (w : World) (z : Int) (base : Nat) (hbase : base ≤ w.heap.size) (v : Value) (zs : List Int) (hs : a.eval s = v) (hown : w.ownsRow base 3 1 v zs.length (zel zs)) (hl : zs.length ≤ 1000000)
    (hx : a.eval x = .slice (some ⟨w.heap.size, 0, none⟩) 1 1) (h1 : w1 = w.alloc (.cells #[.int .i64 z] 3))
    (h : ∀ v' w', w'.ownsRow base 3 1 v' (zs ++ [z]).length (zel (zs ++ [z])) → w.grownBy w' v.ownBlock → (v'.ownBlock = v.ownBlock ∨ ∃ k, v'.ownBlock = some k ∧ w.heap.size ≤ k) → wpList Try.prog ops Q rest (a.put o.dst v') w') : wpList Try.prog ops Q (o :: rest) a w1 := by
  subst h1
  obtain ⟨i, hi, hz, hs1, hb⟩ : ∃ i, Try.prog.info? 3 = some i ∧ i.zero = some (.int .i64 0) ∧ i.size = 1 ∧ i.bytes = 8 := by
    have h := info3
    cases hq : Try.prog.info? 3 with
    | none => rw [hq] at h; cases h
    | some i => rw [hq] at h; simp at h; exact ⟨i, rfl, h.1, h.2.1, h.2.2⟩
  have hown1 := hown.alloc (.cells #[.int .i64 z] 3)
  refine wpList_append_own_at _ hgd s x 23 ho base 3 i (.int .i64 0) 1 8 Try.underlying23 hi hz hs1 hb rfl (by decide) v zs.length (zel zs) hs hown1 ⟨w.heap.size, 0, none⟩ 1 1 [.int .i64 z] hx (by simp) (one_new w _ _) (lone _ rfl) (by unfold maxLen; omega) (by omega) (by simp; omega) ?_
  intro v' w' hown' hg _ hloc
  refine h v' w' ?_ (grown_trans (grown_alloc w _ _) hg) (hloc.imp id (fun e => ⟨_, e, by simp⟩))
  rw [zel_snoc] at hown'
  simpa using hown'

theorem Two.text {w w' : World} {B : Nat} {v1 v2 v' : Value} {ts ts' : List ByteArray} {zs : List Int} (h : Two w B v1 ts v2 zs) (h1 : w'.ownsRow B 9 1 v' ts'.length (txt ts')) (hg : w.grownBy w' v1.ownBlock)
    (hloc : v'.ownBlock = v1.ownBlock ∨ ∃ k, v'.ownBlock = some k ∧ w.heap.size ≤ k) : Two w' B v' ts' v2 zs := by
  refine ⟨h1, owns_kept h.two (fun k hk => hg.block k (h.two.lt k hk).2 (fun e => h.apart k e.symm hk)), fun b hb hk => ?_⟩
  rcases hloc with e | ⟨k, e, hle⟩
  · exact h.apart b (e ▸ hb) hk
  · rw [e] at hb
    cases hb
    have := (h.two.lt _ hk).2
    omega
theorem Two.int {w w' : World} {B : Nat} {v1 v2 v' : Value} {ts : List ByteArray} {zs zs' : List Int} (h : Two w B v1 ts v2 zs) (h1 : w'.ownsRow B 3 1 v' zs'.length (zel zs')) (hg : w.grownBy w' v2.ownBlock)
    (hloc : v'.ownBlock = v2.ownBlock ∨ ∃ k, v'.ownBlock = some k ∧ w.heap.size ≤ k) : Two w' B v1 ts v' zs' := by
  refine ⟨owns_kept h.one (fun k hk => hg.block k (h.one.lt k hk).2 (fun e => h.apart k hk e.symm)), h1, fun b hb hk => ?_⟩
  rcases hloc with e | ⟨k, e, hle⟩
  · exact h.apart b hb (e ▸ hk)
  · rw [e] at hk
    cases hk
    have := (h.one.lt _ hb).2
    omega
theorem grown_below {a w w' : World} {B : Nat} {e : TypeId} {v : Value} {n : Nat} {xs : List Value} (hb : Below B a w) (ho : w.ownsRow B e 1 v n xs) (hB : B ≤ w.heap.size) (hg : w.grownBy w' v.ownBlock) : Below B a w' :=
  hb.grown hg hB (fun k hk => (ho.lt k hk).1)

end Go.Proofs.Ytaiifelkbajaoaa
