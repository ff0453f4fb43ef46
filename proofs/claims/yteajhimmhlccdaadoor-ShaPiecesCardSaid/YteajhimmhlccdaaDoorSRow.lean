/-
  Layer 4: rows of words and bytes in memory.
-/
import Derived.Test.YteajhimmhlccdaaDoorSWalkA
import Derived.OwnWalk
import Derived.Deep.MidRow
import Derived.Deep.WholeRow
import Derived.Maps.AppendAt
import Derived.Deep.AppendLies
import Derived.Deep.Draws
namespace Go.Proofs.YteajhimmhlccdaaDoor
open Go.RowKit

def cel8 (l : List UInt8) : List Value := l.map (fun b => Value.int .u8 (b.toNat : Int))
def celk (k : IntKind) (l : List Nat) : List Value := l.map (fun n : Nat => Value.int k (n : Int))
abbrev cel32 (l : List Nat) : List Value := celk .u32 l
theorem celk_snoc (k : IntKind) (l : List Nat) (x : Nat) : celk k (l ++ [x]) = celk k l ++ [.int k (x : Int)] := by simp [celk]
theorem celk_len (k : IntKind) (l : List Nat) : (celk k l).length = l.length := by simp [celk]
theorem celk_at (k : IntKind) (l : List Nat) (i : Nat) (h : i < l.length) : (celk k l)[i]? = some (.int k (l[i] : Nat)) := by simp [celk, h]
theorem one_cell (w : World) (v : Value) (t : TypeId) : ∀ (j : Nat) (u : Value), [v][j]? = some u → (w.alloc (.cells #[v] t)).cell? ((⟨w.heap.size, 0, none⟩ : Addr).add j) = some u := by
  intro j u hj
  match j, hj with
  | 0, hj => simp at hj; subst hj; simp [Addr.add]
theorem one_one (k : IntKind) (n : Int) : ∀ u ∈ [Value.int k n], u.oneCell' = true := by intro u hu; simp at hu; subst hu; rfl
theorem cel8_len (l : List UInt8) : (cel8 l).length = l.length := by simp [cel8]
theorem cel32_len (l : List Nat) : (cel32 l).length = l.length := by simp [cel32, celk]
theorem cel8_one (l : List UInt8) : ∀ v ∈ cel8 l, v.oneCell' = true := by
  intro v hv
  simp only [cel8, List.mem_map] at hv
  obtain ⟨x, _, rfl⟩ := hv
  rfl
theorem cel32_one (l : List Nat) : ∀ v ∈ cel32 l, v.oneCell' = true := by
  intro v hv
  simp only [cel32, celk, List.mem_map] at hv
  obtain ⟨x, _, rfl⟩ := hv
  rfl

theorem owns_slice {w : World} {base n : Nat} {e : TypeId} {v : Value} {xs : List Value} (h : w.ownsRow base e 1 v n xs) :
    ∃ A cap, v = .slice A n cap ∧ (0 < n → ∃ g, A = some ⟨g, 0, none⟩ ∧ base ≤ g ∧ g < w.heap.size ∧ n ≤ cap ∧ cap ≤ maxLen ∧ ∀ j, j < n → w.cell? ⟨g, j, none⟩ = xs[j]? ∧ w.frozen? ⟨g, j, none⟩ = false) := by
  rcases h.2 with ⟨rfl, rfl⟩ | ⟨g, cap, cur, rfl, hb, hg, hc, hm, _⟩
  · exact ⟨none, 0, rfl, fun h => by omega⟩
  · exact ⟨_, cap, rfl, fun _ => ⟨g, rfl, hb, (Array.getElem?_eq_some_iff.1 hg).1, hc, hm, fun j hj => ⟨h.cellAt j (by omega), h.frozenAt j⟩⟩⟩

/-- 'a[i]' of an array by value. -/
theorem run_index_arr {P : Program} (w : World) (t e : TypeId) (n : Nat) (cs : List Value) (k : Nat) (v : Value) (h : P.underlying t = some (.array n e)) (d : TypeDesc) (he : P.underlying e = some d) (hd : d.isRow = false)
    (hs : (P.info? e).map (·.size) = some 1) (hk : k < n) (hv : cs[k]? = some v) : (Instr.index t (.agg cs.toArray) (.int .i64 (k : Int))).run P w = .ok v w := by
  have hagg : (isAgg e).run P w = .ok false w := by
    unfold isAgg
    rw [Sem.run_bind, run_underlying he w]
    cases d <;> simp_all
  cases hq : P.info? e with
  | none => simp [hq] at hs
  | some i =>
    have hs1 : i.size = 1 := by simpa [hq] using hs
    simp [Instr.index, run_underlying h, asIntOf, sizeOf, typeInfo, hq, hs1, part, hagg, hv]
    omega

/-- Words in a row. -/
def UR (w : World) (g n : Nat) (f : Nat → Nat) : Prop := ∀ j, j < n → w.cell? ⟨g, j, none⟩ = some (.int .u32 (f j : Nat)) ∧ w.frozen? ⟨g, j, none⟩ = false
theorem UR.store {w : World} {g n : Nat} {f f' : Nat → Nat} (h : UR w g n f) (i x : Nat) (hi : i < n) (h1 : f' i = x) (h2 : ∀ j, j ≠ i → f' j = f j) : UR (w.setCell ⟨g, i, none⟩ (.int .u32 (x : Nat))) g n f' := by
  intro j hj
  refine ⟨?_, by rw [World.frozen?_setCell]; exact (h j hj).2⟩
  by_cases e : i = j
  · subst e
    rw [World.cell?_setCell_same (h := (h i hi).1), h1]
  · rw [World.cell?_setCell_other (w := w) (v := _) (h := fun h => e (by injection h)), (h j hj).1, h2 j (fun h => e h.symm)]
theorem UR.other {w : World} {g n : Nat} {f : Nat → Nat} (h : UR w g n f) (a : Addr) (ha : g ≠ a.block) (v : Value) : UR (w.setCell a v) g n f := by
  intro j hj
  refine ⟨?_, by rw [World.frozen?_setCell]; exact (h j hj).2⟩
  rw [World.cell?_setCell_other (w := w) (v := _) (h := fun e => ha (by rw [e]))]; exact (h j hj).1
theorem UR.below {w w' : World} {g n B : Nat} {f : Nat → Nat} (h : UR w g n f) (hb : Below B w w') (hg : g < B) : UR w' g n f :=
  fun j hj => ⟨(hb.cell (p := ⟨g, j, none⟩) hg).trans (h j hj).1, (hb.frozen (p := ⟨g, j, none⟩) hg).trans (h j hj).2⟩
theorem UR.of_block {w : World} {g n : Nat} {f : Nat → Nat} {cs : Array Value} {t : TypeId} (hb : w.heap[g]? = some (.cells cs t (0, 0))) (h : ∀ j, j < n → cs[j]? = some (.int .u32 (f j : Nat))) : UR w g n f :=
  fun j hj => ⟨(cell_of_row w g j cs t (0, 0) hb).trans (h j hj), frozen_of_row w g j cs t hb⟩
theorem UR.same {w : World} {g n : Nat} {f f' : Nat → Nat} (h : UR w g n f) (e : ∀ j, j < n → f' j = f j) : UR w g n f' := fun j hj => ⟨by rw [e j hj]; exact (h j hj).1, (h j hj).2⟩
theorem UR.range {w : World} {g n : Nat} {f : Nat → Nat} (h : UR w g n f) : w.rangeAt g 0 ((List.range n).map fun j => Value.int .u32 (f j : Nat)) := by
  intro j v hv
  have hj : j < n := by have := (List.getElem?_eq_some_iff.1 hv).1; simpa using this
  rw [Nat.zero_add, (h j hj).1, ← hv]
  simp [hj]
theorem UR.drewN {w : World} {g n : Nat} {f : Nat → Nat} (h : UR w g n f) (m : Nat) : UR (w.drewN m) g n f := fun j hj => ⟨by simpa using (h j hj).1, by simpa using (h j hj).2⟩
theorem there_drewN {w : World} {b o n : Nat} (h : w.there b o n) (m : Nat) : (w.drewN m).there b o n := fun j hj => ⟨by simpa using (h j hj).1, by simpa using (h j hj).2⟩
theorem _root_.Go.RowKit.Below.drewN {B : Nat} {w w' : World} (h : Below B w w') (m : Nat) : Below B w (w'.drewN m) := ⟨h.os, h.tape, h.output, h.size, h.block⟩
theorem range_celk (k : IntKind) (L : List Nat) (n : Nat) (h : L.length = n) : ((List.range n).map fun j => Value.int k (L.getD j 0 : Nat)) = celk k L := by
  apply List.ext_getElem?
  intro i
  simp only [celk, List.getElem?_map]
  by_cases hi : i < n
  · rw [List.getElem?_range hi, List.getElem?_eq_getElem (by omega)]
    simp [List.getD_eq_getElem?_getD, List.getElem?_eq_getElem (show i < L.length by omega)]
  · rw [List.getElem?_eq_none (by simp; omega), List.getElem?_eq_none (by omega)]; rfl
theorem range_cel32 (L : List Nat) (n : Nat) (h : L.length = n) : ((List.range n).map fun j => Value.int .u32 (L.getD j 0 : Nat)) = cel32 L := range_celk .u32 L n h
theorem there_other {w : World} {b o n : Nat} (h : w.there b o n) (a : Addr) (ha : b ≠ a.block) (v : Value) : (w.setCell a v).there b o n := by
  intro j hj
  refine ⟨?_, by rw [World.frozen?_setCell]; exact (h j hj).2⟩
  rw [World.cell?_setCell_other (w := w) (v := _) (h := fun e => ha (by rw [e]))]; exact (h j hj).1
theorem there_of_block {w : World} {g n : Nat} {cs : Array Value} {t : TypeId} (hb : w.heap[g]? = some (.cells cs t (0, 0))) (h : n = cs.size) : w.there g 0 n := by
  intro j hj
  refine ⟨?_, frozen_of_row w g _ cs t hb⟩
  rw [cell_of_row w g _ cs t (0, 0) hb]
  simp only [Nat.zero_add]
  rw [Array.getElem?_eq_getElem (by omega)]; rfl

theorem heap3 (w : World) (A B C : Obj) : (((w.alloc A).alloc B).alloc C).heap[w.heap.size]? = some A ∧ (((w.alloc A).alloc B).alloc C).heap[w.heap.size + 1]? = some B ∧ (((w.alloc A).alloc B).alloc C).heap[w.heap.size + 2]? = some C := by
  have s1 : (w.alloc A).heap.size = w.heap.size + 1 := by simp
  have s2 : ((w.alloc A).alloc B).heap.size = w.heap.size + 2 := by simp
  refine ⟨?_, ?_, ?_⟩
  · rw [heap_alloc_old _ _ (by omega), heap_alloc_old _ _ (by omega), heap_alloc_new]
  · rw [heap_alloc_old _ _ (by omega), ← s1, heap_alloc_new]
  · rw [← s2, heap_alloc_new]

theorem boxes3 (w : World) (A B C : Obj) : ∃ w0, w0 = ((w.alloc A).alloc B).alloc C ∧ w0.heap.size = w.heap.size + 1 + 1 + 1 ∧ w0.heap[w.heap.size]? = some A ∧ w0.heap[w.heap.size + 1]? = some B ∧ w0.heap[w.heap.size + 1 + 1]? = some C ∧ Below w.heap.size w w0 :=
  ⟨_, rfl, by simp, (heap3 w A B C).1, (heap3 w A B C).2.1, (heap3 w A B C).2.2, (((Below.refl _ w).alloc (by simp) _).alloc (by simp) _).alloc (by simp; omega) _⟩
theorem range_of_block {w : World} {g : Nat} {cs : List Value} {t : TypeId} {fr : Nat × Nat} (hb : w.heap[g]? = some (.cells cs.toArray t fr)) : w.rangeAt g 0 cs := by
  intro j v hv
  rw [Nat.zero_add, cell_of_row w g j _ t fr hb]
  simpa using hv
theorem st_cells {w : World} {g : Nat} {x0 x1 x2 x3 x4 x5 x6 x7 : Value} {t : TypeId} {fr : Nat × Nat} (hb : w.heap[g]? = some (.cells #[x0, x1, x2, x3, x4, x5, x6, x7] t fr)) :
    w.cell? ⟨g, 0, none⟩ = some x0 ∧ w.cell? ⟨g, 1, none⟩ = some x1 ∧ w.cell? ⟨g, 2, none⟩ = some x2 ∧ w.cell? ⟨g, 3, none⟩ = some x3 ∧ w.cell? ⟨g, 4, none⟩ = some x4 ∧ w.cell? ⟨g, 5, none⟩ = some x5 ∧ w.cell? ⟨g, 6, none⟩ = some x6 ∧ w.cell? ⟨g, 7, none⟩ = some x7 := by
  refine ⟨?_, ?_, ?_, ?_, ?_, ?_, ?_, ?_⟩ <;> rw [cell_of_row w g _ _ t fr hb] <;> rfl
theorem grownBy_setCells (b : Nat) : ∀ (vs : List Value) (o : Nat) (w : World), w.grownBy (w.setCells b o vs) (some b)
  | [], _, w => World.grownBy.refl w _
  | v :: r, o, w => by
    have h1 : w.grownBy (w.setCell ⟨b, o, none⟩ v) (some b) := ⟨rfl, rfl, rfl, by simp [World.setCell], fun k _ hk => Below.heap_setCell _ _ _ _ (fun e => hk (by simp [e]))⟩
    exact h1.trans (grownBy_setCells b r (o + 1) _)
/-- A whole array goes into the cells of its variable; the world behind it is a letter. -/
theorem wpList_store_row {P : Program} {ops : Array Oper} {rest : List Oper} {op : Oper} {a : Act} {w : World} {Q : Exit → Act → World → Prop} (hgd : op.guard = none) (ty : TypeId) (x y : Operand) (ho : op.op = .store ty x y)
    (b o : Nat) (cs : List Value) (hx : a.eval x = .pointer (some ⟨b, o, none⟩)) (hy : a.eval y = .agg cs.toArray)
    (ht : w.there b o cs.length) (hi : (P.info? ty).map (·.size) = some cs.length) (h1 : ∀ v ∈ cs, v.oneCell' = true)
    (h : ∀ w', w'.rangeAt b o cs → w.grownBy w' (some b) → wpList P ops Q rest (a.put op.dst undef) w') : wpList P ops Q (op :: rest) a w :=
  wpList_store_mid hgd ty x y ho b o cs.toArray hx hy (by simpa using ht) (by simpa using hi) (all_oneCell_toArray h1)
    (by simpa using h _ (World.rangeAt_setCells_same w b o cs ht) (grownBy_setCells b cs o w))
/-- The same into a block that holds just that variable. -/
theorem wpList_store_blk {P : Program} {ops : Array Oper} {rest : List Oper} {op : Oper} {a : Act} {w : World} {Q : Exit → Act → World → Prop} (hgd : op.guard = none) (ty : TypeId) (x y : Operand) (ho : op.op = .store ty x y)
    (b : Nat) (cs : List Value) (hx : a.eval x = .pointer (some ⟨b, 0, none⟩)) (hy : a.eval y = .agg cs.toArray)
    (old : Array Value) (t : TypeId) (hb : w.heap[b]? = some (.cells old t (0, 0))) (hs : old.size = cs.length) (hi : (P.info? ty).map (·.size) = some cs.length) (h1 : ∀ v ∈ cs, v.oneCell' = true)
    (h : ∀ w', w'.rangeAt b 0 cs → w.grownBy w' (some b) → wpList P ops Q rest (a.put op.dst undef) w') : wpList P ops Q (op :: rest) a w :=
  wpList_store_row hgd ty x y ho b 0 cs hx hy (there_of_block hb hs.symm) hi h1 h
theorem UR.of_range {w : World} {g : Nat} {L : List Nat} (hr : w.rangeAt g 0 (cel32 L)) (hf : ∀ j, w.frozen? ⟨g, j, none⟩ = false) : UR w g L.length (fun j => L.getD j 0) := by
  intro j hj
  have := hr j _ (celk_at .u32 L j hj)
  rw [Nat.zero_add] at this
  refine ⟨?_, hf j⟩
  rw [this]
  simp [List.getD_eq_getElem?_getD, List.getElem?_eq_getElem hj]
/-- Words to read. -/
def RW (w : World) (g n : Nat) (f : Nat → Nat) : Prop := ∀ j, j < n → w.cell? ⟨g, j, none⟩ = some (.int .u32 (f j : Nat))
theorem RW.of_range {w : World} {g : Nat} {L : List Nat} (hr : w.rangeAt g 0 (cel32 L)) : RW w g L.length (fun j => L.getD j 0) := by
  intro j hj
  have := hr j _ (celk_at .u32 L j hj)
  rw [Nat.zero_add] at this
  rw [this]
  simp [List.getD_eq_getElem?_getD, List.getElem?_eq_getElem hj]
theorem RW.drewN {w : World} {g n : Nat} {f : Nat → Nat} (h : RW w g n f) (m : Nat) : RW (w.drewN m) g n f := fun j hj => by simpa using h j hj
theorem RW.below {w w' : World} {g n B : Nat} {f : Nat → Nat} (h : RW w g n f) (hb : Below B w w') (hg : g < B) : RW w' g n f := fun j hj => (hb.cell (p := ⟨g, j, none⟩) hg).trans (h j hj)

/-- A state's eight words, as a value. -/
def stL (s : St) : List Value := [.int .u32 (s.a : Nat), .int .u32 (s.b : Nat), .int .u32 (s.c : Nat), .int .u32 (s.d : Nat), .int .u32 (s.e : Nat), .int .u32 (s.f : Nat), .int .u32 (s.g : Nat), .int .u32 (s.h : Nat)]
theorem stL_eq (s : St) : stL s = cel32 s.l := rfl

theorem results_cell_mid {P : Program} {fn : Func} {p : Tmp} {ty : TypeId} (h : fn.results = #[.cell p ty]) (tmps : Array Value) (w : World) (b o : Nat) (cs : List Value) (d : TypeDesc)
    (hp : tmps.getD p undef = .pointer (some ⟨b, o, none⟩)) (hc : w.rangeAt b o cs) (hu : P.underlying ty = some d) (hd : d.isRow = true) (hi : (P.info? ty).map (·.size) = some cs.length) :
    (results fn tmps).run P w = .ok (.agg cs.toArray) w := by
  have hp' : tmps[p]?.getD undef = .pointer (some ⟨b, o, none⟩) := by simpa using hp
  simp [results, h, hp', asAddr, run_loadVar_mid w b o ty cs d hc hu hd hi]

theorem next_world {w w0 w1 w2 : World} {A C Z : Obj} {L : List Nat} (z0 : w0.heap.size = w.heap.size + 1 + 1 + 1) (h00 : w0.heap[w.heap.size]? = some A) (h02 : w0.heap[w.heap.size + 1 + 1]? = some C) (hb0 : Below w.heap.size w w0)
    (hb1 : Below w0.heap.size w0 w1) (hr2 : w2.rangeAt w1.heap.size 0 (cel32 L)) (hg2 : (w1.alloc Z).grownBy w2 (some w1.heap.size)) :
    w2.heap[w.heap.size]? = some A ∧ w2.heap[w.heap.size + 1 + 1]? = some C ∧ Below w.heap.size w w2 ∧ RW w2 w1.heap.size L.length (fun j => L.getD j 0) := by
  have z1 := hb1.size
  have old : ∀ k, k < w0.heap.size → w2.heap[k]? = w0.heap[k]? := fun k hk => by
    rw [hg2.block k (by simp; omega) (fun e => by injection e with e; omega), heap_alloc_old _ _ (by omega), hb1.block k hk]
  refine ⟨(old _ (by omega)).trans h00, (old _ (by omega)).trans h02, ?_, RW.of_range hr2⟩
  exact ((hb0.trans (hb1.mono (by omega))).alloc (by omega) Z).grown hg2 (by simp; omega) (fun k hk => by injection hk with hk; omega)

/-- 'make([]T, n, m)'. -/
theorem wpList_make_len {P : Program} (w : World) {ops : Array Oper} {rest : List Oper} {o : Oper} {a : Act} {Q : Exit → Act → World → Prop}
    (hg : o.guard = none) (l c : Operand) (t : TypeId) (hop : o.op = Op.makeSlice t l c)
    (base : Nat) (e : TypeId) (i : TypeInfo) (z : Value) (h1 : P.underlying t = some (.slice e)) (h2 : P.info? e = some i) (h3 : i.zero = some z) (h4 : i.size = 1) (hz : z.cells = #[z])
    (kl kc : IntKind) (L C : Int) (n m : Nat) (hl : a.eval l = .int kl L) (hc : a.eval c = .int kc C) (hL : L = (n : Int)) (hC : C = (m : Int)) (hnm : n ≤ m) (b2 : i.bytes * m ≤ 281474976710656) (b3 : m ≤ maxLen) (b4 : base ≤ w.heap.size)
    (hK : ∀ w', w'.ownsRow base e 1 (.slice (some ⟨w.heap.size, 0, none⟩) n m) n (List.replicate n z) → w.grownBy w' none → wpList P ops Q rest (a.put o.dst (.slice (some ⟨w.heap.size, 0, none⟩) n m)) w') :
    wpList P ops Q (o :: rest) a w := by
  refine wpList_plain hg fun K hK' => ?_
  have h63' : (m : Int) ≤ 9223372036854775807 := by
    have h := b3
    simp [maxLen] at h
    omega
  have hb' : (i.bytes : Int) * (m : Int) ≤ 281474976710656 := by
    have h : ((i.bytes * m : Nat) : Int) ≤ 281474976710656 := by omega
    rwa [Int.natCast_mul] at h
  have hrun := run_make (P := P) w t e i z h1 h2 h3 kl kc n m (by omega) (by omega) hb' h63'
  simp only [Int.toNat_natCast, h4, Nat.mul_one, hz] at hrun
  subst hL
  subst hC
  unfold Oper.wp
  simp [execOp, hop, hl, hc, hrun, Result.andThen]
  refine hK' _ _ (hK _ ⟨by simp, .inr ⟨w.heap.size, m, _, rfl, b4, heap_alloc_new w _, hnm, b3, by rw [size_madeCells, Nat.mul_one], ?_⟩⟩ (World.grownBy_alloc w _ none))
  rw [toList_madeCells_one, Nat.mul_one, List.take_replicate, Nat.min_eq_left hnm]

end Go.Proofs.YteajhimmhlccdaaDoor
