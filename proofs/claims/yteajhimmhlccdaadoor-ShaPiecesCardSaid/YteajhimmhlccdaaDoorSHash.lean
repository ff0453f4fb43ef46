/-
  Layer 4: a hash in memory: its 74 cells; what a copy, a store make of it. Laws for whole arrays, for a copy out of a string.
-/
import Derived.Test.YteajhimmhlccdaaDoorSWalkD
import Derived.Test.YteajhimmhlccdaaDoorSWalkE
import Derived.Lib.LazyBuf
namespace Go.Proofs.YteajhimmhlccdaaDoor
open Go.RowKit

theorem celk_getD' (k : IntKind) (L : List Nat) (j : Nat) (h : j < L.length) : (celk k L)[j]? = some (.int k (L.getD j 0 : Nat)) := by
  rw [celk_at k L j h, List.getD_eq_getElem?_getD, List.getElem?_eq_getElem h]; rfl

structure HashAt (w : World) (g : Nat) (st : St) (R : List UInt8) (n : Nat) : Prop where
  len : R.length = 64
  made : w.cell? ⟨g, 0, none⟩ = some (.bool true)
  state : ∀ j, j < 8 → w.cell? ⟨g, 1 + j, none⟩ = some (.int .u32 (st.l.getD j 0 : Nat))
  rest : ∀ j, j < 64 → w.cell? ⟨g, 9 + j, none⟩ = some (.int .u8 ((R.getD j 0).toNat : Int))
  count : w.cell? ⟨g, 73, none⟩ = some (.int .u64 (n : Nat))
  free : ∀ j, j < 74 → w.frozen? ⟨g, j, none⟩ = false

theorem HashAt.grown {w w' : World} {g : Nat} {st : St} {R : List UInt8} {n : Nat} {row : Option Nat} (h : HashAt w g st R n) (hg : w.grownBy w' row) (hne : some g ≠ row) : HashAt w' g st R n := by
  have hl : g < w.heap.size := World.block_lt_of_cell? w _ h.made
  refine ⟨h.len, ?_, fun j hj => ?_, fun j hj => ?_, ?_, fun j hj => ?_⟩
  · rw [hg.cell_far _ hl hne]; exact h.made
  · rw [hg.cell_far _ hl hne]; exact h.state j hj
  · rw [hg.cell_far _ hl hne]; exact h.rest j hj
  · rw [hg.cell_far _ hl hne]; exact h.count
  · rw [hg.frozen_far _ hl hne]; exact h.free j hj
theorem HashAt.below {w w' : World} {g B : Nat} {st : St} {R : List UInt8} {n : Nat} (h : HashAt w g st R n) (hb : Below B w w') (hg : g < B) : HashAt w' g st R n :=
  ⟨h.len, (hb.cell (p := ⟨g, 0, none⟩) hg).trans h.made, fun j hj => (hb.cell (p := ⟨g, 1 + j, none⟩) hg).trans (h.state j hj), fun j hj => (hb.cell (p := ⟨g, 9 + j, none⟩) hg).trans (h.rest j hj),
    (hb.cell (p := ⟨g, 73, none⟩) hg).trans h.count, fun j hj => (hb.frozen (p := ⟨g, j, none⟩) hg).trans (h.free j hj)⟩
theorem HashAt.setCount {w : World} {g : Nat} {st : St} {R : List UInt8} {n : Nat} (h : HashAt w g st R n) (m : Nat) : HashAt (w.setCell ⟨g, 73, none⟩ (.int .u64 (m : Nat))) g st R m := by
  have o : ∀ i, i ≠ 73 → (w.setCell ⟨g, 73, none⟩ (.int .u64 (m : Nat))).cell? ⟨g, i, none⟩ = w.cell? ⟨g, i, none⟩ := fun i hi => World.cell?_setCell_other (w := w) (v := _) (h := fun e => hi (by injection e with _ e _; exact e.symm))
  refine ⟨h.len, by rw [o 0 (by decide)]; exact h.made, fun j hj => by rw [o _ (by omega)]; exact h.state j hj, fun j hj => by rw [o _ (by omega)]; exact h.rest j hj, World.cell?_setCell_same _ _ _ h.count, fun j hj => by rw [World.frozen?_setCell]; exact h.free j hj⟩
/-- Some bytes go into the rest. -/
theorem HashAt.put {w : World} {g : Nat} {st : St} {R : List UInt8} {n : Nat} (h : HashAt w g st R n) (r : Nat) (c : List UInt8) (hr : r + c.length ≤ 64) :
    HashAt (w.setCells g (9 + r) (cel8 c)) g st (R.take r ++ c ++ R.drop (r + c.length)) n := by
  have hl := h.len
  have hc : (cel8 c).length = c.length := cel8_len c
  have o : ∀ i, i < 9 + r ∨ 9 + r + c.length ≤ i → (w.setCells g (9 + r) (cel8 c)).cell? ⟨g, i, none⟩ = w.cell? ⟨g, i, none⟩ := fun i hi => World.cell?_setCells_out g (cel8 c) (9 + r) w ⟨g, i, none⟩ (fun _ _ => by rw [hc]; exact hi)
  have hin : ∀ j (hj : j < c.length), (w.setCells g (9 + r) (cel8 c)).cell? ⟨g, 9 + r + j, none⟩ = some (.int .u8 (c[j].toNat : Int)) := fun j hj => by
    rw [World.cell?_setCells_in g (cel8 c) (9 + r) w (fun i hi => by rw [hc] at hi; have := h.rest (r + i) (by omega); rw [show 9 + (r + i) = 9 + r + i by omega] at this; rw [this]; rfl) j (by rw [hc]; exact hj)]
    simp [cel8]
  refine ⟨by simp; omega, by rw [o 0 (by omega)]; exact h.made, fun j hj => by rw [o _ (by omega)]; exact h.state j hj, fun j hj => ?_, by rw [o _ (by omega)]; exact h.count, fun j hj => by rw [World.frozen?_setCells]; exact h.free j hj⟩
  by_cases h1 : j < r
  · rw [o _ (by omega), h.rest j hj]
    congr 4
    simp only [List.getD_eq_getElem?_getD]
    rw [List.append_assoc, List.getElem?_append_left (by simp; omega), List.getElem?_take_of_lt h1]
  · by_cases h2 : j < r + c.length
    · have := hin (j - r) (by omega)
      rw [show 9 + r + (j - r) = 9 + j by omega] at this
      rw [this]
      congr 4
      simp only [List.getD_eq_getElem?_getD]
      rw [List.append_assoc, List.getElem?_append_right (by simp; omega), List.getElem?_append_left (by simp; omega)]
      simp [hl, show min r 64 = r by omega, List.getElem?_eq_getElem (show j - r < c.length by omega)]
    · rw [o _ (by omega), h.rest j hj]
      congr 4
      simp only [List.getD_eq_getElem?_getD]
      rw [List.getElem?_append_right (by simp; omega), List.getElem?_drop]
      congr 2
      simp; omega
/-- A new state. -/
theorem HashAt.setState {w w' : World} {g : Nat} {st : St} {R : List UInt8} {n : Nat} (h : HashAt w g st R n) (st' : St) (e : w' = w.setCells g 1 (stL st')) : HashAt w' g st' R n := by
  subst e
  have hl := h.len
  have o : ∀ i, i < 1 ∨ 9 ≤ i → (w.setCells g 1 (stL st')).cell? ⟨g, i, none⟩ = w.cell? ⟨g, i, none⟩ := fun i hi => World.cell?_setCells_out g (stL st') 1 w ⟨g, i, none⟩ (fun _ _ => hi)
  have hin : ∀ j (hj : j < 8), (w.setCells g 1 (stL st')).cell? ⟨g, 1 + j, none⟩ = some (.int .u32 (st'.l.getD j 0 : Nat)) := fun j hj => by
    rw [World.cell?_setCells_in g (stL st') 1 w (fun i hi => by rw [h.state i hi]; rfl) j hj]
    have := celk_getD' .u32 st'.l j hj
    rw [← this, List.getElem?_eq_getElem (by exact hj)]
    rfl
  exact ⟨hl, by rw [o 0 (by omega)]; exact h.made, hin, fun j hj => by rw [o _ (by omega)]; exact h.rest j hj, by rw [o _ (by omega)]; exact h.count, fun j hj => by rw [World.frozen?_setCells]; exact h.free j hj⟩

/-- A hash that has the bytes l. -/
def Hash (w : World) (g : Nat) (l : List UInt8) : Prop := ∃ R, HashAt w g (blks l (l.length / 64)) R l.length ∧ R.take (l.length % 64) = l.drop (64 * (l.length / 64))
theorem Hash.grown {w w' : World} {g : Nat} {l : List UInt8} {row : Option Nat} (h : Hash w g l) (hg : w.grownBy w' row) (hne : some g ≠ row) : Hash w' g l := by
  obtain ⟨R, h1, h2⟩ := h
  exact ⟨R, h1.grown hg hne, h2⟩
theorem Hash.below {w w' : World} {g B : Nat} {l : List UInt8} (h : Hash w g l) (hb : Below B w w') (hg : g < B) : Hash w' g l := by
  obtain ⟨R, h1, h2⟩ := h
  exact ⟨R, h1.below hb hg, h2⟩
theorem Hash.lt {w : World} {g : Nat} {l : List UInt8} (h : Hash w g l) : g < w.heap.size := by
  obtain ⟨R, h1, _⟩ := h
  exact World.block_lt_of_cell? w _ h1.made
/-- All of its cells. -/
def hashL (st : St) (R : List UInt8) (n : Nat) : List Value := .bool true :: (stL st ++ (cel8 R ++ [.int .u64 (n : Nat)]))
theorem hashL_len (st : St) (R : List UInt8) (n : Nat) (h : R.length = 64) : (hashL st R n).length = 74 := by
  simp [hashL, stL, cel8_len, h]
theorem hashL_one (st : St) (R : List UInt8) (n : Nat) : ∀ v ∈ hashL st R n, v.oneCell' = true := by
  intro v hv
  simp only [hashL, List.mem_cons, List.mem_append, List.not_mem_nil, or_false] at hv
  rcases hv with rfl | hv | hv | rfl
  · rfl
  · exact cel32_one st.l v hv
  · exact cel8_one R v hv
  · rfl
theorem hashL_0 (st : St) (R : List UInt8) (n : Nat) : (hashL st R n)[0]? = some (.bool true) := rfl
theorem hashL_st (st : St) (R : List UInt8) (n j : Nat) (h : j < 8) : (hashL st R n)[1 + j]? = some (.int .u32 (st.l.getD j 0 : Nat)) := by
  rw [hashL, Nat.add_comm 1 j, List.getElem?_cons_succ, List.getElem?_append_left (by exact h)]
  exact celk_getD' .u32 st.l j h
theorem hashL_rest (st : St) (R : List UInt8) (n j : Nat) (hR : R.length = 64) (h : j < 64) : (hashL st R n)[9 + j]? = some (.int .u8 ((R.getD j 0).toNat : Int)) := by
  have e : (stL st).length = 8 := rfl
  rw [hashL, show 9 + j = (8 + j) + 1 by omega, List.getElem?_cons_succ, List.getElem?_append_right (by omega), e, show 8 + j - 8 = j by omega, List.getElem?_append_left (by rw [cel8_len]; omega), cel8_at R j (by omega)]
  simp [List.getD_eq_getElem?_getD, List.getElem?_eq_getElem (show j < R.length by omega)]
theorem hashL_count (st : St) (R : List UInt8) (n : Nat) (hR : R.length = 64) : (hashL st R n)[73]? = some (.int .u64 (n : Nat)) := by
  have e : (stL st).length = 8 := rfl
  rw [hashL, show 73 = 72 + 1 by omega, List.getElem?_cons_succ, List.getElem?_append_right (by omega), e, List.getElem?_append_right (by rw [cel8_len]; omega), cel8_len, hR]
  rfl
theorem HashAt.all {w : World} {g : Nat} {st : St} {R : List UInt8} {n : Nat} (h : HashAt w g st R n) : w.rangeAt g 0 (hashL st R n) := by
  intro j v hv
  have hj : j < 74 := by have := (List.getElem?_eq_some_iff.1 hv).1; rwa [hashL_len st R n h.len] at this
  rw [Nat.zero_add, ← hv]
  by_cases h0 : j = 0
  · rw [h0, hashL_0]; exact h.made
  · by_cases h1 : j < 9
    · obtain ⟨i, rfl⟩ : ∃ i, j = 1 + i := ⟨j - 1, by omega⟩
      rw [hashL_st st R n i (by omega)]; exact h.state i (by omega)
    · by_cases h2 : j < 73
      · obtain ⟨i, rfl⟩ : ∃ i, j = 9 + i := ⟨j - 9, by omega⟩
        rw [hashL_rest st R n i h.len (by omega)]; exact h.rest i (by omega)
      · obtain rfl : j = 73 := by omega
        rw [hashL_count st R n h.len]; exact h.count
theorem HashAt.of_all {w : World} {g : Nat} {st : St} {R : List UInt8} {n : Nat} (hR : R.length = 64) (h : w.rangeAt g 0 (hashL st R n)) (hf : ∀ j, j < 74 → w.frozen? ⟨g, j, none⟩ = false) : HashAt w g st R n := by
  refine ⟨hR, ?_, fun j hj => ?_, fun j hj => ?_, ?_, hf⟩
  · have := h 0 _ (hashL_0 st R n); simpa using this
  · have := h (1 + j) _ (hashL_st st R n j hj); rwa [Nat.zero_add] at this
  · have := h (9 + j) _ (hashL_rest st R n j hR hj); rwa [Nat.zero_add] at this
  · have := h 73 _ (hashL_count st R n hR); rwa [Nat.zero_add] at this
theorem HashAt.range_st {w : World} {g : Nat} {st : St} {R : List UInt8} {n : Nat} (h : HashAt w g st R n) : w.rangeAt g 1 (stL st) := by
  intro j v hv
  have hj : j < 8 := (List.getElem?_eq_some_iff.1 hv).1
  rw [h.state j hj, ← hv]
  exact (celk_getD' .u32 st.l j hj).symm
theorem HashAt.range_rest {w : World} {g : Nat} {st : St} {R : List UInt8} {n : Nat} (h : HashAt w g st R n) : w.rangeAt g 9 (cel8 R) := by
  intro j v hv
  have hj : j < R.length := by have := (List.getElem?_eq_some_iff.1 hv).1; rwa [cel8_len] at this
  have hl := h.len
  rw [h.rest j (by omega), ← hv, cel8_at R j hj]
  simp [List.getD_eq_getElem?_getD, List.getElem?_eq_getElem hj]

/-- A copy out of a string. -/
theorem run_copy_str {P : Program} (w : World) (dT sT ty elem : TypeId) (b o dLen dCap : Nat) (t : ByteArray) (m : Nat) (hm : Nat.min t.size dLen = m)
    (hu : P.underlying dT = some (.slice elem)) (hz : ∀ w, (Go.sizeOf elem).run P w = .ok 1 w) (hc : w.there b o m) :
    (Builtin.copy_ #[dT, sT] ty #[.slice (some ⟨b, o, none⟩) dLen dCap, .string t]).run P w = .ok (goInt m) (w.setCells b o (cel8 (t.data.toList.take m))) := by
  have hle : m ≤ t.size := by rw [← hm]; exact Nat.min_le_left _ _
  have hl : (cel8 (t.data.toList.take m)).length = m := by rw [cel8_len, List.length_take]; simp; omega
  have hst := run_storeCells_cells (P := P) b o (cel8 (t.data.toList.take m)) 0 w (by rw [hl]; simpa using fun j hj => (hc j hj).1) (by rw [hl]; simpa using fun j hj => (hc j hj).2) (cel8_one _)
  have e : ((t.data.toList.map fun x => Value.int .u8 (x.toNat : Int)).take m) = cel8 (t.data.toList.take m) := by simp [cel8]
  simp [Builtin.copy_, run_underlying hu, Builtin.lenOf, Builtin.firstCells, hz, hm]
  rw [e, hst]
  rfl
theorem wpList_copy_str {P : Program} {w : World} {ops : Array Oper} {rest : List Oper} {o : Oper} {a : Act} {Q : Exit → Act → World → Prop} (hgd : o.guard = none) (d x : Operand) (dT sT : TypeId)
    (ho : o.op = .call { callee := .builtin .copy, args := #[d, x], argTypes := #[dT, sT] }) (elem : TypeId) (hu : P.underlying dT = some (.slice elem)) (hz : ∀ w, (Go.sizeOf elem).run P w = .ok 1 w)
    (b off dLen dCap : Nat) (hd : a.eval d = .slice (some ⟨b, off, none⟩) dLen dCap) (t : ByteArray) (hx : a.eval x = .string t) (m : Nat) (hm : Nat.min t.size dLen = m) (hc : w.there b off m)
    (h : ∀ w', w' = w.setCells b off (cel8 (t.data.toList.take m)) → wpList P ops Q rest (a.put o.dst (.int .i64 (m : Nat))) w') : wpList P ops Q (o :: rest) a w := by
  refine wpList_plain hgd fun K hK => ?_
  have hrun := run_copy_str (P := P) w dT sT o.type elem b off dLen dCap t m hm hu hz hc
  unfold Oper.wp
  simp [execOp, ho, resolve, invoke, builtin, hd, hx, hrun, Result.andThen]
  exact hK _ _ (h _ rfl)
theorem wpQuiet_load_mid {P : Program} {ops : Array Oper} {C : World → Prop} {Q : Act → Prop} {a : Act} {op : Oper} {rest : List Oper} (hg : op.guard = none) (ty : TypeId) (x : Operand) (ho : op.op = .load ty x)
    (b o : Nat) (hx : a.eval x = .pointer (some ⟨b, o, none⟩)) (cs : List Value) (d : TypeDesc) (hc : ∀ w, C w → w.rangeAt b o cs) (hu : P.underlying ty = some d) (hd : d.isRow = true) (hi : (P.info? ty).map (·.size) = some cs.length)
    (h : wpQuiet P ops C Q rest (a.put op.dst (.agg cs.toArray))) : wpQuiet P ops C Q (op :: rest) a := by
  refine wpQuiet_step fun K hK => ?_
  have hw : Region.wanted op (yielded ops a.tmps) = true := by simp [Region.wanted, hg]
  rw [if_pos hw]
  refine ⟨.agg cs.toArray, fun w hw => ?_, hK _ h⟩
  unfold Oper.quietAt execOp
  simp only [ho, hx, Instr.loadAt, Instr.sureAddr, Sem.run_bind, Sem.run_pure, Result.andThen_ok, run_loadVar_mid w b o ty cs d (hc w hw) hu hd hi]
  exact ⟨rfl, rfl⟩
end Go.Proofs.YteajhimmhlccdaaDoor
