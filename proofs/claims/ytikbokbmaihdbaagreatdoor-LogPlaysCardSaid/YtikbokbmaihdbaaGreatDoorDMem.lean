/-
  Maps with texts as keys, whatever their elements are: told by a list of names and values, rising by names ('SMap'). Over the library's 'ownsMap', with a reading that leaves each value as it is.
  Layer 7: the program's disk in memory: its own block, a map, a block for each file, a row of bytes.
-/
import Derived.Test.YtikbokbmaihdbaaGreatDoorDModel
import Derived.Maps.OwnSet
import Derived.Maps.Ext
import Derived.WalkKit
import Derived.Below
import Derived.Test.YtikbokbmaihdbaaGreatDoorLWorks
import Derived.Lib.AppendStr
namespace Go.Proofs.YtikbokbmaihdbaaGreatDoor
open Go.RowKit Go.Maps

abbrev KV := List (ByteArray × Value)
/-- A value reads as itself. -/
def rv (v : Value) : Option (DataW Value × List MemPlace) := some (.held v, [])
def lk (s : ByteArray) : Lit := .string s.data.toList
theorem lk_inj {a b : ByteArray} (h : lk a = lk b) : a = b := by
  simp only [lk, Lit.string.injEq] at h
  exact ByteArray.ext (Array.toList_inj.1 h)
def dOf (kv : KV) : DataW Value := .map (kv.map fun p => (lk p.1, .held p.2))

theorem before_bl : ∀ (x y : List UInt8), bytesBefore x y = decide (x < y)
  | [], [] => by simp [bytesBefore]
  | [], _ :: _ => by simp [bytesBefore]
  | _ :: _, [] => by simp [bytesBefore]
  | a :: r, b :: s => by
    simp only [bytesBefore, before_bl r s]
    by_cases h : a < b
    · simp [h, List.cons_lt_cons_iff]
    · by_cases e : a = b
      · subst e; simp
      · simp [h, e, List.cons_lt_cons_iff]
theorem lk_before (a b : ByteArray) : (lk a).before (lk b) = decide (bl a b) := by
  simp only [lk, Lit.before, before_bl]
  rfl
theorem canon_dOf {kv : KV} (h : Srt kv) : Canon (dOf kv) := by
  refine ⟨_, rfl, ?_, fun p hp => ?_⟩
  · rw [List.pairwise_map]
    exact h.imp (fun {a b} hab => by rw [lk_before]; exact decide_eq_true hab)
  · obtain ⟨q, _, rfl⟩ := List.mem_map.1 hp
    exact trivial
theorem same_lk (a b : ByteArray) : (lk a).sameKey (lk b) = decide (a = b) := by
  simp only [lk, Lit.sameKey]
  by_cases h : a = b
  · subst h; simp
  · rw [decide_eq_false h, beq_eq_false_iff_ne]
    exact fun e => h (ByteArray.ext (Array.toList_inj.1 e))
theorem has_dOf (n : ByteArray) : ∀ kv : KV, has (dOf kv) (lk n) = (get kv n).isSome
  | [] => rfl
  | p :: r => by
    have ih := has_dOf n r
    simp only [dOf, has_eq, List.map_cons, List.any_cons, same_lk, get] at ih ⊢
    by_cases e : p.1 = n
    · simp [e]
    · rw [decide_eq_false e, Bool.false_or, if_neg e, ih]
theorem at_dOf (n : ByteArray) (z : DataW Value) : ∀ kv : KV, (dOf kv).atKey (lk n) z = match get kv n with | some v => .held v | none => z
  | [] => rfl
  | p :: r => by
    have ih := at_dOf n z r
    simp only [dOf, DataW.atKey, List.map_cons, List.find?_cons, same_lk, get] at ih ⊢
    by_cases e : p.1 = n
    · simp [e]
    · rw [decide_eq_false e, if_neg e]
      exact ih
/-- A key that is no text, or no text's bytes: there is always a text. -/
theorem has_other (kv : KV) (k : Lit) (h : ∀ n, k ≠ lk n) : has (dOf kv) k = false := by
  simp only [dOf, has_eq, List.any_map, List.any_eq_false]
  intro p _ e
  exact h p.1 (WideAt.sameKey_eq e).symm
theorem lit_cases (k : Lit) : (∃ n, k = lk n) ∨ ∀ n, k ≠ lk n := by
  cases k with
  | string s => exact Or.inl ⟨⟨s.toArray⟩, by simp [lk]⟩
  | _ => exact Or.inr (fun n => by simp [lk])

/-- What is laid at a name. -/
def kput (kv : KV) (n : ByteArray) (v : Value) : KV := if (get kv n).isSome then upd kv n v else ins n v kv
theorem srt_kput {kv : KV} (h : Srt kv) (n : ByteArray) (v : Value) : Srt (kput kv n v) := by
  unfold kput
  split
  · exact srt_upd h n v
  · rename_i e; exact srt_ins h (by simpa using e)
theorem get_kput_same {kv : KV} (h : Srt kv) (n : ByteArray) (v : Value) : get (kput kv n v) n = some v := by
  unfold kput
  split
  · rename_i e
    obtain ⟨g, hg⟩ := Option.isSome_iff_exists.1 e
    exact get_upd_same hg
  · rename_i e; exact get_ins_same h (by simpa using e)
theorem get_kput_other {kv : KV} {n m : ByteArray} (v : Value) (h : m ≠ n) : get (kput kv n v) m = get kv m := by
  unfold kput
  split
  · exact get_upd_other v h
  · exact get_ins_other h kv

theorem isMap_dOf (kv : KV) : IsMap (dOf kv) := ⟨_, rfl⟩
theorem put_dOf {kv : KV} (h : Srt kv) (n : ByteArray) (v : Value) (c : Canon ((dOf kv).put (lk n) (.held v))) : (dOf kv).put (lk n) (.held v) = dOf (kput kv n v) := by
  have hk : WideAt.IsKeyLit (lk n) := trivial
  refine ext c (canon_dOf (srt_kput h n v)) (fun k => ?_) (fun k z _ => ?_)
  · rcases lit_cases k with ⟨m, rfl⟩ | ho
    · by_cases e : m = n
      · subst e; rw [has_put_same (isMap_dOf kv) hk, has_dOf, get_kput_same h]; rfl
      · rw [has_put_other (fun e2 => e (lk_inj e2)), has_dOf, has_dOf, get_kput_other v e]
    · rw [has_put_other (ho n), has_other _ _ ho, has_other _ _ ho]
  · rcases lit_cases k with ⟨m, rfl⟩ | ho
    · by_cases e : m = n
      · subst e; rw [atKey_put_same (isMap_dOf kv) hk, at_dOf, get_kput_same h]
      · rw [atKey_put_other (fun e2 => e (lk_inj e2)), at_dOf, at_dOf, get_kput_other v e]
    · rw [atKey_put_other (ho n), atKey_of_not_has (has_other _ _ ho), atKey_of_not_has (has_other _ _ ho)]
theorem del_dOf {kv : KV} (h : Srt kv) (n : ByteArray) (c : Canon ((dOf kv).del (lk n))) : (dOf kv).del (lk n) = dOf (del kv n) := by
  refine ext c (canon_dOf (srt_del h n)) (fun k => ?_) (fun k z _ => ?_)
  · rcases lit_cases k with ⟨m, rfl⟩ | ho
    · by_cases e : m = n
      · subst e; rw [has_del_same, has_dOf, get_del_same]; rfl
      · rw [has_del_other (fun e2 => e (lk_inj e2)), has_dOf, has_dOf, get_del_other e]
    · rw [has_del_other (ho n), has_other _ _ ho, has_other _ _ ho]
  · rcases lit_cases k with ⟨m, rfl⟩ | ho
    · by_cases e : m = n
      · subst e; rw [atKey_del_same, at_dOf, get_del_same]
      · rw [atKey_del_other (fun e2 => e (lk_inj e2)), at_dOf, at_dOf, get_del_other e]
    · rw [atKey_del_other (ho n), atKey_of_not_has (has_other _ _ ho), atKey_of_not_has (has_other _ _ ho)]

/-- In w block b is a map that holds kv: keys of type K, texts. -/
structure SMap (P : Program) (K : TypeId) (w : World) (b : Nat) (kv : KV) : Prop where
  owns : w.ownsMap P K rv b kv.length (dOf kv)
  srt : Srt kv
theorem SMap.made (P : Program) (K : TypeId) (w : World) : SMap P K (w.alloc (.map #[] 0)) w.heap.size [] := ⟨World.ownsMap_made w P K rv, List.Pairwise.nil⟩
theorem SMap.lt {P : Program} {K : TypeId} {w : World} {b : Nat} {kv : KV} (h : SMap P K w b kv) : b < w.heap.size := h.owns.lt
theorem SMap.kept {P : Program} {K : TypeId} {w w' : World} {b : Nat} {kv : KV} (h : SMap P K w b kv) (hb : w'.heap[b]? = w.heap[b]?) : SMap P K w' b kv := by
  obtain ⟨es, clock, h1, F, hs, hD⟩ := h.owns
  exact ⟨⟨es, clock, hb.trans h1, F, hs, hD⟩, h.srt⟩
theorem SMap.below {P : Program} {K : TypeId} {w w' : World} {b : Nat} {kv : KV} (h : SMap P K w b kv) (hb : Below w.heap.size w w') : SMap P K w' b kv := h.kept (hb.block b h.lt)
/-- The bound is how many there are. -/
theorem owns_tight {P : Program} {K : TypeId} {w : World} {b n : Nat} {kv : KV} (h : w.ownsMap P K rv b n (dOf kv)) : w.ownsMap P K rv b kv.length (dOf kv) := by
  obtain ⟨es, clock, h1, F, hs, hD⟩ := h
  refine ⟨es, clock, h1, F, ?_, hD⟩
  have h2 := congrArg Maps.size hD
  simp only [dOf, Maps.size, List.length_map, length_sorted, Array.length_toList] at h2
  omega

section
variable {P : Program} {K : TypeId} (hK : P.underlying K = some .string) {w : World} {b : Nat} {kv : KV} (h : SMap P K w b kv) {t e : TypeId} (ht : P.underlying t = some (.map K e))
include hK h ht
/-- 'v, ok := m[n]'. -/
theorem SMap.look_ok {z : Value} (hz : (zeroValue e).run P w = .ok z w) (n : ByteArray) (hn : n.size ≤ maxLen) : (Instr.lookup t (.map (some b)) (.string n) true).run P w = .ok (.tuple #[(get kv n).getD z, .bool (get kv n).isSome]) w := by
  obtain ⟨v, ps, hrun, hv⟩ := h.owns.look_ok (string_keyed hK) ht hz (zd := .held z) (zp := []) rfl (WideMaps.keyOf_string_mk hK hn)
  have hv' : v = (get kv n).getD z := by
    have e2 := at_dOf n (.held z) kv
    simp only [rv, Option.some.injEq, Prod.mk.injEq] at hv
    rw [show (Lit.string n.data.toList) = lk n from rfl, e2] at hv
    cases hg : get kv n with
    | none => rw [hg] at hv; simpa using hv.1
    | some u => rw [hg] at hv; simpa using hv.1
  rw [hrun, hv', show (Lit.string n.data.toList) = lk n from rfl, has_dOf]
/-- 'm[n]'. -/
theorem SMap.look {z : Value} (hz : (zeroValue e).run P w = .ok z w) (n : ByteArray) (hn : n.size ≤ maxLen) : (Instr.lookup t (.map (some b)) (.string n) false).run P w = .ok ((get kv n).getD z) w := by
  obtain ⟨v, ps, hrun, hv⟩ := h.owns.lookup (string_keyed hK) ht hz (zd := .held z) (zp := []) rfl (WideMaps.keyOf_string_mk hK hn)
  have hv' : v = (get kv n).getD z := by
    have e2 := at_dOf n (.held z) kv
    simp only [rv, Option.some.injEq, Prod.mk.injEq] at hv
    rw [show (Lit.string n.data.toList) = lk n from rfl, e2] at hv
    cases hg : get kv n with
    | none => rw [hg] at hv; simpa using hv.1
    | some u => rw [hg] at hv; simpa using hv.1
  rw [hrun, hv']
/-- 'm[n] = v'. -/
theorem SMap.store (hl : kv.length < maxLen) (n : ByteArray) (hn : n.size ≤ maxLen) (v : Value) : ∃ w', (Instr.mapUpdate t (.map (some b)) (.string n) v).run P w = .ok () w' ∧ SMap P K w' b (kput kv n v) ∧ w.mapTurned w' b := by
  obtain ⟨w', hrun, ho, hm⟩ := h.owns.store (string_keyed hK) ht hl (WideMaps.keyOf_string_mk hK hn) (val := v) (d := .held v) (ps := []) rfl
  rw [show (Lit.string n.data.toList) = lk n from rfl] at ho
  have hc := ho.canon (string_keyed hK)
  rw [put_dOf h.srt n v hc] at ho
  exact ⟨w', hrun, ⟨owns_tight ho, srt_kput h.srt n v⟩, hm⟩
/-- 'delete(m, n)'. -/
theorem SMap.drop (n : ByteArray) (hn : n.size ≤ maxLen) (ty : TypeId) : ∃ w', (Builtin.delete_ #[t, K] ty #[.map (some b), .string n]).run P w = .ok (.tuple #[]) w' ∧ SMap P K w' b (del kv n) ∧ w.mapTurned w' b := by
  obtain ⟨w', hrun, ho, hm⟩ := h.owns.drop (string_keyed hK) ht (WideMaps.keyOf_string_mk hK hn) ty
  rw [show (Lit.string n.data.toList) = lk n from rfl] at ho
  have hc := ho.canon (string_keyed hK)
  rw [del_dOf h.srt n hc] at ho
  exact ⟨w', hrun, ⟨owns_tight ho, srt_del h.srt n⟩, hm⟩
omit hK in
/-- 'len(m)'. -/
theorem SMap.size (ty : TypeId) : (Builtin.len_ #[t] ty #[.map (some b)]).run P w = .ok (.int .i64 kv.length) w := by
  rw [h.owns.len ht ty]
  simp [dOf, Maps.size]
end

/-! ### at the operation -/
section
variable {P : Program} {K : TypeId} (hK : P.underlying K = some .string) {w : World} {b : Nat} {kv : KV} {t e : TypeId} (ht : P.underlying t = some (.map K e)) {ops : Array Oper} {rest : List Oper} {o : Oper} {a : Act} {Q : Exit → Act → World → Prop}
include hK ht
theorem wpList_smap_store (hg : o.guard = none) (m x v : Operand) (hop : o.op = Op.mapUpdate t m x v) (hm : a.eval m = .map (some b)) (h : SMap P K w b kv) (hl : kv.length < maxLen) (n : ByteArray) (hx : a.eval x = .string n) (hn : n.size ≤ maxLen) (val : Value) (hv : a.eval v = val)
    (hC : ∀ w', SMap P K w' b (kput kv n val) → w.mapTurned w' b → wpList P ops Q rest (a.put o.dst undef) w') : wpList P ops Q (o :: rest) a w := by
  refine wpList_plain hg fun K' hK' => ?_
  obtain ⟨w', hrun, r1, r2⟩ := h.store hK ht hl n hn val
  unfold Oper.wp
  simp [execOp, hop, hm, hx, hv, hrun, Result.andThen]
  exact hK' _ _ (hC w' r1 r2)
theorem wpList_smap_drop (hg : o.guard = none) (m x : Operand) (hop : o.op = Op.call { callee := Callee.builtin Builtin.delete, args := #[m, x], argTypes := #[t, K] }) (hm : a.eval m = .map (some b)) (h : SMap P K w b kv) (n : ByteArray) (hx : a.eval x = .string n) (hn : n.size ≤ maxLen)
    (hC : ∀ w', SMap P K w' b (del kv n) → w.mapTurned w' b → wpList P ops Q rest (a.put o.dst (.tuple #[])) w') : wpList P ops Q (o :: rest) a w := by
  refine wpList_plain hg fun K' hK' => ?_
  obtain ⟨w', hrun, r1, r2⟩ := h.drop hK ht n hn o.type
  unfold Oper.wp
  simp [execOp, hop, resolve, invoke, builtin, hm, hx, hrun, Result.andThen]
  exact hK' _ _ (hC w' r1 r2)
end

end Go.Proofs.YtikbokbmaihdbaaGreatDoor

namespace Go.Proofs.YtikbokbmaihdbaaGreatDoor
open Go.RowKit Go.Maps Go.Lib

theorem Only.wide {O O' : Nat → Prop} {w w' : World} (h : Only O w w') (hO : ∀ k, O k → O' k) : Only O' w w' :=
  ⟨h.os, h.tape, h.output, h.size, fun k hk hn => h.block k hk (fun ho => hn (hO k ho))⟩
theorem Only.refl (O : Nat → Prop) (w : World) : Only O w w := ⟨rfl, rfl, rfl, Nat.le_refl _, fun _ _ _ => rfl⟩
theorem Only.grown {w w' : World} {row : Option Nat} (h : w.grownBy w' row) : Only (fun k => row = some k) w w' :=
  ⟨h.os, h.tape, h.output, h.size, fun k hk hn => h.block k hk (fun e => hn e.symm)⟩
theorem Only.set (w : World) (p i : Nat) (v : Value) : Only (fun k => k = p) w (w.setCell ⟨p, i, none⟩ v) :=
  ⟨rfl, rfl, rfl, by simp [World.setCell], fun k _ hn => Below.heap_setCell w ⟨p, i, none⟩ v k hn⟩

theorem heap_set {w : World} {p i : Nat} {cs : Array Value} {t : TypeId} (h : w.heap[p]? = some (.cells cs t (0, 0))) (v : Value) :
    (w.setCell ⟨p, i, none⟩ v).heap[p]? = some (.cells (cs.setIfInBounds i v) t (0, 0)) := by
  simp [World.setCell, Array.getElem?_modify, h]
theorem cell_hp {w : World} {p : Nat} {cs : Array Value} {t : TypeId} (h : w.heap[p]? = some (.cells cs t (0, 0))) (j : Nat) : w.cell? ⟨p, j, none⟩ = cs[j]? := by simp [World.cell?, h]
theorem frozen_hp {w : World} {p : Nat} {cs : Array Value} {t : TypeId} (h : w.heap[p]? = some (.cells cs t (0, 0))) (j : Nat) : w.frozen? ⟨p, j, none⟩ = false := by simp [World.frozen?, h]
theorem lt_of_heap {w : World} {p : Nat} {o : Obj} (h : w.heap[p]? = some o) : p < w.heap.size := (Array.getElem?_eq_some_iff.1 h).1

/-! ### the map's pairs -/
def kvOf (P : ByteArray → Nat) (fs : List (ByteArray × Fil)) : KV := (names fs).map fun n => (n, ptr (P n))
def put1 {α : Type} (P : ByteArray → α) (n : ByteArray) (p : α) : ByteArray → α := fun m => if m = n then p else P m
theorem put1_same {α : Type} (P : ByteArray → α) (n : ByteArray) (p : α) : put1 P n p n = p := by simp [put1]
theorem put1_other {α : Type} (P : ByteArray → α) {n m : ByteArray} (p : α) (h : m ≠ n) : put1 P n p m = P m := by simp [put1, h]
theorem names_kvOf (P : ByteArray → Nat) (fs : List (ByteArray × Fil)) : names (kvOf P fs) = names fs := by
  simp only [kvOf]
  conv => lhs; unfold names
  rw [List.map_map]
  exact List.map_id _
theorem len_kvOf (P : ByteArray → Nat) (fs : List (ByteArray × Fil)) : (kvOf P fs).length = fs.length := by simp [kvOf, names]
theorem get_kvOf (P : ByteArray → Nat) (n : ByteArray) : ∀ fs : List (ByteArray × Fil), get (kvOf P fs) n = (get fs n).map fun _ => ptr (P n)
  | [] => rfl
  | q :: r => by
    have ih := get_kvOf P n r
    simp only [kvOf, names, List.map_cons, get] at ih ⊢
    by_cases e : q.1 = n
    · subst e; simp
    · rw [if_neg e, if_neg e]; exact ih
theorem kvOf_upd (P : ByteArray → Nat) (fs : List (ByteArray × Fil)) (n : ByteArray) (f : Fil) : kvOf P (upd fs n f) = kvOf P fs := by simp only [kvOf, names_upd]
theorem kvOf_del (P : ByteArray → Nat) (n : ByteArray) : ∀ fs : List (ByteArray × Fil), kvOf P (del fs n) = del (kvOf P fs) n
  | [] => rfl
  | q :: r => by
    have ih := kvOf_del P n r
    simp only [kvOf, names, del, List.map_cons, List.filter_cons] at ih ⊢
    by_cases e : q.1 = n
    · rw [if_neg (by simp [e]), if_neg (by simp [e])]; exact ih
    · rw [if_pos (by simp [e]), if_pos (by simp [e])]; simp only [List.map_cons]; rw [ih]
theorem kvOf_put1 (P : ByteArray → Nat) {n : ByteArray} (p : Nat) (fs : List (ByteArray × Fil)) (h : n ∉ names fs) : kvOf (put1 P n p) fs = kvOf P fs := by
  simp only [kvOf]
  apply List.map_congr_left
  intro m hm
  rw [put1_other _ _ (fun e => h (by rw [← e]; exact hm))]
theorem kvOf_ins (P : ByteArray → Nat) (n : ByteArray) (f : Fil) (p : Nat) : ∀ fs : List (ByteArray × Fil), n ∉ names fs → kvOf (put1 P n p) (ins n f fs) = ins n (ptr p) (kvOf P fs)
  | [], _ => by simp [kvOf, names, ins, put1_same]
  | q :: r, h => by
    have hq : n ≠ q.1 := fun e => h (by simp [names, e])
    have hr : n ∉ names r := fun e => h (by simp only [names, List.map_cons]; exact List.mem_cons_of_mem _ e)
    have ih := kvOf_ins P n f p r hr
    have h2 := kvOf_put1 P p r hr
    simp only [kvOf, names, ins, List.map_cons] at ih h2 ⊢
    by_cases e : bl q.1 n
    · rw [if_pos e, if_pos e]
      simp only [List.map_cons]
      rw [ih, put1_other _ _ (Ne.symm hq)]
    · rw [if_neg e, if_neg e]
      simp only [List.map_cons]
      rw [h2, put1_same, put1_other _ _ (Ne.symm hq)]
theorem names_ins_mem {n m : ByteArray} {f : Fil} {fs : List (ByteArray × Fil)} : m ∈ names (ins n f fs) ↔ m = n ∨ m ∈ names fs := by
  simp only [names, List.mem_map]
  constructor
  · rintro ⟨q, hq, rfl⟩
    rcases mem_ins.1 hq with rfl | h
    · exact Or.inl rfl
    · exact Or.inr ⟨q, h, rfl⟩
  · rintro (rfl | ⟨q, hq, rfl⟩)
    · exact ⟨(m, f), mem_ins.2 (Or.inl rfl), rfl⟩
    · exact ⟨q, mem_ins.2 (Or.inr hq), rfl⟩
theorem names_del_mem {n m : ByteArray} {fs : List (ByteArray × Fil)} (h : m ∈ names (del fs n)) : m ∈ names fs := by
  obtain ⟨q, hq, rfl⟩ := List.mem_map.1 h
  exact List.mem_map.2 ⟨q, mem_del hq, rfl⟩
theorem names_of_get {n : ByteArray} {f : Fil} {fs : List (ByteArray × Fil)} (h : get fs n = some f) : n ∈ names fs := List.mem_map.2 ⟨(n, f), get_mem h, rfl⟩
theorem get_of_names {n : ByteArray} {fs : List (ByteArray × Fil)} (h : n ∈ names fs) : ∃ f, get fs n = some f := by
  cases hg : get fs n with
  | some f => exact ⟨f, rfl⟩
  | none => exact absurd h (get_none.1 hg)

/-! ### a file -/
structure File (w : World) (p : Nat) (v : Value) (f : Fil) : Prop where
  head : w.heap[p]? = some (.cells #[v, .int .i64 (f.loose : Nat), .bool f.fresh] 91 (0, 0))
  row : w.ownsRow 0 5 1 v f.text.size (strCells f.text)
theorem row_block {w : World} {v : Value} {n : Nat} {xs : List Value} (h : w.ownsRow 0 5 1 v n xs) {k : Nat} (hk : v.ownBlock = some k) : ∃ cur, w.heap[k]? = some (.cells cur 5 (0, 0)) := by
  rcases h.2 with ⟨rfl, _⟩ | ⟨g, cap, cur, rfl, _, hg, _⟩
  · cases hk
  · simp only [Value.ownBlock, Option.some.injEq] at hk
    subst hk
    exact ⟨cur, hg⟩
theorem row_kept {w w' : World} {v : Value} {n : Nat} {xs : List Value} (h : w.ownsRow 0 5 1 v n xs) (hb : ∀ k, v.ownBlock = some k → w'.heap[k]? = w.heap[k]?) : w'.ownsRow 0 5 1 v n xs := by
  refine ⟨h.1, ?_⟩
  rcases h.2 with h2 | ⟨g, cap, cur, rfl, h3, hg, r⟩
  · exact Or.inl h2
  · exact Or.inr ⟨g, cap, cur, rfl, h3, (hb g rfl).trans hg, r⟩
theorem File.c0 {w : World} {p : Nat} {v : Value} {f : Fil} (h : File w p v f) : w.cell? ⟨p, 0, none⟩ = some v := by rw [cell_hp h.head]; rfl
theorem File.c1 {w : World} {p : Nat} {v : Value} {f : Fil} (h : File w p v f) : w.cell? ⟨p, 1, none⟩ = some (.int .i64 (f.loose : Nat)) := by rw [cell_hp h.head]; rfl
theorem File.c2 {w : World} {p : Nat} {v : Value} {f : Fil} (h : File w p v f) : w.cell? ⟨p, 2, none⟩ = some (.bool f.fresh) := by rw [cell_hp h.head]; rfl
theorem File.fr {w : World} {p : Nat} {v : Value} {f : Fil} (h : File w p v f) (j : Nat) : w.frozen? ⟨p, j, none⟩ = false := frozen_hp h.head j
theorem File.kept {w w' : World} {p : Nat} {v : Value} {f : Fil} (h : File w p v f) (hp : w'.heap[p]? = w.heap[p]?) (hb : ∀ k, v.ownBlock = some k → w'.heap[k]? = w.heap[k]?) : File w' p v f := ⟨hp.trans h.head, row_kept h.row hb⟩
/-- How many bytes the slice has. -/
theorem File.slice {w : World} {p : Nat} {v : Value} {f : Fil} (h : File w p v f) : ∃ A c, v = .slice A f.text.size c ∧ f.text.size ≤ c ∧ c ≤ maxLen := by
  rcases h.row.2 with ⟨rfl, h0⟩ | ⟨g, cap, cur, rfl, _, _, h1, h2, _⟩
  · exact ⟨none, 0, by rw [h0], by omega, Nat.zero_le _⟩
  · exact ⟨_, cap, rfl, h1, h2⟩
/-- Its first bytes. -/
def cutV : Value → Nat → Value
  | .slice A _ c, k => .slice A k c
  | v, _ => v
theorem cutV_own (v : Value) (k : Nat) : (cutV v k).ownBlock = v.ownBlock := by
  unfold cutV
  split
  · rename_i A _ _
    cases A <;> rfl
  · rfl
theorem row_cut {w : World} {v : Value} {s : ByteArray} (h : w.ownsRow 0 5 1 v s.size (strCells s)) {k : Nat} (hk : k ≤ s.size) : w.ownsRow 0 5 1 (cutV v k) (s.extract 0 k).size (strCells (s.extract 0 k)) := by
  have hsz : (s.extract 0 k).size = k := by rw [ByteArray.size_extract]; omega
  have hc : strCells (s.extract 0 k) = (strCells s).take k := by
    simp only [strCells, ByteArray.data_extract, Array.toList_extract, List.extract_eq_take_drop, List.drop_zero, Nat.sub_zero, List.map_take]
  rw [hsz, hc]
  refine ⟨by rw [List.length_take, strCells_length]; omega, ?_⟩
  rcases h.2 with ⟨rfl, h0⟩ | ⟨g, cap, cur, rfl, h3, hg, h4, h5, h6, h7⟩
  · refine Or.inl ⟨?_, by omega⟩
    obtain rfl : k = 0 := by omega
    rfl
  · refine Or.inr ⟨g, cap, cur, rfl, h3, hg, by omega, h5, h6, ?_⟩
    rw [← h7, List.take_take]
    congr 1
    omega

/-! ### the files -/
structure Lay (w : World) (b : Nat) (P : ByteArray → Nat) (V : ByteArray → Value) (fs : List (ByteArray × Fil)) : Prop where
  map : SMap Tryz.prog 9 w b (kvOf P fs)
  file : ∀ n f, get fs n = some f → File w (P n) (V n) f
  apart : ∀ n ∈ names fs, ∀ m ∈ names fs, n ≠ m → P n ≠ P m
  rows : ∀ n ∈ names fs, ∀ m ∈ names fs, n ≠ m → ∀ k, (V n).ownBlock = some k → (V m).ownBlock ≠ some k
def OLay (b : Nat) (P : ByteArray → Nat) (V : ByteArray → Value) (fs : List (ByteArray × Fil)) (k : Nat) : Prop := k = b ∨ ∃ n ∈ names fs, k = P n ∨ (V n).ownBlock = some k

theorem SMap.isMap {Q : Program} {K : TypeId} {w : World} {b : Nat} {kv : KV} (h : SMap Q K w b kv) : ∃ es c, w.heap[b]? = some (.map es c) := by
  obtain ⟨es, clock, h1, _⟩ := h.owns
  exact ⟨es, clock, h1⟩

section
variable {w w' : World} {b : Nat} {P : ByteArray → Nat} {V : ByteArray → Value} {fs : List (ByteArray × Fil)} (h : Lay w b P V fs)
include h
theorem Lay.no_b {n : ByteArray} (hn : n ∈ names fs) : P n ≠ b ∧ (V n).ownBlock ≠ some b := by
  obtain ⟨f, hf⟩ := get_of_names hn
  have hF := h.file n f hf
  obtain ⟨es, c, hm⟩ := h.map.isMap
  refine ⟨fun e => ?_, fun e => ?_⟩
  · have := hF.head
    rw [e, hm] at this
    cases this
  · obtain ⟨cur, hc⟩ := row_block hF.row e
    rw [hm] at hc
    cases hc
theorem Lay.no_p {n m : ByteArray} (hn : n ∈ names fs) (hm : m ∈ names fs) : (V n).ownBlock ≠ some (P m) := by
  intro e
  obtain ⟨f, hf⟩ := get_of_names hn
  obtain ⟨f2, hf2⟩ := get_of_names hm
  obtain ⟨cur, hc⟩ := row_block (h.file n f hf).row e
  have := (h.file m f2 hf2).head
  rw [hc] at this
  injection this with this
  injection this with _ this
  exact absurd this (by decide)
theorem Lay.lt {k : Nat} (hk : OLay b P V fs k) : k < w.heap.size := by
  rcases hk with rfl | ⟨n, hn, hk⟩
  · exact h.map.lt
  · obtain ⟨f, hf⟩ := get_of_names hn
    rcases hk with rfl | hk
    · exact lt_of_heap (h.file n f hf).head
    · obtain ⟨cur, hc⟩ := row_block (h.file n f hf).row hk
      exact lt_of_heap hc
theorem Lay.kept (hb : ∀ k, OLay b P V fs k → w'.heap[k]? = w.heap[k]?) : Lay w' b P V fs :=
  ⟨h.map.kept (hb b (Or.inl rfl)), fun n f hf => (h.file n f hf).kept (hb _ (Or.inr ⟨n, names_of_get hf, Or.inl rfl⟩)) (fun k hk => hb k (Or.inr ⟨n, names_of_get hf, Or.inr hk⟩)), h.apart, h.rows⟩
theorem Lay.only {O : Nat → Prop} (ho : Only O w w') (hO : ∀ k, OLay b P V fs k → ¬ O k) : Lay w' b P V fs := h.kept (fun k hk => ho.block k (h.lt hk) (hO k hk))
theorem Lay.below (hb : Below w.heap.size w w') : Lay w' b P V fs := h.kept (fun k hk => hb.block k (h.lt hk))
/-- One file's block and row turn. -/
theorem Lay.turn {n : ByteArray} {f f' : Fil} {v' : Value} (hg : get fs n = some f) (hF : File w' (P n) v' f') (hv : ∀ k, v'.ownBlock = some k → (V n).ownBlock = some k ∨ w.heap.size ≤ k)
    (hb : ∀ k, OLay b P V fs k → k ≠ P n → (V n).ownBlock ≠ some k → w'.heap[k]? = w.heap[k]?) : Lay w' b P (put1 V n v') (upd fs n f') := by
  have hn := names_of_get hg
  refine ⟨?_, fun m f2 hf2 => ?_, by rw [names_upd]; exact h.apart, ?_⟩
  · rw [kvOf_upd]
    exact h.map.kept (hb b (Or.inl rfl) (Ne.symm (h.no_b hn).1) (h.no_b hn).2)
  · by_cases e : m = n
    · subst e
      rw [get_upd_same hg] at hf2
      cases hf2
      rw [put1_same]
      exact hF
    · rw [get_upd_other _ e] at hf2
      rw [put1_other _ _ e]
      have hm := names_of_get hf2
      have hF2 := h.file m f2 hf2
      refine hF2.kept (hb _ (Or.inr ⟨m, hm, Or.inl rfl⟩) (h.apart m hm n hn e) (h.no_p hn hm)) (fun k hk => ?_)
      exact hb k (Or.inr ⟨m, hm, Or.inr hk⟩) (fun e2 => h.no_p hm hn (by rw [hk, e2])) (h.rows m hm n hn e k hk)
  · rw [names_upd]
    intro m1 h1 m2 h2 hne k hk
    have hold : ∀ m ∈ names fs, ∀ k, (V m).ownBlock = some k → k < w.heap.size := fun m hm k hk => h.lt (Or.inr ⟨m, hm, Or.inr hk⟩)
    by_cases e1 : m1 = n
    · subst e1
      rw [put1_same] at hk
      rw [put1_other _ _ (Ne.symm hne)]
      rcases hv k hk with h3 | h3
      · exact h.rows m1 h1 m2 h2 hne k h3
      · exact fun h4 => by have := hold m2 h2 k h4; omega
    · rw [put1_other _ _ e1] at hk
      by_cases e2 : m2 = n
      · subst e2
        rw [put1_same]
        intro h4
        rcases hv k h4 with h3 | h3
        · exact h.rows m1 h1 m2 h2 hne k hk h3
        · have := hold m1 h1 k hk; omega
      · rw [put1_other _ _ e2]
        exact h.rows m1 h1 m2 h2 hne k hk
omit h in
theorem OLay.turn {n : ByteArray} {f' : Fil} {v' : Value} {B : Nat} (hn : n ∈ names fs) (hv : ∀ k, v'.ownBlock = some k → (V n).ownBlock = some k ∨ B ≤ k) {k : Nat} (hk : OLay b P (put1 V n v') (upd fs n f') k) : OLay b P V fs k ∨ B ≤ k := by
  rcases hk with rfl | ⟨m, hm, hk⟩
  · exact Or.inl (Or.inl rfl)
  · rw [names_upd] at hm
    rcases hk with hk | hk
    · exact Or.inl (Or.inr ⟨m, hm, Or.inl hk⟩)
    · by_cases e : m = n
      · subst e
        rw [put1_same] at hk
        rcases hv k hk with h3 | h3
        · exact Or.inl (Or.inr ⟨m, hm, Or.inr h3⟩)
        · exact Or.inr h3
      · rw [put1_other _ _ e] at hk
        exact Or.inl (Or.inr ⟨m, hm, Or.inr hk⟩)
/-- A new file. -/
theorem Lay.new {n : ByteArray} {f : Fil} {v : Value} {p : Nat} (hg : get fs n = none) (hF : File w' p v f) (hp : w.heap.size ≤ p) (hv : ∀ k, v.ownBlock = some k → w.heap.size ≤ k)
    (hm : SMap Tryz.prog 9 w' b (ins n (ptr p) (kvOf P fs))) (hb : ∀ k, OLay b P V fs k → k ≠ b → w'.heap[k]? = w.heap[k]?) : Lay w' b (put1 P n p) (put1 V n v) (ins n f fs) := by
  have hn := get_none.1 hg
  have hold : ∀ m ∈ names fs, P m < w.heap.size := fun m hm => h.lt (Or.inr ⟨m, hm, Or.inl rfl⟩)
  have hold2 : ∀ m ∈ names fs, ∀ k, (V m).ownBlock = some k → k < w.heap.size := fun m hm k hk => h.lt (Or.inr ⟨m, hm, Or.inr hk⟩)
  have hsrt : Srt fs := by
    have := h.map.srt
    rw [srt_names, names_kvOf, ← srt_names] at this
    exact this
  refine ⟨?_, fun m f2 hf2 => ?_, fun m1 h1 m2 h2 hne => ?_, fun m1 h1 m2 h2 hne k hk => ?_⟩
  · rw [kvOf_ins _ _ _ _ _ hn]; exact hm
  · by_cases e : m = n
    · subst e
      rw [get_ins_same hsrt hg] at hf2
      cases hf2
      rw [put1_same, put1_same]
      exact hF
    · rw [get_ins_other e] at hf2
      rw [put1_other _ _ e, put1_other _ _ e]
      have hm2 := names_of_get hf2
      have hF2 := h.file m f2 hf2
      refine hF2.kept (hb _ (Or.inr ⟨m, hm2, Or.inl rfl⟩) (h.no_b hm2).1) (fun k hk => hb k (Or.inr ⟨m, hm2, Or.inr hk⟩) (fun e2 => (h.no_b hm2).2 (by rw [hk, e2])))
  · by_cases e1 : m1 = n
    · subst e1
      have h2' := (names_ins_mem.1 h2).resolve_left (Ne.symm hne)
      rw [put1_same, put1_other _ _ (Ne.symm hne)]
      have := hold m2 h2'
      omega
    · have h1' := (names_ins_mem.1 h1).resolve_left e1
      by_cases e2 : m2 = n
      · subst e2
        rw [put1_same, put1_other _ _ e1]
        have := hold m1 h1'
        omega
      · rw [put1_other _ _ e1, put1_other _ _ e2]
        exact h.apart m1 h1' m2 ((names_ins_mem.1 h2).resolve_left e2) hne
  · by_cases e1 : m1 = n
    · subst e1
      have h2' := (names_ins_mem.1 h2).resolve_left (Ne.symm hne)
      rw [put1_same] at hk
      rw [put1_other _ _ (Ne.symm hne)]
      intro h4
      have h5 := hold2 m2 h2' k h4
      have h6 := hv k hk
      omega
    · have h1' := (names_ins_mem.1 h1).resolve_left e1
      rw [put1_other _ _ e1] at hk
      by_cases e2 : m2 = n
      · subst e2
        rw [put1_same]
        intro h4
        have h5 := hold2 m1 h1' k hk
        have h6 := hv k h4
        omega
      · rw [put1_other _ _ e2]
        exact h.rows m1 h1' m2 ((names_ins_mem.1 h2).resolve_left e2) hne k hk
omit h in
theorem OLay.new {n : ByteArray} {f : Fil} {v : Value} {p B : Nat} (hp : B ≤ p) (hv : ∀ k, v.ownBlock = some k → B ≤ k) {k : Nat} (hk : OLay b (put1 P n p) (put1 V n v) (ins n f fs) k) : OLay b P V fs k ∨ B ≤ k := by
  rcases hk with rfl | ⟨m, hm, hk⟩
  · exact Or.inl (Or.inl rfl)
  · by_cases e : m = n
    · subst e
      rw [put1_same, put1_same] at hk
      rcases hk with rfl | hk
      · exact Or.inr hp
      · exact Or.inr (hv k hk)
    · rw [put1_other _ _ e, put1_other _ _ e] at hk
      exact Or.inl (Or.inr ⟨m, (names_ins_mem.1 hm).resolve_left e, hk⟩)
/-- A file goes. -/
theorem Lay.gone {n : ByteArray} (hm : SMap Tryz.prog 9 w' b (del (kvOf P fs) n)) (hb : ∀ k, OLay b P V fs k → k ≠ b → w'.heap[k]? = w.heap[k]?) : Lay w' b P V (del fs n) := by
  refine ⟨by rw [kvOf_del]; exact hm, fun m f2 hf2 => ?_, fun m1 h1 m2 h2 => h.apart m1 (names_del_mem h1) m2 (names_del_mem h2), fun m1 h1 m2 h2 => h.rows m1 (names_del_mem h1) m2 (names_del_mem h2)⟩
  have e : m ≠ n := by
    rintro rfl
    rw [get_del_same] at hf2
    cases hf2
  rw [get_del_other e] at hf2
  have hm2 := names_of_get hf2
  have hF2 := h.file m f2 hf2
  exact hF2.kept (hb _ (Or.inr ⟨m, hm2, Or.inl rfl⟩) (h.no_b hm2).1) (fun k hk => hb k (Or.inr ⟨m, hm2, Or.inr hk⟩) (fun e2 => (h.no_b hm2).2 (by rw [hk, e2])))
omit h in
theorem OLay.gone {n : ByteArray} {k : Nat} (hk : OLay b P V (del fs n) k) : OLay b P V fs k := by
  rcases hk with rfl | ⟨m, hm, hk⟩
  · exact Or.inl rfl
  · exact Or.inr ⟨m, names_del_mem hm, hk⟩
end

/-! ### the disk -/
def DHead (w : World) (g room b : Nat) (z : Option Nat) : Prop :=
  w.heap[g]? = some (.cells #[.bool true, .int .i64 (room : Nat), .map (some b), .bool z.isSome, .int .i64 ((z.getD 0 : Nat) : Int)] 58 (0, 0))
section
variable {w : World} {g room b : Nat} {z : Option Nat} (h : DHead w g room b z)
include h
theorem DHead.c0 : w.cell? ⟨g, 0, none⟩ = some (.bool true) := by rw [cell_hp h]; rfl
theorem DHead.c1 : w.cell? ⟨g, 1, none⟩ = some (.int .i64 (room : Nat)) := by rw [cell_hp h]; rfl
theorem DHead.c2 : w.cell? ⟨g, 2, none⟩ = some (.map (some b)) := by rw [cell_hp h]; rfl
theorem DHead.c3 : w.cell? ⟨g, 3, none⟩ = some (.bool z.isSome) := by rw [cell_hp h]; rfl
theorem DHead.c4 : w.cell? ⟨g, 4, none⟩ = some (.int .i64 ((z.getD 0 : Nat) : Int)) := by rw [cell_hp h]; rfl
theorem DHead.fr (j : Nat) : w.frozen? ⟨g, j, none⟩ = false := frozen_hp h j
theorem DHead.lt : g < w.heap.size := lt_of_heap h
theorem DHead.not_lay {P : ByteArray → Nat} {V : ByteArray → Value} {fs : List (ByteArray × Fil)} (hl : Lay w b P V fs) {k : Nat} (hk : OLay b P V fs k) : k ≠ g := by
  rintro rfl
  have h' : w.heap[k]? = _ := h
  rcases hk with rfl | ⟨n, hn, hk⟩
  · obtain ⟨es, c, hm⟩ := hl.map.isMap
    rw [hm] at h'
    cases h'
  · obtain ⟨f, hf⟩ := get_of_names hn
    rcases hk with rfl | hk
    · have h2 := (hl.file n f hf).head
      rw [h2] at h'
      injection h' with h'
      injection h' with _ h'
      exact absurd h' (by decide)
    · obtain ⟨cur, h2⟩ := row_block (hl.file n f hf).row hk
      rw [h2] at h'
      injection h' with h'
      injection h' with _ h'
      exact absurd h' (by decide)
end

/-- A disk that New made. -/
def TheDisk : Disks := fun O w g σ => Inv σ ∧ (∀ k, σ.fuse = some k → k ≤ 9223372036854775807) ∧ ∃ b P V, DHead w g σ.room b σ.fuse ∧ Lay w b P V σ.fs ∧ ∀ k, O k ↔ (k = g ∨ OLay b P V σ.fs k)

/-- What a call leaves. -/
theorem did_of {O : Nat → Prop} {w w' : World} {g : Nat} {σ τ : Dsk} {b : Nat} {P P' : ByteArray → Nat} {V V' : ByteArray → Value} {er : Nat} (hO : ∀ k, O k ↔ (k = g ∨ OLay b P V σ.fs k)) (hi : Inv τ) (hz : ∀ k, τ.fuse = some k → k ≤ 9223372036854775807) (hh : DHead w' g τ.room b τ.fuse) (hl : Lay w' b P' V' τ.fs)
    (ho : Only O w w') (hs : ∀ k, OLay b P' V' τ.fs k → OLay b P V σ.fs k ∨ w.heap.size ≤ k) : Did TheDisk O w g (τ, er) (.returned (.int .i64 (er : Nat))) w' := by
  refine ⟨rfl, fun k => k = g ∨ OLay b P' V' τ.fs k, ⟨hi, hz, b, P', V', hh, hl, fun k => Iff.rfl⟩, ho, fun k hk => ?_⟩
  rcases hk with rfl | hk
  · exact Or.inl ((hO _).2 (Or.inl rfl))
  · rcases hs k hk with h | h
    · exact Or.inl ((hO _).2 (Or.inr h))
    · exact Or.inr h

end Go.Proofs.YtikbokbmaihdbaaGreatDoor
