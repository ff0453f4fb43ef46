/-
  Maps with texts as keys, whatever their elements are: told by a list of names and values, rising by names ('SMap'). Over the library's 'ownsMap', with a reading that leaves each value as it is.
-/
import Derived.Test.YtikbokbmaihdbaaDoorAssoc
import Derived.Maps.OwnSet
import Derived.Maps.Ext
import Derived.WalkKit
import Derived.Below
namespace Go.Proofs.YtikbokbmaihdbaaDoor
open Go.RowKit Go.Maps

abbrev KV := List (ByteArray × Value)
/-- A value reads as itself. -/
def rv (v : Value) : Option (DataW Value × List MemPlace) := some (.held v, [])
def lk (s : ByteArray) : Lit := .string s.data.toList
theorem lk_inj {a b : ByteArray} (h : lk a = lk b) : a = b := by
  simp only [lk, Lit.string.injEq] at h
  exact ByteArray.ext (Array.toList_inj.1 h)
def dOf (kv : KV) : DataW Value := .map (kv.map fun p => (lk p.1, .held p.2))

theorem before_bl : ∀ (x y : List UInt8), bytesBefore x y = decide (x < y)
  | [], [] => by simp [bytesBefore]
  | [], _ :: _ => by simp [bytesBefore]
  | _ :: _, [] => by simp [bytesBefore]
  | a :: r, b :: s => by
    simp only [bytesBefore, before_bl r s]
    by_cases h : a < b
    · simp [h, List.cons_lt_cons_iff]
    · by_cases e : a = b
      · subst e; simp
      · simp [h, e, List.cons_lt_cons_iff]
theorem lk_before (a b : ByteArray) : (lk a).before (lk b) = decide (bl a b) := by
  simp only [lk, Lit.before, before_bl]
  rfl
theorem canon_dOf {kv : KV} (h : Srt kv) : Canon (dOf kv) := by
  refine ⟨_, rfl, ?_, fun p hp => ?_⟩
  · rw [List.pairwise_map]
    exact h.imp (fun {a b} hab => by rw [lk_before]; exact decide_eq_true hab)
  · obtain ⟨q, _, rfl⟩ := List.mem_map.1 hp
    exact trivial
theorem same_lk (a b : ByteArray) : (lk a).sameKey (lk b) = decide (a = b) := by
  simp only [lk, Lit.sameKey]
  by_cases h : a = b
  · subst h; simp
  · rw [decide_eq_false h, beq_eq_false_iff_ne]
    exact fun e => h (ByteArray.ext (Array.toList_inj.1 e))
theorem has_dOf (n : ByteArray) : ∀ kv : KV, has (dOf kv) (lk n) = (get kv n).isSome
  | [] => rfl
  | p :: r => by
    have ih := has_dOf n r
    simp only [dOf, has_eq, List.map_cons, List.any_cons, same_lk, get] at ih ⊢
    by_cases e : p.1 = n
    · simp [e]
    · rw [decide_eq_false e, Bool.false_or, if_neg e, ih]
theorem at_dOf (n : ByteArray) (z : DataW Value) : ∀ kv : KV, (dOf kv).atKey (lk n) z = match get kv n with | some v => .held v | none => z
  | [] => rfl
  | p :: r => by
    have ih := at_dOf n z r
    simp only [dOf, DataW.atKey, List.map_cons, List.find?_cons, same_lk, get] at ih ⊢
    by_cases e : p.1 = n
    · simp [e]
    · rw [decide_eq_false e, if_neg e]
      exact ih
/-- A key that is no text, or no text's bytes: there is always a text. -/
theorem has_other (kv : KV) (k : Lit) (h : ∀ n, k ≠ lk n) : has (dOf kv) k = false := by
  simp only [dOf, has_eq, List.any_map, List.any_eq_false]
  intro p _ e
  exact h p.1 (WideAt.sameKey_eq e).symm
theorem lit_cases (k : Lit) : (∃ n, k = lk n) ∨ ∀ n, k ≠ lk n := by
  cases k with
  | string s => exact Or.inl ⟨⟨s.toArray⟩, by simp [lk]⟩
  | _ => exact Or.inr (fun n => by simp [lk])

/-- What is laid at a name. -/
def kput (kv : KV) (n : ByteArray) (v : Value) : KV := if (get kv n).isSome then upd kv n v else ins n v kv
theorem srt_kput {kv : KV} (h : Srt kv) (n : ByteArray) (v : Value) : Srt (kput kv n v) := by
  unfold kput
  split
  · exact srt_upd h n v
  · rename_i e; exact srt_ins h (by simpa using e)
theorem get_kput_same {kv : KV} (h : Srt kv) (n : ByteArray) (v : Value) : get (kput kv n v) n = some v := by
  unfold kput
  split
  · rename_i e
    obtain ⟨g, hg⟩ := Option.isSome_iff_exists.1 e
    exact get_upd_same hg
  · rename_i e; exact get_ins_same h (by simpa using e)
theorem get_kput_other {kv : KV} {n m : ByteArray} (v : Value) (h : m ≠ n) : get (kput kv n v) m = get kv m := by
  unfold kput
  split
  · exact get_upd_other v h
  · exact get_ins_other h kv

theorem isMap_dOf (kv : KV) : IsMap (dOf kv) := ⟨_, rfl⟩
theorem put_dOf {kv : KV} (h : Srt kv) (n : ByteArray) (v : Value) (c : Canon ((dOf kv).put (lk n) (.held v))) : (dOf kv).put (lk n) (.held v) = dOf (kput kv n v) := by
  have hk : WideAt.IsKeyLit (lk n) := trivial
  refine ext c (canon_dOf (srt_kput h n v)) (fun k => ?_) (fun k z _ => ?_)
  · rcases lit_cases k with ⟨m, rfl⟩ | ho
    · by_cases e : m = n
      · subst e; rw [has_put_same (isMap_dOf kv) hk, has_dOf, get_kput_same h]; rfl
      · rw [has_put_other (fun e2 => e (lk_inj e2)), has_dOf, has_dOf, get_kput_other v e]
    · rw [has_put_other (ho n), has_other _ _ ho, has_other _ _ ho]
  · rcases lit_cases k with ⟨m, rfl⟩ | ho
    · by_cases e : m = n
      · subst e; rw [atKey_put_same (isMap_dOf kv) hk, at_dOf, get_kput_same h]
      · rw [atKey_put_other (fun e2 => e (lk_inj e2)), at_dOf, at_dOf, get_kput_other v e]
    · rw [atKey_put_other (ho n), atKey_of_not_has (has_other _ _ ho), atKey_of_not_has (has_other _ _ ho)]
theorem del_dOf {kv : KV} (h : Srt kv) (n : ByteArray) (c : Canon ((dOf kv).del (lk n))) : (dOf kv).del (lk n) = dOf (del kv n) := by
  refine ext c (canon_dOf (srt_del h n)) (fun k => ?_) (fun k z _ => ?_)
  · rcases lit_cases k with ⟨m, rfl⟩ | ho
    · by_cases e : m = n
      · subst e; rw [has_del_same, has_dOf, get_del_same]; rfl
      · rw [has_del_other (fun e2 => e (lk_inj e2)), has_dOf, has_dOf, get_del_other e]
    · rw [has_del_other (ho n), has_other _ _ ho, has_other _ _ ho]
  · rcases lit_cases k with ⟨m, rfl⟩ | ho
    · by_cases e : m = n
      · subst e; rw [atKey_del_same, at_dOf, get_del_same]
      · rw [atKey_del_other (fun e2 => e (lk_inj e2)), at_dOf, at_dOf, get_del_other e]
    · rw [atKey_del_other (ho n), atKey_of_not_has (has_other _ _ ho), atKey_of_not_has (has_other _ _ ho)]

/-- In w block b is a map that holds kv: keys of type K, texts. -/
structure SMap (P : Program) (K : TypeId) (w : World) (b : Nat) (kv : KV) : Prop where
  owns : w.ownsMap P K rv b kv.length (dOf kv)
  srt : Srt kv
theorem SMap.made (P : Program) (K : TypeId) (w : World) : SMap P K (w.alloc (.map #[] 0)) w.heap.size [] := ⟨World.ownsMap_made w P K rv, List.Pairwise.nil⟩
theorem SMap.lt {P : Program} {K : TypeId} {w : World} {b : Nat} {kv : KV} (h : SMap P K w b kv) : b < w.heap.size := h.owns.lt
theorem SMap.kept {P : Program} {K : TypeId} {w w' : World} {b : Nat} {kv : KV} (h : SMap P K w b kv) (hb : w'.heap[b]? = w.heap[b]?) : SMap P K w' b kv := by
  obtain ⟨es, clock, h1, F, hs, hD⟩ := h.owns
  exact ⟨⟨es, clock, hb.trans h1, F, hs, hD⟩, h.srt⟩
theorem SMap.below {P : Program} {K : TypeId} {w w' : World} {b : Nat} {kv : KV} (h : SMap P K w b kv) (hb : Below w.heap.size w w') : SMap P K w' b kv := h.kept (hb.block b h.lt)
/-- The bound is how many there are. -/
theorem owns_tight {P : Program} {K : TypeId} {w : World} {b n : Nat} {kv : KV} (h : w.ownsMap P K rv b n (dOf kv)) : w.ownsMap P K rv b kv.length (dOf kv) := by
  obtain ⟨es, clock, h1, F, hs, hD⟩ := h
  refine ⟨es, clock, h1, F, ?_, hD⟩
  have h2 := congrArg Maps.size hD
  simp only [dOf, Maps.size, List.length_map, length_sorted, Array.length_toList] at h2
  omega

section
variable {P : Program} {K : TypeId} (hK : P.underlying K = some .string) {w : World} {b : Nat} {kv : KV} (h : SMap P K w b kv) {t e : TypeId} (ht : P.underlying t = some (.map K e))
include hK h ht
/-- 'v, ok := m[n]'. -/
theorem SMap.look_ok {z : Value} (hz : (zeroValue e).run P w = .ok z w) (n : ByteArray) (hn : n.size ≤ maxLen) : (Instr.lookup t (.map (some b)) (.string n) true).run P w = .ok (.tuple #[(get kv n).getD z, .bool (get kv n).isSome]) w := by
  obtain ⟨v, ps, hrun, hv⟩ := h.owns.look_ok (string_keyed hK) ht hz (zd := .held z) (zp := []) rfl (WideMaps.keyOf_string_mk hK hn)
  have hv' : v = (get kv n).getD z := by
    have e2 := at_dOf n (.held z) kv
    simp only [rv, Option.some.injEq, Prod.mk.injEq] at hv
    rw [show (Lit.string n.data.toList) = lk n from rfl, e2] at hv
    cases hg : get kv n with
    | none => rw [hg] at hv; simpa using hv.1
    | some u => rw [hg] at hv; simpa using hv.1
  rw [hrun, hv', show (Lit.string n.data.toList) = lk n from rfl, has_dOf]
/-- 'm[n]'. -/
theorem SMap.look {z : Value} (hz : (zeroValue e).run P w = .ok z w) (n : ByteArray) (hn : n.size ≤ maxLen) : (Instr.lookup t (.map (some b)) (.string n) false).run P w = .ok ((get kv n).getD z) w := by
  obtain ⟨v, ps, hrun, hv⟩ := h.owns.lookup (string_keyed hK) ht hz (zd := .held z) (zp := []) rfl (WideMaps.keyOf_string_mk hK hn)
  have hv' : v = (get kv n).getD z := by
    have e2 := at_dOf n (.held z) kv
    simp only [rv, Option.some.injEq, Prod.mk.injEq] at hv
    rw [show (Lit.string n.data.toList) = lk n from rfl, e2] at hv
    cases hg : get kv n with
    | none => rw [hg] at hv; simpa using hv.1
    | some u => rw [hg] at hv; simpa using hv.1
  rw [hrun, hv']
/-- 'm[n] = v'. -/
theorem SMap.store (hl : kv.length < maxLen) (n : ByteArray) (hn : n.size ≤ maxLen) (v : Value) : ∃ w', (Instr.mapUpdate t (.map (some b)) (.string n) v).run P w = .ok () w' ∧ SMap P K w' b (kput kv n v) ∧ w.mapTurned w' b := by
  obtain ⟨w', hrun, ho, hm⟩ := h.owns.store (string_keyed hK) ht hl (WideMaps.keyOf_string_mk hK hn) (val := v) (d := .held v) (ps := []) rfl
  rw [show (Lit.string n.data.toList) = lk n from rfl] at ho
  have hc := ho.canon (string_keyed hK)
  rw [put_dOf h.srt n v hc] at ho
  exact ⟨w', hrun, ⟨owns_tight ho, srt_kput h.srt n v⟩, hm⟩
/-- 'delete(m, n)'. -/
theorem SMap.drop (n : ByteArray) (hn : n.size ≤ maxLen) (ty : TypeId) : ∃ w', (Builtin.delete_ #[t, K] ty #[.map (some b), .string n]).run P w = .ok (.tuple #[]) w' ∧ SMap P K w' b (del kv n) ∧ w.mapTurned w' b := by
  obtain ⟨w', hrun, ho, hm⟩ := h.owns.drop (string_keyed hK) ht (WideMaps.keyOf_string_mk hK hn) ty
  rw [show (Lit.string n.data.toList) = lk n from rfl] at ho
  have hc := ho.canon (string_keyed hK)
  rw [del_dOf h.srt n hc] at ho
  exact ⟨w', hrun, ⟨owns_tight ho, srt_del h.srt n⟩, hm⟩
omit hK in
/-- 'len(m)'. -/
theorem SMap.size (ty : TypeId) : (Builtin.len_ #[t] ty #[.map (some b)]).run P w = .ok (.int .i64 kv.length) w := by
  rw [h.owns.len ht ty]
  simp [dOf, Maps.size]
end

/-! ### at the operation -/
section
variable {P : Program} {K : TypeId} (hK : P.underlying K = some .string) {w : World} {b : Nat} {kv : KV} {t e : TypeId} (ht : P.underlying t = some (.map K e)) {ops : Array Oper} {rest : List Oper} {o : Oper} {a : Act} {Q : Exit → Act → World → Prop}
include hK ht
theorem wpList_smap_store (hg : o.guard = none) (m x v : Operand) (hop : o.op = Op.mapUpdate t m x v) (hm : a.eval m = .map (some b)) (h : SMap P K w b kv) (hl : kv.length < maxLen) (n : ByteArray) (hx : a.eval x = .string n) (hn : n.size ≤ maxLen) (val : Value) (hv : a.eval v = val)
    (hC : ∀ w', SMap P K w' b (kput kv n val) → w.mapTurned w' b → wpList P ops Q rest (a.put o.dst undef) w') : wpList P ops Q (o :: rest) a w := by
  refine wpList_plain hg fun K' hK' => ?_
  obtain ⟨w', hrun, r1, r2⟩ := h.store hK ht hl n hn val
  unfold Oper.wp
  simp [execOp, hop, hm, hx, hv, hrun, Result.andThen]
  exact hK' _ _ (hC w' r1 r2)
theorem wpList_smap_drop (hg : o.guard = none) (m x : Operand) (hop : o.op = Op.call { callee := Callee.builtin Builtin.delete, args := #[m, x], argTypes := #[t, K] }) (hm : a.eval m = .map (some b)) (h : SMap P K w b kv) (n : ByteArray) (hx : a.eval x = .string n) (hn : n.size ≤ maxLen)
    (hC : ∀ w', SMap P K w' b (del kv n) → w.mapTurned w' b → wpList P ops Q rest (a.put o.dst (.tuple #[])) w') : wpList P ops Q (o :: rest) a w := by
  refine wpList_plain hg fun K' hK' => ?_
  obtain ⟨w', hrun, r1, r2⟩ := h.drop hK ht n hn o.type
  unfold Oper.wp
  simp [execOp, hop, resolve, invoke, builtin, hm, hx, hrun, Result.andThen]
  exact hK' _ _ (hC w' r1 r2)
end

end Go.Proofs.YtikbokbmaihdbaaDoor
