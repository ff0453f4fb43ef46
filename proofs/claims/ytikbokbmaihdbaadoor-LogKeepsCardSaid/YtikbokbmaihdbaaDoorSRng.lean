/-
  'for n, v := range m' over a map with texts as keys: which names are still to come ('SRng').
-/
import Derived.Test.YtikbokbmaihdbaaDoorSMap
import Derived.Maps.RangeWalk
namespace Go.Proofs.YtikbokbmaihdbaaDoor
open Go.RowKit Go.Maps

theorem keyOf_text {P : Program} {K : TypeId} (hK : P.underlying K = some .string) {key : Value} {kl : Lit} (h : keyOf P K key = some kl) : ∃ x : ByteArray, key = .string x ∧ kl = lk x := by
  cases key <;> simp [keyOf, hK, mapKey] at h
  obtain ⟨_, rfl⟩ := h
  exact ⟨_, rfl, rfl⟩

/-- Without one. -/
def but (rest : List ByteArray) (n : ByteArray) : List ByteArray := rest.filter fun m => decide (m ≠ n)
theorem mem_but {rest : List ByteArray} {n m : ByteArray} : m ∈ but rest n ↔ m ∈ rest ∧ m ≠ n := by simp [but]
/-- An iterator at block r over the map at block b, which holds kv; the names of 'rest' are still to come. -/
structure SRng (P : Program) (K : TypeId) (w : World) (b r : Nat) (kv : KV) (rest : List ByteArray) (cnt : Nat) : Prop where
  srt : Srt kv
  nodup : rest.Nodup
  there : ∀ n ∈ rest, (get kv n).isSome = true
  runs : ∃ left, w.ranges P K rv b r kv.length (dOf kv) left cnt ∧ ∀ m : ByteArray, left (lk m) = true ↔ m ∈ rest
theorem SRng.map {P : Program} {K : TypeId} {w : World} {b r : Nat} {kv : KV} {rest : List ByteArray} {cnt : Nat} (h : SRng P K w b r kv rest cnt) : SMap P K w b kv := by
  obtain ⟨left, hr, _⟩ := h.runs
  exact ⟨hr.owns, h.srt⟩
theorem SRng.left {P : Program} {K : TypeId} {w : World} {b r : Nat} {kv : KV} {rest : List ByteArray} {cnt : Nat} (h : SRng P K w b r kv rest cnt) : w.rangeLeft b r = cnt := by
  obtain ⟨left, hr, _⟩ := h.runs
  exact hr.left_eq
theorem SRng.kept {P : Program} {K : TypeId} {w w' : World} {row : Option Nat} {b r : Nat} {kv : KV} {rest : List ByteArray} {cnt : Nat} (h : SRng P K w b r kv rest cnt) (hg : w.grownBy w' row) (hb : some b ≠ row) (hr : some r ≠ row) : SRng P K w' b r kv rest cnt := by
  obtain ⟨left, h1, h2⟩ := h.runs
  exact ⟨h.srt, h.nodup, h.there, left, h1.kept hg hb hr, h2⟩
theorem SRng.below {P : Program} {K : TypeId} {w w' : World} {b r : Nat} {kv : KV} {rest : List ByteArray} {cnt : Nat} (h : SRng P K w b r kv rest cnt) (hb : Below w.heap.size w w') : SRng P K w' b r kv rest cnt :=
  h.kept (row := none) ⟨hb.os, hb.tape, hb.output, hb.size, fun k hk _ => hb.block k hk⟩ (by simp) (by simp)
theorem names_nodup {α : Type} {kv : List (ByteArray × α)} (h : Srt kv) : (names kv).Nodup := by
  rw [srt_names] at h
  exact h.imp (fun hab => bl_ne hab)
theorem sum_but {f : ByteArray → Nat} : ∀ {rest : List ByteArray} {n : ByteArray}, rest.Nodup → n ∈ rest → (rest.map f).sum = f n + ((but rest n).map f).sum
  | m :: r, n, hd, hn => by
    have hd' := List.nodup_cons.1 hd
    simp only [but, List.filter_cons]
    by_cases e : m = n
    · subst e
      have hr : r.filter (fun q => decide (q ≠ m)) = r := by
        rw [List.filter_eq_self]
        intro q hq
        simp only [ne_eq, decide_eq_true_eq]
        exact fun e2 => hd'.1 (e2 ▸ hq)
      rw [if_neg (by simp), hr]
      simp
    · have hn' : n ∈ r := by
        rcases List.mem_cons.1 hn with h | h
        · exact absurd h.symm e
        · exact h
      rw [if_pos (by simp [e])]
      have ih := sum_but (f := f) hd'.2 hn'
      simp only [but] at ih
      simp only [List.map_cons, List.sum_cons]
      omega
theorem len_but {rest : List ByteArray} {n : ByteArray} (hd : rest.Nodup) (hn : n ∈ rest) : rest.length = 1 + (but rest n).length := by
  have h1 : ∀ l : List ByteArray, (l.map fun _ => 1).sum = l.length := fun l => by induction l with
    | nil => rfl
    | cons a l ih => simp only [List.map_cons, List.sum_cons, List.length_cons, ih]; omega
  have := sum_but (f := fun _ => 1) hd hn
  rw [h1, h1] at this
  exact this

section
variable {P : Program} {K : TypeId} (hK : P.underlying K = some .string) {w : World} {ops : Array Oper} {rest' : List Oper} {o : Oper} {a : Act} {Q : Exit → Act → World → Prop}
include hK
theorem wpList_smap_range {t e : TypeId} (ht : P.underlying t = some (.map K e)) (hg : o.guard = none) (m : Operand) (hop : o.op = Op.range t m) {b : Nat} {kv : KV} (hm : a.eval m = .map (some b)) (h : SMap P K w b kv)
    (hC : ∀ w' cnt, SRng P K w' b w.heap.size kv (names kv) cnt → w.grownBy w' none → w'.heap.size = w.heap.size + 1 → wpList P ops Q rest' (a.put o.dst (.pointer (some ⟨w.heap.size, 0, none⟩))) w') : wpList P ops Q (o :: rest') a w := by
  refine wpList_range_own w hg m t hop K e (string_keyed hK) ht rv b kv.length (dOf kv) hm h.owns ?_
  intro w' hr hg' hs
  refine hC w' _ ⟨h.srt, names_nodup h.srt, fun n hn => ?_, _, hr, fun n => ?_⟩ hg' hs
  · cases hq : get kv n with
    | none => exact absurd hn (get_none.1 hq)
    | some v => rfl
  · rw [has_dOf]
    constructor
    · intro h1
      by_cases hm : n ∈ names kv
      · exact hm
      · rw [get_none.2 hm] at h1; cases h1
    · intro h1
      cases hq : get kv n with
      | none => exact absurd h1 (get_none.1 hq)
      | some v => rfl
theorem wpList_smap_next (hg : o.guard = none) (it : Operand) (hop : o.op = Op.next it false) {b r : Nat} {kv : KV} {rest : List ByteArray} {cnt : Nat} (hit : a.eval it = .pointer (some ⟨r, 0, none⟩)) (h : SRng P K w b r kv rest cnt)
    (hDone : rest = [] → wpList P ops Q rest' (a.put o.dst (.tuple #[.bool false])) w)
    (hMore : ∀ (n : ByteArray) (v : Value) (w' : World) (cnt' : Nat), n ∈ rest → get kv n = some v → SRng P K w' b r kv (but rest n) cnt' → cnt' < cnt → w.grownBy w' (some r) → w'.heap.size = w.heap.size →
      (Instr.entry (.pointer (some ⟨r, 0, none⟩))).run P w' = .ok (.tuple #[.string n, v]) w' → wpList P ops Q rest' (a.put o.dst (.tuple #[.bool true, .string n, v])) w') : wpList P ops Q (o :: rest') a w := by
  obtain ⟨left, hr, hl⟩ := h.runs
  refine wpList_next_ranges w hg it hop K (string_keyed hK) rv Value.string id (fun key kl hk => by obtain ⟨x, rfl, _⟩ := keyOf_text hK hk; exact ⟨x, rfl⟩) (fun v _ _ => ⟨v, rfl⟩) b r kv.length (dOf kv) left cnt hit hr ?_ ?_
  · intro _ hnone
    refine hDone ?_
    cases rest with
    | nil => rfl
    | cons n _ =>
      have := (hl n).2 List.mem_cons_self
      rw [hnone] at this
      cases this
  · intro n v kl y w' cnt' hkey hlk hv hat hrg hlt hgr hsz hen
    obtain ⟨x, ex, rfl⟩ := keyOf_text hK hkey
    cases ex
    have hn : n ∈ rest := (hl n).1 hlk
    simp only [rv, id, Option.some.injEq] at hv
    have hgv : get kv n = some v := by
      obtain ⟨u, hu⟩ := Option.isSome_iff_exists.1 (h.there n hn)
      have h1 := hat .nil
      rw [at_dOf, hu, ← hv] at h1
      simp only [DataW.held.injEq] at h1
      rw [hu, h1]
    refine hMore n v w' cnt' hn hgv ⟨h.srt, h.nodup.sublist List.filter_sublist, fun m hm => h.there m (mem_but.1 hm).1, _, hrg, fun m => ?_⟩ hlt hgr hsz hen
    simp only [same_lk, Bool.and_eq_true, Bool.not_eq_true', decide_eq_false_iff_not, mem_but]
    rw [hl]
end

end Go.Proofs.YtikbokbmaihdbaaDoor
