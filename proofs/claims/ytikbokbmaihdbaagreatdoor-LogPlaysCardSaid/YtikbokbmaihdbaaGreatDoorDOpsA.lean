/-
  Layer 7: the program's small functions: unmade, still, burn, find, open; a file's cut.
  'for n, v := range m' over a map with texts as keys: which names are still to come ('SRng').
  Layer 7: New, Room, Loose, Read, Fuse, at a disk that New made and at none.
-/
import Derived.Test.YtikbokbmaihdbaaGreatDoorDMem
import Derived.WalkKit
import Derived.BigCall
import Derived.Lib.Hide
import Derived.IntWalk
import Derived.Maps.RangeWalk
import Derived.WalkMore
import Derived.Deep.LoopGhost
import Derived.Laws.BytesString
import Derived.Laws.BytesArg
namespace Go.Proofs.YtikbokbmaihdbaaGreatDoor
open Go.RowKit Go.Maps

section
variable {w : World} {g room b : Nat} {z : Option Nat} {P : ByteArray → Nat} {V : ByteArray → Value} {fs : List (ByteArray × Fil)}

theorem unmade_at (h : DHead w g room b z) : Calls Tryz.prog 51 #[ptr g] w fun e w' => e = .returned (.bool false) ∧ w = w' := by
  have c0 := h.c0
  go_enter Tryz.func51, Tryz.ntmps51
  go_wp2_with fail
  go_ret
  exact ⟨rfl, rfl⟩
theorem unmade_nil (w : World) : Calls Tryz.prog 51 #[.pointer none] w fun e w' => e = .returned (.bool true) ∧ w = w' := by
  go_enter Tryz.func51, Tryz.ntmps51
  go_wp2_with fail
  go_ret
  exact ⟨rfl, rfl⟩
theorem still_at (h : DHead w g room b z) : Calls Tryz.prog 55 #[ptr g] w fun e w' => e = .returned (.bool (decide (z = some 0))) ∧ w = w' := by
  have c3 := h.c3
  have c4 := h.c4
  cases z with
  | none =>
    simp only [Option.isSome_none, Option.getD_none] at c3 c4
    go_enter Tryz.func55, Tryz.ntmps55
    go_wp2_with fail
    go_ret
    exact ⟨rfl, rfl⟩
  | some k =>
    simp only [Option.isSome_some, Option.getD_some] at c3 c4
    cases k with
    | zero =>
      go_enter Tryz.func55, Tryz.ntmps55
      go_wp2_with fail
      go_ret
      exact ⟨rfl, rfl⟩
    | succ k =>
      have hk : (((k + 1 : Nat) : Int) == 0) = false := by rw [beq_eq_false_iff_ne]; omega
      go_enter Tryz.func55, Tryz.ntmps55
      go_wp2_with fail
      go_ret
      exact ⟨by simp; omega, rfl⟩
theorem burn_at (h : DHead w g room b z) (hz : z ≠ some 0) (hw : ∀ k, z = some k → k ≤ 9223372036854775807) : Calls Tryz.prog 56 #[ptr g] w fun e w' => e = .returned (.tuple #[]) ∧ DHead w' g room b (z.map (· - 1)) ∧ Only (fun k => k = g) w w' ∧ w'.heap.size = w.heap.size := by
  have c3 := h.c3
  have c4 := h.c4
  have f4 := h.fr 4
  cases z with
  | none =>
    simp only [Option.isSome_none, Option.getD_none] at c3 c4
    go_enter Tryz.func56, Tryz.ntmps56
    go_wp2_with fail
    go_end0
    exact ⟨rfl, h, Only.refl _ _, rfl⟩
  | some k =>
    cases k with
    | zero => exact absurd rfl hz
    | succ k =>
      have hle := hw _ rfl
      simp only [Option.isSome_some, Option.getD_some] at c3 c4
      have h' : w.heap[g]? = _ := h
      have hs := heap_set (i := 4) h' (.int .i64 (k : Nat))
      have e1 : (((k + 1 : Nat) : Int) - 1) = (k : Nat) := by omega
      go_enter Tryz.func56, Tryz.ntmps56
      go_wp2_with fail
      go_end0
      refine ⟨rfl, ?_, Only.set w g 4 _, by simp⟩
      unfold DHead
      exact hs
theorem find_at (h : DHead w g room b z) (hl : Lay w b P V fs) (n : ByteArray) (hn : n.size ≤ maxLen) : Calls Tryz.prog 53 #[ptr g, .string n] w fun e w' =>
    e = .returned (.tuple #[match get fs n with | some _ => ptr (P n) | none => .pointer none, .int .i64 (match get fs n with | some _ => 0 | none => 5)]) ∧ w = w' := by
  have c2 := h.c2
  have hlk := hl.map.look Tryz.underlying9 Tryz.underlying56 (Tryz.zeroValue89 w) n hn
  rw [get_kvOf] at hlk
  cases hg : get fs n with
  | none =>
    rw [hg] at hlk
    simp only [Option.map_none, Option.getD_none] at hlk
    go_enter Tryz.func53, Tryz.ntmps53
    go_wp2_with (go_at_call 51; refine (unmade_at h).mono ?_; rintro e w' ⟨rfl, rfl⟩)
    go_ret2
    exact ⟨rfl, rfl⟩
  | some f =>
    rw [hg] at hlk
    simp only [Option.map_some, Option.getD_some] at hlk
    go_enter Tryz.func53, Tryz.ntmps53
    go_wp2_with (go_at_call 51; refine (unmade_at h).mono ?_; rintro e w' ⟨rfl, rfl⟩)
    go_ret2
    exact ⟨rfl, rfl⟩
theorem find_nil (n : ByteArray) (w : World) : Calls Tryz.prog 53 #[.pointer none, .string n] w fun e w' => e = .returned (.tuple #[.pointer none, .int .i64 1]) ∧ w = w' := by
  go_enter Tryz.func53, Tryz.ntmps53
  go_wp2_with (go_at_call 51; refine (unmade_nil _).mono ?_; rintro e w' ⟨rfl, rfl⟩)
  go_ret2
  exact ⟨rfl, rfl⟩
theorem open_down (h : DHead w g room b z) (n : ByteArray) (hz : z = some 0) : Calls Tryz.prog 59 #[ptr g, .string n] w fun e w' => e = .returned (.tuple #[.pointer none, .int .i64 70]) ∧ w = w' := by
  have K := still_at h
  rw [decide_eq_true hz] at K
  go_enter Tryz.func59, Tryz.ntmps59
  go_wp2_with (first
    | (go_at_call 51; refine (unmade_at h).mono ?_; rintro e w' ⟨rfl, rfl⟩)
    | (go_at_call 55; refine K.mono ?_; rintro e w' ⟨rfl, rfl⟩))
  go_ret2
  exact ⟨rfl, rfl⟩
theorem open_at (h : DHead w g room b z) (hl : Lay w b P V fs) (n : ByteArray) (hn : n.size ≤ maxLen) (hz : z ≠ some 0) : Calls Tryz.prog 59 #[ptr g, .string n] w fun e w' =>
    e = .returned (.tuple #[match get fs n with | some _ => ptr (P n) | none => .pointer none, .int .i64 (match get fs n with | some _ => 0 | none => 5)]) ∧ w = w' := by
  have K := still_at h
  rw [decide_eq_false hz] at K
  have K2 := find_at h hl n hn
  obtain ⟨v1, hv1⟩ : ∃ v1, (match get fs n with | some _ => ptr (P n) | none => .pointer none) = v1 := ⟨_, rfl⟩
  obtain ⟨v2, hv2⟩ : ∃ v2 : Int, (match get fs n with | some _ => 0 | none => 5) = v2 := ⟨_, rfl⟩
  rw [hv1, hv2] at K2 ⊢
  clear hv1 hv2
  go_enter Tryz.func59, Tryz.ntmps59
  go_wp2_with (first
    | (go_at_call 51; refine (unmade_at h).mono ?_; rintro e w' ⟨rfl, rfl⟩)
    | (go_at_call 55; refine K.mono ?_; rintro e w' ⟨rfl, rfl⟩)
    | (go_at_call 53; refine K2.mono ?_; rintro e w' ⟨rfl, rfl⟩))
  go_ret2
  exact ⟨rfl, rfl⟩
theorem open_nil (n : ByteArray) (w : World) : Calls Tryz.prog 59 #[.pointer none, .string n] w fun e w' => e = .returned (.tuple #[.pointer none, .int .i64 1]) ∧ w = w' := by
  go_enter Tryz.func59, Tryz.ntmps59
  go_wp2_with (first
    | (go_at_call 51; refine (unmade_nil _).mono ?_; rintro e w' ⟨rfl, rfl⟩)
    | (go_at_call 53; refine (find_nil n _).mono ?_; rintro e w' ⟨rfl, rfl⟩))
  go_ret2
  exact ⟨rfl, rfl⟩
end

/-- A file cut: its first k bytes, all fast. -/
theorem fcut_at {w : World} {p : Nat} {v : Value} {f : Fil} (h : File w p v f) (k : Nat) (hk : k ≤ f.text.size) (hp : v.ownBlock ≠ some p) : Calls Tryz.prog 52 #[ptr p, .int .i64 (k : Nat)] w fun e w' =>
    e = .returned (.tuple #[]) ∧ File w' p (cutV v k) ⟨f.text.extract 0 k, 0, false⟩ ∧ Only (fun j => j = p) w w' ∧ w'.heap.size = w.heap.size := by
  obtain ⟨A, c, hv, hc, hm⟩ := h.slice
  have c0 := h.c0
  have f0 := h.fr 0
  have f1 := h.fr 1
  have f2 := h.fr 2
  have hh := h.head
  have h1 := heap_set (i := 0) hh (cutV v k)
  have h2 := heap_set (i := 1) h1 (.int .i64 0)
  have h3 := heap_set (i := 2) h2 (.bool false)
  have hcut : cutV v k = .slice A k c := by rw [hv]; rfl
  have hown : ∀ {j : Nat}, (Value.slice A k c).ownBlock = some j → v.ownBlock = some j := fun hj => by rw [← hcut, cutV_own] at hj; exact hj
  rw [hcut] at h1 h2 h3 ⊢
  have c1' : (w.setCell ⟨p, 0, none⟩ (.slice A k c)).cell? ⟨p, 1, none⟩ = some (.int .i64 (f.loose : Nat)) := by rw [cell_hp h1]; rfl
  have c2' : ((w.setCell ⟨p, 0, none⟩ (.slice A k c)).setCell ⟨p, 1, none⟩ (.int .i64 0)).cell? ⟨p, 2, none⟩ = some (.bool f.fresh) := by rw [cell_hp h2]; rfl
  have hkc : (k : Int) ≤ c := by omega
  have HR := Lib.hid (row_cut h.row hk)
  rw [hcut] at HR
  have HH := Lib.hid h3
  rw [hv] at c0
  clear hv h1 h2 h3 hh
  go_enter Tryz.func52, Tryz.ntmps52
  go_wp2_with fail
  go_end0
  refine ⟨rfl, ⟨HH.out, row_kept HR.out (fun j hj => ?_)⟩, ?_, by simp⟩
  · rw [Below.heap_setCell _ _ _ _ (by show j ≠ p; rintro rfl; exact hp (hown hj)), Below.heap_setCell _ _ _ _ (by show j ≠ p; rintro rfl; exact hp (hown hj)), Below.heap_setCell _ _ _ _ (by show j ≠ p; rintro rfl; exact hp (hown hj))]
  · exact ((Only.set w p 0 _).trans (Only.set _ p 1 _) (fun i hi => Or.inl hi)).trans (Only.set _ p 2 _) (fun i hi => Or.inl hi)

end Go.Proofs.YtikbokbmaihdbaaGreatDoor

namespace Go.Proofs.YtikbokbmaihdbaaGreatDoor
open Go.RowKit Go.Maps

theorem keyOf_text {P : Program} {K : TypeId} (hK : P.underlying K = some .string) {key : Value} {kl : Lit} (h : keyOf P K key = some kl) : ∃ x : ByteArray, key = .string x ∧ kl = lk x := by
  cases key <;> simp [keyOf, hK, mapKey] at h
  obtain ⟨_, rfl⟩ := h
  exact ⟨_, rfl, rfl⟩

/-- Without one. -/
def but (rest : List ByteArray) (n : ByteArray) : List ByteArray := rest.filter fun m => decide (m ≠ n)
theorem mem_but {rest : List ByteArray} {n m : ByteArray} : m ∈ but rest n ↔ m ∈ rest ∧ m ≠ n := by simp [but]
/-- An iterator at block r over the map at block b, which holds kv; the names of 'rest' are still to come. -/
structure SRng (P : Program) (K : TypeId) (w : World) (b r : Nat) (kv : KV) (rest : List ByteArray) (cnt : Nat) : Prop where
  srt : Srt kv
  nodup : rest.Nodup
  there : ∀ n ∈ rest, (get kv n).isSome = true
  runs : ∃ left, w.ranges P K rv b r kv.length (dOf kv) left cnt ∧ ∀ m : ByteArray, left (lk m) = true ↔ m ∈ rest
theorem SRng.map {P : Program} {K : TypeId} {w : World} {b r : Nat} {kv : KV} {rest : List ByteArray} {cnt : Nat} (h : SRng P K w b r kv rest cnt) : SMap P K w b kv := by
  obtain ⟨left, hr, _⟩ := h.runs
  exact ⟨hr.owns, h.srt⟩
theorem SRng.left {P : Program} {K : TypeId} {w : World} {b r : Nat} {kv : KV} {rest : List ByteArray} {cnt : Nat} (h : SRng P K w b r kv rest cnt) : w.rangeLeft b r = cnt := by
  obtain ⟨left, hr, _⟩ := h.runs
  exact hr.left_eq
theorem SRng.kept {P : Program} {K : TypeId} {w w' : World} {row : Option Nat} {b r : Nat} {kv : KV} {rest : List ByteArray} {cnt : Nat} (h : SRng P K w b r kv rest cnt) (hg : w.grownBy w' row) (hb : some b ≠ row) (hr : some r ≠ row) : SRng P K w' b r kv rest cnt := by
  obtain ⟨left, h1, h2⟩ := h.runs
  exact ⟨h.srt, h.nodup, h.there, left, h1.kept hg hb hr, h2⟩
theorem SRng.below {P : Program} {K : TypeId} {w w' : World} {b r : Nat} {kv : KV} {rest : List ByteArray} {cnt : Nat} (h : SRng P K w b r kv rest cnt) (hb : Below w.heap.size w w') : SRng P K w' b r kv rest cnt :=
  h.kept (row := none) ⟨hb.os, hb.tape, hb.output, hb.size, fun k hk _ => hb.block k hk⟩ (by simp) (by simp)
theorem names_nodup {α : Type} {kv : List (ByteArray × α)} (h : Srt kv) : (names kv).Nodup := by
  rw [srt_names] at h
  exact h.imp (fun hab => bl_ne hab)
theorem sum_but {f : ByteArray → Nat} : ∀ {rest : List ByteArray} {n : ByteArray}, rest.Nodup → n ∈ rest → (rest.map f).sum = f n + ((but rest n).map f).sum
  | m :: r, n, hd, hn => by
    have hd' := List.nodup_cons.1 hd
    simp only [but, List.filter_cons]
    by_cases e : m = n
    · subst e
      have hr : r.filter (fun q => decide (q ≠ m)) = r := by
        rw [List.filter_eq_self]
        intro q hq
        simp only [ne_eq, decide_eq_true_eq]
        exact fun e2 => hd'.1 (e2 ▸ hq)
      rw [if_neg (by simp), hr]
      simp
    · have hn' : n ∈ r := by
        rcases List.mem_cons.1 hn with h | h
        · exact absurd h.symm e
        · exact h
      rw [if_pos (by simp [e])]
      have ih := sum_but (f := f) hd'.2 hn'
      simp only [but] at ih
      simp only [List.map_cons, List.sum_cons]
      omega
theorem len_but {rest : List ByteArray} {n : ByteArray} (hd : rest.Nodup) (hn : n ∈ rest) : rest.length = 1 + (but rest n).length := by
  have h1 : ∀ l : List ByteArray, (l.map fun _ => 1).sum = l.length := fun l => by induction l with
    | nil => rfl
    | cons a l ih => simp only [List.map_cons, List.sum_cons, List.length_cons, ih]; omega
  have := sum_but (f := fun _ => 1) hd hn
  rw [h1, h1] at this
  exact this

section
variable {P : Program} {K : TypeId} (hK : P.underlying K = some .string) {w : World} {ops : Array Oper} {rest' : List Oper} {o : Oper} {a : Act} {Q : Exit → Act → World → Prop}
include hK
theorem wpList_smap_range {t e : TypeId} (ht : P.underlying t = some (.map K e)) (hg : o.guard = none) (m : Operand) (hop : o.op = Op.range t m) {b : Nat} {kv : KV} (hm : a.eval m = .map (some b)) (h : SMap P K w b kv)
    (hC : ∀ w' cnt, SRng P K w' b w.heap.size kv (names kv) cnt → w.grownBy w' none → w'.heap.size = w.heap.size + 1 → wpList P ops Q rest' (a.put o.dst (.pointer (some ⟨w.heap.size, 0, none⟩))) w') : wpList P ops Q (o :: rest') a w := by
  refine wpList_range_own w hg m t hop K e (string_keyed hK) ht rv b kv.length (dOf kv) hm h.owns ?_
  intro w' hr hg' hs
  refine hC w' _ ⟨h.srt, names_nodup h.srt, fun n hn => ?_, _, hr, fun n => ?_⟩ hg' hs
  · cases hq : get kv n with
    | none => exact absurd hn (get_none.1 hq)
    | some v => rfl
  · rw [has_dOf]
    constructor
    · intro h1
      by_cases hm : n ∈ names kv
      · exact hm
      · rw [get_none.2 hm] at h1; cases h1
    · intro h1
      cases hq : get kv n with
      | none => exact absurd h1 (get_none.1 hq)
      | some v => rfl
theorem wpList_smap_next (hg : o.guard = none) (it : Operand) (hop : o.op = Op.next it false) {b r : Nat} {kv : KV} {rest : List ByteArray} {cnt : Nat} (hit : a.eval it = .pointer (some ⟨r, 0, none⟩)) (h : SRng P K w b r kv rest cnt)
    (hDone : rest = [] → wpList P ops Q rest' (a.put o.dst (.tuple #[.bool false])) w)
    (hMore : ∀ (n : ByteArray) (v : Value) (w' : World) (cnt' : Nat), n ∈ rest → get kv n = some v → SRng P K w' b r kv (but rest n) cnt' → cnt' < cnt → w.grownBy w' (some r) → w'.heap.size = w.heap.size →
      (Instr.entry (.pointer (some ⟨r, 0, none⟩))).run P w' = .ok (.tuple #[.string n, v]) w' → wpList P ops Q rest' (a.put o.dst (.tuple #[.bool true, .string n, v])) w') : wpList P ops Q (o :: rest') a w := by
  obtain ⟨left, hr, hl⟩ := h.runs
  refine wpList_next_ranges w hg it hop K (string_keyed hK) rv Value.string id (fun key kl hk => by obtain ⟨x, rfl, _⟩ := keyOf_text hK hk; exact ⟨x, rfl⟩) (fun v _ _ => ⟨v, rfl⟩) b r kv.length (dOf kv) left cnt hit hr ?_ ?_
  · intro _ hnone
    refine hDone ?_
    cases rest with
    | nil => rfl
    | cons n _ =>
      have := (hl n).2 List.mem_cons_self
      rw [hnone] at this
      cases this
  · intro n v kl y w' cnt' hkey hlk hv hat hrg hlt hgr hsz hen
    obtain ⟨x, ex, rfl⟩ := keyOf_text hK hkey
    cases ex
    have hn : n ∈ rest := (hl n).1 hlk
    simp only [rv, id, Option.some.injEq] at hv
    have hgv : get kv n = some v := by
      obtain ⟨u, hu⟩ := Option.isSome_iff_exists.1 (h.there n hn)
      have h1 := hat .nil
      rw [at_dOf, hu, ← hv] at h1
      simp only [DataW.held.injEq] at h1
      rw [hu, h1]
    refine hMore n v w' cnt' hn hgv ⟨h.srt, h.nodup.sublist List.filter_sublist, fun m hm => h.there m (mem_but.1 hm).1, _, hrg, fun m => ?_⟩ hlt hgr hsz hen
    simp only [same_lk, Bool.and_eq_true, Bool.not_eq_true', decide_eq_false_iff_not, mem_but]
    rw [hl]
end

end Go.Proofs.YtikbokbmaihdbaaGreatDoor

namespace Go.Proofs.YtikbokbmaihdbaaGreatDoor
open Go.RowKit Go.Maps Go.Lib

theorem New_any (room : Nat) (w : World) (hr : room ≤ 4194304) : Calls Tryz.prog 6 #[.int .i64 room] w (Made TheDisk w (fun v => .tuple #[v, .int .i64 0]) ⟨room, none, []⟩) := by
  have d1 : decide ((room : Int) < 0) = false := by simp
  have d2 : decide ((4194304 : Int) < (room : Int)) = false := by simp; omega
  have hmk := run_makeMap (P := Tryz.prog) 56 w
  go_enter Tryz.func6, Tryz.ntmps6
  go_wp2_with fail
  go_ret2
  refine ⟨_, _, rfl, ⟨Inv.fresh hr, (fun k hk => by cases hk), w.heap.size, fun _ => 0, fun _ => .pointer none, ?_, ⟨?_, (fun n f hf => by cases hf), (fun n hn => by cases hn), (fun n hn => by cases hn)⟩, fun k => Iff.rfl⟩, ?_, ((Below.refl _ w).alloc (Nat.le_refl _) _).alloc (by simp) _⟩
  · have e : (w.alloc (.map #[] 0)).heap.size = w.heap.size + 1 := by simp
    have k := heap_alloc_new (w.alloc (.map #[] 0)) (.cells #[.bool true, .int .i64 (room : Nat), .map (some w.heap.size), .bool false, .int .i64 0] 58)
    rw [e] at k
    exact k
  · exact (SMap.made Tryz.prog 9 w).below ((Below.refl _ _).alloc (Nat.le_refl _) _)
  · rintro k (rfl | rfl | ⟨n, hn, _⟩)
    · simp
    · exact Nat.le_refl _
    · cases hn

def szOf (fs : List (ByteArray × Fil)) (n : ByteArray) : Nat := match get fs n with | some f => f.text.size | none => 0
theorem used_names {fs : List (ByteArray × Fil)} (h : Srt fs) : used fs = ((names fs).map (szOf fs)).sum := by
  unfold used names
  rw [List.map_map]
  congr 1
  apply List.map_congr_left
  intro p hp
  simp only [Function.comp, szOf, get_of_mem h hp]

section
variable {w : World} {g room b : Nat} {z : Option Nat} {P : ByteArray → Nat} {V : ByteArray → Value} {fs : List (ByteArray × Fil)}

theorem Lay.srt (h : Lay w b P V fs) : Srt fs := by
  have := h.map.srt
  rw [srt_names, names_kvOf, ← srt_names] at this
  exact this
set_option maxHeartbeats 1000000 in
theorem room_any (h : DHead w g room b z) (hl : Lay w b P V fs) (hu : used fs ≤ room) (hm : room ≤ 4194304) : Calls Tryz.prog 48 #[ptr g] w fun e w' => e = .returned (.int .i64 ((room - used fs : Nat) : Int)) ∧ Below w.heap.size w w' := by
  have c1 := h.c1
  have c2 := h.c2
  have HL := Lib.hid hl
  have HU := Lib.hid (used_names hl.srt)
  have HM := hl.map
  clear hl
  go_enter Tryz.func48, Tryz.ntmps48
  go_wp2_with (first
    | (go_at_call 51; refine (unmade_at h).mono ?_; rintro e w' ⟨rfl, rfl⟩)
    | (at_range; refine wpList_smap_range Tryz.underlying9 Tryz.underlying56 rfl _ rfl rfl HM ?_; intro w1 cnt1 hrg1 hg1 hs1))
  rw [names_kvOf] at hrg1
  have HR1 := Lib.hid hrg1
  have HB1 : Hid (Below w.heap.size w w1) := (Below.refl _ w).grown hg1 (Nat.le_refl _) (fun k hk => by cases hk)
  clear hrg1 hg1 hs1
  go_frame
  go_loopw [3] (fun rv wr => ∃ (rest : List ByteArray) (cnt a : Nat), rv = .int .i64 (a : Nat) ∧ a ≤ room ∧ Hid (a = room - used fs + (rest.map (szOf fs)).sum) ∧ Hid (SRng Tryz.prog 9 wr b w.heap.size (kvOf P fs) rest cnt) ∧ Hid (Below w.heap.size w wr)) (fun _ wr => wr.rangeLeft b w.heap.size)
  case atStart => exact ⟨names fs, cnt1, room, rfl, Nat.le_refl _, by have := HU.out; show _ = _; omega, HR1, HB1⟩
  case round =>
    obtain ⟨rest, cnt, a, rfl, ha, HA, HR, HB⟩ := hrel
    go_wp2_with (at_next; refine wpList_smap_next Tryz.underlying9 rfl _ rfl rfl HR.out ?_ ?_)
    · intro hnil
      subst hnil
      have e : a = room - used fs := by have := HA.out; simpa using this
      subst e
      go_wp2_with fail
      go_ret
      exact ⟨rfl, HB.out⟩
    · intro n v w2 cnt2 hn hgv hrg2 hlt hg2 hs2 hen
      have HB2 : Hid (Below w.heap.size w w2) := HB.out.grown hg2 HB.out.size (fun k hk => by cases hk; exact Nat.le_refl _)
      have HG := Lib.hid hgv
      have HR2 := Lib.hid hrg2
      have HN := Lib.hid hn
      have HLT := Lib.hid hlt
      clear hgv hrg2 hn hlt hg2 hs2
      rw [get_kvOf] at HG
      obtain ⟨f, hf⟩ : ∃ f, get fs n = some f := by
        have := HG.out
        cases hq : get fs n with
        | none => rw [hq] at this; cases this
        | some f => exact ⟨f, rfl⟩
      obtain rfl : v = ptr (P n) := by have := HG.out; rw [hf] at this; cases this; rfl
      have hF := (HL.out.below HB2.out).file n f hf
      obtain ⟨A, c, hv, _, _⟩ := hF.slice
      have c0 := hF.c0
      rw [hv] at c0
      have hsum := sum_but (f := szOf fs) HR.out.nodup HN.out
      have hsz : szOf fs n = f.text.size := by unfold szOf; rw [hf]
      rw [hsz] at hsum
      have hle : f.text.size ≤ a := by have := HA.out; omega
      have HS : Hid (a - f.text.size = room - used fs + ((but rest n).map (szOf fs)).sum) := by have := HA.out; show _ = _; omega
      clear hv hF hf hsum hsz
      go_wp2_with fail
      go_roundw
      case rel => exact ⟨but rest n, cnt2, a - f.text.size, by go_num, by omega, HS, HR2, HB2⟩
      case measure => rw [HR2.out.left, HR.out.left]; exact HLT.out

theorem loose_any (h : DHead w g room b z) (hl : Lay w b P V fs) (n : ByteArray) (hn : n.size ≤ maxLen) : Calls Tryz.prog 27 #[ptr g, .string n] w fun e w' => e = .returned (.int .i64 ((match get fs n with | some f => f.loose | none => 0 : Nat) : Int)) ∧ w = w' := by
  have K := find_at h hl n hn
  cases hg : get fs n with
  | none =>
    rw [hg] at K
    go_enter Tryz.func27, Tryz.ntmps27
    go_wp2_with (go_at_call 53; refine K.mono ?_; rintro e w' ⟨rfl, rfl⟩)
    go_ret
    exact ⟨rfl, rfl⟩
  | some f =>
    rw [hg] at K
    have c1 := (hl.file n f hg).c1
    go_enter Tryz.func27, Tryz.ntmps27
    go_wp2_with (go_at_call 53; refine K.mono ?_; rintro e w' ⟨rfl, rfl⟩)
    go_ret
    exact ⟨rfl, rfl⟩
theorem loose_nil (n : ByteArray) (w : World) : Calls Tryz.prog 27 #[.pointer none, .string n] w fun e w' => e = .returned (.int .i64 0) ∧ w = w' := by
  go_enter Tryz.func27, Tryz.ntmps27
  go_wp2_with (go_at_call 53; refine (find_nil n _).mono ?_; rintro e w' ⟨rfl, rfl⟩)
  go_ret
  exact ⟨rfl, rfl⟩
theorem room_nil (w : World) : Calls Tryz.prog 48 #[.pointer none] w fun e w' => e = .returned (.int .i64 0) ∧ w = w' := by
  go_enter Tryz.func48, Tryz.ntmps48
  go_wp2_with (go_at_call 51; refine (unmade_nil _).mono ?_; rintro e w' ⟨rfl, rfl⟩)
  go_ret
  exact ⟨rfl, rfl⟩

/-- 'string(f.bytes)'. -/
theorem file_conv {p : Nat} {v : Value} {f : Fil} (h : File w p v f) : (convert 75 9 v).run Tryz.prog w = .ok (.string f.text) w := by
  have hrow := h.row
  rcases h.row.2 with ⟨rfl, h0⟩ | ⟨q, cap, cur, rfl, _⟩
  · have e : f.text = ⟨#[]⟩ := by
      apply ByteArray.ext
      exact Array.eq_empty_of_size_eq_zero h0
    rw [e]
    have k := run_convert_bytes_nil (P := Tryz.prog) (w := w) 75 5 Tryz.underlying75 Tryz.underlying5 0 0
    exact k _ Tryz.underlying9
  · have k := run_convert_bytes_back w 75 9 5 ⟨q, 0, none⟩ cap f.text.data.toList Tryz.underlying75 Tryz.underlying5 Tryz.underlying9 (fun j hj => by
      refine hrow.cells (g := q) rfl j _ ?_
      simp only [strCells, List.getElem?_map, List.getElem?_eq_getElem hj, Option.map_some])
    have e : f.text.data.toList.length = f.text.size := by simp
    rw [e] at k
    simpa using k
theorem read_any (h : DHead w g room b z) (hl : Lay w b P V fs) (n : ByteArray) (hn : n.size ≤ maxLen) : Calls Tryz.prog 23 #[ptr g, .string n] w fun e w' =>
    e = .returned (.tuple #[.string (match get fs n with | some f => f.text | none => ⟨#[]⟩), .int .i64 ((match get fs n with | some _ => 0 | none => 5 : Nat) : Int)]) ∧ w = w' := by
  have K := find_at h hl n hn
  cases hg : get fs n with
  | none =>
    rw [hg] at K
    go_enter Tryz.func23, Tryz.ntmps23
    go_wp2_with (go_at_call 53; refine K.mono ?_; rintro e w' ⟨rfl, rfl⟩)
    go_ret2
    exact ⟨rfl, rfl⟩
  | some f =>
    rw [hg] at K
    have hF := hl.file n f hg
    have c0 := hF.c0
    have hcv := file_conv hF
    go_enter Tryz.func23, Tryz.ntmps23
    go_wp2_with (go_at_call 53; refine K.mono ?_; rintro e w' ⟨rfl, rfl⟩)
    go_ret2
    exact ⟨rfl, rfl⟩
theorem read_nil (n : ByteArray) (w : World) : Calls Tryz.prog 23 #[.pointer none, .string n] w fun e w' => e = .returned (.tuple #[.string ⟨#[]⟩, .int .i64 1]) ∧ w = w' := by
  go_enter Tryz.func23, Tryz.ntmps23
  go_wp2_with (go_at_call 53; refine (find_nil n _).mono ?_; rintro e w' ⟨rfl, rfl⟩)
  go_ret2
  exact ⟨rfl, rfl⟩
end

theorem fuse_any {O : Nat → Prop} {w : World} {g : Nat} {σ : Dsk} (k : Int) (hd : TheDisk O w g σ) (hk : (Lit.int .i64 k).wf = true) : Calls Tryz.prog 45 #[ptr g, .int .i64 k] w (Did TheDisk O w g (fuse σ k)) := by
  obtain ⟨hi, hz, b, P, V, h, hl, hO⟩ := hd
  unfold fuse
  by_cases hn : k < 0
  · rw [if_pos hn]
    have d1 : decide (k < 0) = true := by simpa using hn
    have HR := Lib.hid (did_of (er := 2) hO hi hz h hl (Only.refl O w) (fun k hk => Or.inl hk))
    go_enter Tryz.func45, Tryz.ntmps45
    go_wp2_with (go_at_call 51; refine (unmade_at h).mono ?_; rintro e w' ⟨rfl, rfl⟩)
    go_ret
    exact HR.out
  · rw [if_neg hn]
    have d1 : decide (k < 0) = false := by simpa using hn
    have hk2 : k ≤ 9223372036854775807 := by simp only [Lit.wf, Bool.and_eq_true, decide_eq_true_eq] at hk; exact hk.2
    have c3 := h.c3
    have f3 := h.fr 3
    have f4 := h.fr 4
    have h1 := heap_set (i := 3) h (.bool true)
    have h2 := heap_set (i := 4) h1 (.int .i64 k)
    have c4 : (w.setCell ⟨g, 3, none⟩ (.bool true)).cell? ⟨g, 4, none⟩ = some (.int .i64 ((σ.fuse.getD 0 : Nat) : Int)) := by rw [cell_hp h1]; rfl
    have hk3 : ((k.toNat : Nat) : Int) = k := by omega
    have HR : Hid (Did TheDisk O w g (⟨σ.room, some k.toNat, σ.fs⟩, 0) (.returned (.int .i64 (0 : Nat))) ((w.setCell ⟨g, 3, none⟩ (.bool true)).setCell ⟨g, 4, none⟩ (.int .i64 k))) := by
      have ho : Only (fun k => k = g) w ((w.setCell ⟨g, 3, none⟩ (.bool true)).setCell ⟨g, 4, none⟩ (.int .i64 k)) := (Only.set w g 3 _).trans (Only.set _ g 4 _) (fun i hi => Or.inl hi)
      refine did_of (τ := ⟨σ.room, some k.toNat, σ.fs⟩) (er := 0) hO ⟨hi.srt, hi.few, hi.room, hi.most, hi.loose, hi.short⟩ (fun j hj => ?_) ?_ (hl.only ho (fun k hk => h.not_lay hl hk)) (ho.wide (fun k hk => (hO k).2 (Or.inl hk))) (fun k hk => Or.inl hk)
      · simp only [Option.some.injEq] at hj
        omega
      · unfold DHead
        simp only [Option.isSome_some, Option.getD_some, hk3]
        exact h2
    clear h1 h2 hk3 hk
    go_enter Tryz.func45, Tryz.ntmps45
    go_wp2_with (go_at_call 51; refine (unmade_at h).mono ?_; rintro e w' ⟨rfl, rfl⟩)
    go_ret
    exact HR.out
theorem fuse_nil (k : Int) (w : World) : Calls Tryz.prog 45 #[.pointer none, .int .i64 k] w fun e w' => e = .returned (.int .i64 1) ∧ w = w' := by
  go_enter Tryz.func45, Tryz.ntmps45
  go_wp2_with (go_at_call 51; refine (unmade_nil _).mono ?_; rintro e w' ⟨rfl, rfl⟩)
  go_ret
  exact ⟨rfl, rfl⟩

end Go.Proofs.YtikbokbmaihdbaaGreatDoor
