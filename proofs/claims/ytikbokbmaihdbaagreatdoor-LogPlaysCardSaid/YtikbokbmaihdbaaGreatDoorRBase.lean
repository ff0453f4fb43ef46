/-
  Layer 8: the document's disk (gossamerref07) in memory, with files in a row; its small functions. (For LogPlays.)
  Layer 8: the document's disk: New, Room, Sync of the one file. (For LogPlays.)
  Layer 8: the document's disk with the one file 'a', as a disk ('TheRef'). (For LogPlays.)
-/
import Derived.Test.YtikbokbmaihdbaaGreatDoorDMem
import Derived.Test.YtikbokbmaihdbaaGreatDoorLWorks
import Derived.WalkKit
import Derived.BigCall
import Derived.Lib.Hide
import Derived.IntWalk
import Derived.ChangeShapes
import Derived.WideShapes
import Derived.OpenShut
import Derived.Laws.AppendOwn
namespace Go.Proofs.YtikbokbmaihdbaaGreatDoor
open Go.RowKit Go.Maps Go.ChangeShapes Go.WideShapes

/-- How many calls are left, as the document says it. -/
def fuz : Option Nat → Int
  | none => -1
  | some k => k
def RHead (w : World) (g room : Nat) (v : Value) (z : Option Nat) : Prop := w.heap[g]? = some (.cells #[.int .i64 (room : Nat), v, .int .i64 (fuz z)] 61 (0, 0))
/-- The cells of files in a row. -/
def fcs (fs : List (ByteArray × Fil)) : List Value := fs.flatMap fun p => [.string p.1, .string p.2.text, .int .i64 (p.2.loose : Nat), .bool p.2.fresh]
def RRow (w : World) (v : Value) (fs : List (ByteArray × Fil)) : Prop := w.ownsRow 0 73 4 v fs.length (fcs fs)
theorem fcs_at (fs : List (ByteArray × Fil)) (i j : Nat) (hi : i < fs.length) (hj : j < 4) : (fcs fs)[i * 4 + j]? = [Value.string fs[i].1, .string fs[i].2.text, .int .i64 (fs[i].2.loose : Nat), .bool fs[i].2.fresh][j]? := by
  induction fs generalizing i with
  | nil => simp at hi
  | cons p fs ih =>
    cases i with
    | zero =>
      show ([Value.string p.1, .string p.2.text, .int .i64 (p.2.loose : Nat), .bool p.2.fresh] ++ fcs fs)[0 * 4 + j]? = _
      rw [List.getElem?_append_left (by simp; omega)]
      simp
    | succ i =>
      show ([Value.string p.1, .string p.2.text, .int .i64 (p.2.loose : Nat), .bool p.2.fresh] ++ fcs fs)[(i + 1) * 4 + j]? = _
      rw [List.getElem?_append_right (by simp; omega)]
      have h := ih i (by simpa using hi)
      have e : (i + 1) * 4 + j - [Value.string p.1, .string p.2.text, .int .i64 (p.2.loose : Nat), .bool p.2.fresh].length = i * 4 + j := by simp; omega
      rw [e, h]
      rfl
/-- Where they lie. -/
theorem RRow.lies {w : World} {v : Value} {fs : List (ByteArray × Fil)} (h : RRow w v fs) : ∃ A c, v = .slice A fs.length c ∧ fs.length ≤ c ∧ c ≤ maxLen ∧ ∀ i (hi : i < fs.length), ∃ q, A = some ⟨q, 0, none⟩ ∧ q < w.heap.size ∧ ∀ j, j < 4 → w.cell? ⟨q, 0 + i * 4 + j, none⟩ = [Value.string fs[i].1, .string fs[i].2.text, .int .i64 (fs[i].2.loose : Nat), .bool fs[i].2.fresh][j]? := by
  have h' : w.ownsRow 0 73 4 v fs.length (fcs fs) := h
  rcases h'.2 with ⟨rfl, h0⟩ | ⟨g, cap, cur, rfl, _, hg, _, hlc, hcm, _⟩
  · exact ⟨none, 0, by rw [h0], by omega, Nat.zero_le _, fun i hi => by omega⟩
  · refine ⟨_, cap, rfl, by omega, by omega, fun i hi => ⟨g, rfl, lt_of_heap hg, fun j hj => ?_⟩⟩
    have hf := fcs_at fs i j hi hj
    have hlt : i * 4 + j < (fcs fs).length := by
      rcases Nat.lt_or_ge (i * 4 + j) (fcs fs).length with h1 | h1
      · exact h1
      · rw [List.getElem?_eq_none h1, List.getElem?_eq_getElem (by simpa using hj)] at hf; cases hf
    have := h'.cells (g := g) rfl (i * 4 + j) ((fcs fs)[i * 4 + j]) (List.getElem?_eq_getElem hlt)
    rw [add_plain] at this
    rw [← hf, List.getElem?_eq_getElem hlt, Nat.zero_add]
    rw [Nat.zero_add] at this
    exact this

section
variable {w : World} {g room : Nat} {v : Value} {z : Option Nat} {fs : List (ByteArray × Fil)}
theorem RHead.c0 (h : RHead w g room v z) : w.cell? ⟨g, 0, none⟩ = some (.int .i64 (room : Nat)) := by rw [cell_hp h]; rfl
theorem RHead.c1 (h : RHead w g room v z) : w.cell? ⟨g, 1, none⟩ = some v := by rw [cell_hp h]; rfl
theorem RHead.c2 (h : RHead w g room v z) : w.cell? ⟨g, 2, none⟩ = some (.int .i64 (fuz z)) := by rw [cell_hp h]; rfl
theorem RHead.fr (h : RHead w g room v z) (j : Nat) : w.frozen? ⟨g, j, none⟩ = false := frozen_hp h j

theorem rdown_at (h : RHead w g room v z) : Calls Tryz.prog 62 #[ptr g] w fun e w' => e = .returned (.bool (decide (z = some 0))) ∧ w = w' := by
  have c2 := h.c2
  cases z with
  | none =>
    simp only [fuz] at c2
    go_enter Tryz.func62, Tryz.ntmps62
    go_wp2_with fail
    go_ret
    exact ⟨rfl, rfl⟩
  | some k =>
    simp only [fuz] at c2
    cases k with
    | zero =>
      go_enter Tryz.func62, Tryz.ntmps62
      go_wp2_with fail
      go_ret
      exact ⟨rfl, rfl⟩
    | succ k =>
      have hk : (((k + 1 : Nat) : Int) == 0) = false := by rw [beq_eq_false_iff_ne]; omega
      go_enter Tryz.func62, Tryz.ntmps62
      go_wp2_with fail
      go_ret
      refine ⟨?_, rfl⟩
      simp
      omega
theorem rdone_at (h : RHead w g room v z) (hz : z ≠ some 0) (hw : ∀ k, z = some k → k ≤ 9223372036854775807) : Calls Tryz.prog 63 #[ptr g] w fun e w' => e = .returned (.tuple #[]) ∧ RHead w' g room v (z.map (· - 1)) ∧ Only (fun k => k = g) w w' ∧ w'.heap.size = w.heap.size := by
  have c2 := h.c2
  have f2 := h.fr 2
  cases z with
  | none =>
    simp only [fuz] at c2
    go_enter Tryz.func63, Tryz.ntmps63
    go_wp2_with fail
    go_end0
    exact ⟨rfl, h, Only.refl _ _, rfl⟩
  | some k =>
    cases k with
    | zero => exact absurd rfl hz
    | succ k =>
      have hle := hw _ rfl
      simp only [fuz] at c2
      have h' : w.heap[g]? = _ := h
      have hs := heap_set (i := 2) h' (.int .i64 (k : Nat))
      have e1 : (((k + 1 : Nat) : Int) - 1) = (k : Nat) := by omega
      have e2 : decide ((0 : Int) < ((k + 1 : Nat) : Int)) = true := by rw [decide_eq_true_iff]; omega
      go_enter Tryz.func63, Tryz.ntmps63
      go_wp2_with fail
      go_end0
      refine ⟨rfl, ?_, Only.set w g 2 _, by simp⟩
      unfold RHead
      exact hs
/-- At of the one name. -/
theorem rat_none (h : RHead w g room v z) (hr : RRow w v []) : Calls Tryz.prog 30 #[ptr g, .string rA] w fun e w' => e = .returned (.int .i64 (-1)) ∧ w = w' := by
  obtain ⟨A, c, rfl, _⟩ := hr.lies
  have c1 := h.c1
  simp only [List.length_nil] at c1
  go_enter Tryz.func30, Tryz.ntmps30
  go_wp2_with fail
  go_loop [5] (fun iv => iv = .int .i64 0) (fun _ => 0)
  case atStart => rfl
  case round =>
    subst hrel
    go_wp2_with fail
    go_ret
    exact ⟨rfl, rfl⟩
theorem rat_one {f : Fil} (h : RHead w g room v z) (hr : RRow w v [(rA, f)]) : Calls Tryz.prog 30 #[ptr g, .string rA] w fun e w' => e = .returned (.int .i64 0) ∧ w = w' := by
  obtain ⟨A, c, rfl, _, _, hc⟩ := hr.lies
  obtain ⟨q, rfl, _, hcc⟩ := hc 0 (by simp)
  have c1 := h.c1
  simp only [List.length_cons, List.length_nil, Nat.zero_add] at c1
  have n0 := hcc 0 (by decide)
  simp only [Nat.zero_mul, Nat.add_zero, List.getElem_cons_zero, List.getElem?_cons_zero] at n0
  clear hr hc hcc
  go_enter Tryz.func30, Tryz.ntmps30
  go_wp2_with fail
  go_loop [5] (fun iv => iv = .int .i64 0) (fun _ => 0)
  case atStart => rfl
  case round =>
    subst hrel
    go_wp2_with fail
    go_ret
    exact ⟨rfl, rfl⟩
end

end Go.Proofs.YtikbokbmaihdbaaGreatDoor

namespace Go.Proofs.YtikbokbmaihdbaaGreatDoor
open Go.RowKit Go.Maps Go.ChangeShapes Go.WideShapes

theorem rnew_at (room : Nat) (w : World) : Calls Tryz.prog 7 #[.int .i64 (room : Nat)] w fun e w' => e = .returned (ptr w.heap.size) ∧ RHead w' w.heap.size room (.slice none 0 0) none ∧ Below w.heap.size w w' := by
  go_enter Tryz.func7, Tryz.ntmps7
  go_wp2_with fail
  go_ret
  refine ⟨rfl, ?_, (Below.refl _ w).alloc (Nat.le_refl _) _⟩
  exact heap_alloc_new w _

theorem rrow_kept {w w' : World} {v : Value} {fs : List (ByteArray × Fil)} (h : RRow w v fs) (hb : ∀ k, v.ownBlock = some k → w'.heap[k]? = w.heap[k]?) : RRow w' v fs := by
  obtain ⟨h1, h2⟩ := h
  refine ⟨h1, ?_⟩
  rcases h2 with h2 | ⟨g, cap, cur, hv, hg, hh, r⟩
  · exact Or.inl h2
  · exact Or.inr ⟨g, cap, cur, hv, hg, (hb g (by rw [hv]; rfl)).trans hh, r⟩
theorem RRow.block {w : World} {q len c : Nat} {fs : List (ByteArray × Fil)} (h : RRow w (.slice (some ⟨q, 0, none⟩) len c) fs) : ∃ cur, w.heap[q]? = some (.cells cur 73 (0, 0)) := by
  rcases h.2 with ⟨h1, _⟩ | ⟨g, cap, cur, hv, _, hg, _⟩
  · cases h1
  · injection hv with h1 _ _
    injection h1 with h1
    injection h1 with h1 _ _
    subst h1
    exact ⟨cur, hg⟩

/-- The one file's cells, written. -/
def putF (w : World) (q : Nat) (t : ByteArray) (lo : Nat) (fr : Bool) : World := (((w.setCell ⟨q, 0, none⟩ (.string rA)).setCell ⟨q, 1, none⟩ (.string t)).setCell ⟨q, 2, none⟩ (.int .i64 (lo : Nat))).setCell ⟨q, 3, none⟩ (.bool fr)
theorem rrow_put {w : World} {q c : Nat} {f : Fil} (h : RRow w (.slice (some ⟨q, 0, none⟩) 1 c) [(rA, f)]) (t : ByteArray) (lo : Nat) (fr : Bool) : RRow (putF w q t lo fr) (.slice (some ⟨q, 0, none⟩) 1 c) [(rA, ⟨t, lo, fr⟩)] := by
  refine ⟨rfl, ?_⟩
  rcases h.2 with ⟨h1, _⟩ | ⟨g, cap, cur, hv, hb, hg, h1, h2, h3, h4⟩
  · cases h1
  · injection hv with e1 e2 e3
    injection e1 with e1
    injection e1 with e1 _ _
    subst e1 e3
    refine Or.inr ⟨q, c, (((cur.setIfInBounds 0 (.string rA)).setIfInBounds 1 (.string t)).setIfInBounds 2 (.int .i64 (lo : Nat))).setIfInBounds 3 (.bool fr), rfl, hb, ?_, h1, h2, by simp [h3], ?_⟩
    · exact heap_set (heap_set (heap_set (heap_set hg _) _) _) _
    · have h5 : cur.toList.take 4 = [Value.string rA, .string f.text, .int .i64 (f.loose : Nat), .bool f.fresh] := h4
      obtain ⟨r, hr⟩ : ∃ r, cur.toList = [Value.string rA, .string f.text, .int .i64 (f.loose : Nat), .bool f.fresh] ++ r := ⟨cur.toList.drop 4, by rw [← h5, List.take_append_drop]⟩
      show ((((cur.setIfInBounds 0 (.string rA)).setIfInBounds 1 (.string t)).setIfInBounds 2 (.int .i64 (lo : Nat))).setIfInBounds 3 (.bool fr)).toList.take 4 = [Value.string rA, .string t, .int .i64 (lo : Nat), .bool fr]
      simp [Array.toList_setIfInBounds, hr]
theorem putF_only (w : World) (q : Nat) (t : ByteArray) (lo : Nat) (fr : Bool) : Only (fun k => k = q) w (putF w q t lo fr) ∧ (putF w q t lo fr).heap.size = w.heap.size := by
  refine ⟨?_, by simp [putF]⟩
  have h := (((Only.set w q 0 (.string rA)).trans (Only.set _ q 1 (.string t)) (fun _ h => Or.inl h)).trans (Only.set _ q 2 (.int .i64 (lo : Nat))) (fun _ h => Or.inl h)).trans (Only.set _ q 3 (.bool fr)) (fun _ h => Or.inl h)
  exact h

section
variable {w : World} {g room : Nat} {v : Value} {z : Option Nat} {f : Fil}
theorem rroom_one (h : RHead w g room v z) (hr : RRow w v [(rA, f)]) (hm : room ≤ 140737488351232) (hf : f.text.size ≤ 140737488351232) : Calls Tryz.prog 49 #[ptr g] w fun e w' => e = .returned (.int .i64 ((room : Int) - f.text.size)) ∧ w = w' := by
  obtain ⟨A, c, rfl, _, _, hc⟩ := hr.lies
  obtain ⟨q, rfl, _, hcc⟩ := hc 0 (by simp)
  have c0 := h.c0
  have c1 := h.c1
  simp only [List.length_cons, List.length_nil, Nat.zero_add] at c1
  have n1 := hcc 1 (by decide)
  simp only [Nat.zero_mul, Nat.zero_add, List.getElem_cons_zero, List.getElem?_cons_succ, List.getElem?_cons_zero] at n1
  clear hr hc hcc
  go_enter Tryz.func49, Tryz.ntmps49
  go_wp2_with fail
  go_loop [3, 4] (fun rv iv => (iv = .int .i64 0 ∧ rv = .int .i64 (room : Nat)) ∨ (iv = .int .i64 1 ∧ rv = .int .i64 ((room : Int) - f.text.size))) (fun _ iv => 1 - (intOf iv).toNat)
  case atStart => exact Or.inl ⟨rfl, rfl⟩
  case round =>
    rcases hrel with ⟨rfl, rfl⟩ | ⟨rfl, rfl⟩
    · go_wp2_with fail
      go_round
      case rel => exact Or.inr ⟨by go_num, by go_num⟩
      case measure => simp [intOf]
    · go_wp2_with fail
      go_ret
      exact ⟨rfl, rfl⟩
theorem rsync_at (h : RHead w g room v z) (hr : RRow w v [(rA, f)]) (hz : z ≠ some 0) (hw : ∀ k, z = some k → k ≤ 9223372036854775807) (hv : ∀ k, v.ownBlock = some k → k ≠ g) : Calls Tryz.prog 34 #[ptr g, .string rA] w fun e w' =>
    e = .returned (.int .i64 0) ∧ RHead w' g room v (z.map (· - 1)) ∧ RRow w' v [(rA, ⟨f.text, 0, false⟩)] ∧ Only (fun k => k = g ∨ v.ownBlock = some k) w w' := by
  have KA := Lib.hid (rat_one h hr)
  have KD := rdown_at h
  rw [decide_eq_false hz] at KD
  have KN := Lib.hid (rdone_at h hz hw)
  have HR := Lib.hid hr
  have HV := Lib.hid hv
  clear h hr hz hw hv
  go_enter Tryz.func34, Tryz.ntmps34
  go_wp2_with fail
  refine KA.out.mono ?_
  rintro e w' ⟨rfl, rfl⟩
  go_wp2_with fail
  refine KD.mono ?_
  rintro e w' ⟨rfl, rfl⟩
  go_wp2_with fail
  refine KN.out.mono ?_
  rintro e w1 ⟨rfl, h1, ho, hs⟩
  have hr1 : RRow w1 v [(rA, f)] := rrow_kept HR.out (fun k hk => ho.block k (HR.out.lt k hk).2 (HV.out k hk))
  obtain ⟨A, c, rfl, _, _, hc⟩ := hr1.lies
  obtain ⟨q, rfl, _, hcc⟩ := hc 0 (by simp)
  have c1 := h1.c1
  simp only [List.length_cons, List.length_nil, Nat.zero_add] at c1
  have n1 := hcc 1 (by decide)
  simp only [Nat.zero_mul, Nat.zero_add, List.getElem_cons_zero, List.getElem?_cons_succ, List.getElem?_cons_zero] at n1
  have n0 := hcc 0 (by decide)
  have n2 := hcc 2 (by decide)
  have n3 := hcc 3 (by decide)
  simp only [Nat.zero_mul, Nat.zero_add, Nat.add_zero, List.getElem_cons_zero, List.getElem?_cons_succ, List.getElem?_cons_zero] at n0 n2 n3
  obtain ⟨cur, hcur⟩ := hr1.block
  have fz := fun j => frozen_hp hcur j
  have f0 := fz 0
  have f1 := fz 1
  have f2 := fz 2
  have f3 := fz 3
  have HCUR := Lib.hid hcur
  clear hcur fz
  go_wp2_with fail
  go_region
  go_wp2_with fail
  go_ret
  have hP : (((((w1.setCell ⟨q, 0, none⟩ (.string rA)).setCell ⟨q, 1, none⟩ (.string f.text)).setCell ⟨q, 2, none⟩ (.int .i64 0)).setCell ⟨q, 3, none⟩ (.bool false))) = putF w1 q f.text 0 false := rfl
  have hqg : q ≠ g := HV.out q rfl
  refine ⟨rfl, ?_, ?_, ?_⟩
  · have h9 : (putF w1 q f.text 0 false).heap[g]? = w1.heap[g]? := (putF_only w1 q f.text 0 false).1.block g (lt_of_heap h1) (fun e => hqg e.symm)
    show (putF w1 q f.text 0 false).heap[g]? = _
    rw [h9]
    exact h1
  · have h9 := rrow_put hr1 f.text 0 false
    exact rrow_kept h9 (fun _ _ => rfl)
  · have h9 := (putF_only w1 q f.text 0 false).1
    have h8 : Only (fun k => k = g ∨ (Value.slice (some ⟨q, 0, none⟩) 1 c).ownBlock = some k) w (putF w1 q f.text 0 false) := by
      refine Only.trans (ho.wide ?_) (h9.wide ?_) (fun _ h => Or.inl h)
      · intro k hk; exact Or.inl hk
      · intro k hk; exact Or.inr (by rw [hk]; rfl)
    exact ⟨h8.os, h8.tape, h8.output, h8.size, h8.block⟩
end

end Go.Proofs.YtikbokbmaihdbaaGreatDoor

namespace Go.Proofs.YtikbokbmaihdbaaGreatDoor
open Go.RowKit Go.Maps Go.ChangeShapes Go.WideShapes

def TheRef : Disks := fun O w gr σ => Inv σ ∧ (∀ k, σ.fuse = some k → k ≤ 9223372036854775807) ∧ ∃ v f, σ.fs = [(rA, f)] ∧ f.fresh = false ∧ RHead w gr σ.room v σ.fuse ∧ RRow w v [(rA, f)] ∧ (∀ k, v.ownBlock = some k → k ≠ gr) ∧ (∀ k, O k ↔ (k = gr ∨ v.ownBlock = some k))

theorem TheRef.did {O : Nat → Prop} {w w' : World} {gr : Nat} {τ : Dsk} {er : Nat} {v v' : Value} {f' : Fil} (hO : ∀ k, O k ↔ (k = gr ∨ v.ownBlock = some k)) (hi : Inv τ) (hz : ∀ k, τ.fuse = some k → k ≤ 9223372036854775807) (hfs : τ.fs = [(rA, f')]) (hfr : f'.fresh = false)
    (hh : RHead w' gr τ.room v' τ.fuse) (hr : RRow w' v' [(rA, f')]) (hne : ∀ k, v'.ownBlock = some k → k ≠ gr) (ho : Only O w w') (hs : ∀ k, v'.ownBlock = some k → v.ownBlock = some k ∨ w.heap.size ≤ k) : Did TheRef O w gr (τ, er) (.returned (.int .i64 (er : Nat))) w' := by
  refine ⟨rfl, fun k => k = gr ∨ v'.ownBlock = some k, ⟨hi, hz, v', f', hfs, hfr, hh, hr, hne, fun k => Iff.rfl⟩, ho, fun k hk => ?_⟩
  rcases hk with rfl | hk
  · exact Or.inl ((hO _).2 (Or.inl rfl))
  · rcases hs k hk with h | h
    · exact Or.inl ((hO _).2 (Or.inr h))
    · exact Or.inr h
/-- Nothing has turned. -/
theorem TheRef.same {O : Nat → Prop} {w w' : World} {gr : Nat} {σ : Dsk} {er : Nat} (hd : TheRef O w gr σ) (hb : Below w.heap.size w w') : Did TheRef O w gr (σ, er) (.returned (.int .i64 (er : Nat))) w' := by
  obtain ⟨hi, hz, v, f, hfs, hfr, h, hr, hne, hO⟩ := hd
  refine ⟨rfl, O, ⟨hi, hz, v, f, hfs, hfr, (hb.block gr (lt_of_heap h)).trans h, rrow_kept hr (fun k hk => hb.block k (hr.lt k hk).2), hne, hO⟩, hb.only O, fun k hk => Or.inl hk⟩
theorem TheRef.stays {O : Nat → Prop} {w w' : World} {gr : Nat} {σ : Dsk} (hd : TheRef O w gr σ) (hb : ∀ k, O k → w'.heap[k]? = w.heap[k]?) : TheRef O w' gr σ := by
  obtain ⟨hi, hz, v, f, hfs, hfr, h, hr, hne, hO⟩ := hd
  exact ⟨hi, hz, v, f, hfs, hfr, (hb gr ((hO gr).2 (Or.inl rfl))).trans h, rrow_kept hr (fun k hk => hb k ((hO k).2 (Or.inr hk))), hne, hO⟩
theorem TheRef.own {O : Nat → Prop} {w : World} {gr : Nat} {σ : Dsk} (hd : TheRef O w gr σ) : ∀ k, O k → k < w.heap.size := by
  obtain ⟨hi, hz, v, f, hfs, hfr, h, hr, hne, hO⟩ := hd
  intro k hk
  rcases (hO k).1 hk with rfl | hk
  · exact lt_of_heap h
  · exact (hr.lt k hk).2
theorem burn_fine {σ : Dsk} (hz : ∀ k, σ.fuse = some k → k ≤ 9223372036854775807) : ∀ k, burn σ = some k → k ≤ 9223372036854775807 := by
  intro k hk
  cases hq : σ.fuse with
  | none => simp [burn, hq] at hk
  | some j =>
    have h1 := hz j hq
    simp [burn, hq] at hk
    omega
theorem used_one (f : Fil) : used [(rA, f)] = f.text.size := by simp [used]
theorem get_one (f : Fil) : get [(rA, f)] rA = some f := rfl
theorem upd_one (f f' : Fil) : upd [(rA, f)] rA f' = [(rA, f')] := rfl
/-- The file's row, where the log's disk has one, in its cells. -/
structure RCells (w : World) (gr q c : Nat) (f : Fil) : Prop where
  c1 : w.cell? ⟨gr, 1, none⟩ = some (.slice (some ⟨q, 0, none⟩) 1 c)
  n0 : w.cell? ⟨q, 0, none⟩ = some (.string rA)
  n1 : w.cell? ⟨q, 1, none⟩ = some (.string f.text)
  n2 : w.cell? ⟨q, 2, none⟩ = some (.int .i64 (f.loose : Nat))
  n3 : w.cell? ⟨q, 3, none⟩ = some (.bool f.fresh)
  fz : ∀ j, w.frozen? ⟨q, j, none⟩ = false
  one : 1 ≤ c
  lt : q < w.heap.size
theorem RRow.cells1 {w : World} {gr room : Nat} {v : Value} {z : Option Nat} {f : Fil} (h : RHead w gr room v z) (hr : RRow w v [(rA, f)]) : ∃ q c, v = .slice (some ⟨q, 0, none⟩) 1 c ∧ RCells w gr q c f := by
  obtain ⟨A, c, rfl, hle, _, hc⟩ := hr.lies
  obtain ⟨q, rfl, hlt, hcc⟩ := hc 0 (by simp)
  have c1 := h.c1
  simp only [List.length_cons, List.length_nil, Nat.zero_add] at c1 hle
  obtain ⟨cur, hcur⟩ := hr.block
  have n0 := hcc 0 (by decide)
  have n1 := hcc 1 (by decide)
  have n2 := hcc 2 (by decide)
  have n3 := hcc 3 (by decide)
  simp only [Nat.zero_mul, Nat.zero_add, Nat.add_zero, List.getElem_cons_zero, List.getElem?_cons_succ, List.getElem?_cons_zero] at n0 n1 n2 n3
  exact ⟨q, c, rfl, c1, n0, n1, n2, n3, fun j => frozen_hp hcur j, hle, hlt⟩
theorem RCells.kept {w w' : World} {gr q c : Nat} {f : Fil} (h : RCells w gr q c f) (hg : w'.heap[gr]? = w.heap[gr]?) (hq : w'.heap[q]? = w.heap[q]?) (hs : w.heap.size ≤ w'.heap.size) : RCells w' gr q c f := by
  have e1 : ∀ b j, w'.heap[b]? = w.heap[b]? → w'.cell? ⟨b, j, none⟩ = w.cell? ⟨b, j, none⟩ := fun b j e => by unfold World.cell?; rw [e]
  have e2 : ∀ b j, w'.heap[b]? = w.heap[b]? → w'.frozen? ⟨b, j, none⟩ = w.frozen? ⟨b, j, none⟩ := fun b j e => by unfold World.frozen?; rw [e]
  exact ⟨(e1 _ _ hg).trans h.c1, (e1 _ _ hq).trans h.n0, (e1 _ _ hq).trans h.n1, (e1 _ _ hq).trans h.n2, (e1 _ _ hq).trans h.n3, fun j => (e2 _ _ hq).trans (h.fz j), h.one, Nat.lt_of_lt_of_le h.lt hs⟩
/-- The file is written back, with other bytes. -/
theorem ref_put {O : Nat → Prop} {w w1 w2 w3 : World} {gr : Nat} {τ : Dsk} {q c : Nat} {f : Fil} {t : ByteArray} {lo er : Nat} (hO : ∀ k, O k ↔ (k = gr ∨ (Value.slice (some ⟨q, 0, none⟩) 1 c).ownBlock = some k)) (h1 : RHead w1 gr τ.room (.slice (some ⟨q, 0, none⟩) 1 c) τ.fuse) (hr1 : RRow w1 (.slice (some ⟨q, 0, none⟩) 1 c) [(rA, f)])
    (ho1 : Only (fun k => k = gr) w w1) (hb : Below w1.heap.size w1 w2) (hqg : q ≠ gr) (hi : Inv τ) (hz : ∀ k, τ.fuse = some k → k ≤ 9223372036854775807) (hfs : τ.fs = [(rA, ⟨t, lo, false⟩)]) (h3 : Only (fun _ => False) (putF w2 q t lo false) w3) : Did TheRef O w gr (τ, er) (.returned (.int .i64 (er : Nat))) w3 := by
  have hp := putF_only w2 q t lo false
  have hr2 : RRow w2 (.slice (some ⟨q, 0, none⟩) 1 c) [(rA, f)] := rrow_kept hr1 (fun k hk => hb.block k (hr1.lt k hk).2)
  have hq2 : q < w2.heap.size := (hr2.lt q rfl).2
  have hg1 := lt_of_heap h1
  have hs2 := hb.size
  have hgp : w3.heap[gr]? = w1.heap[gr]? := by
    rw [h3.block gr (by rw [hp.2]; omega) (fun h => h), hp.1.block gr (by omega) (fun e => hqg e.symm)]
    exact hb.block gr hg1
  refine TheRef.did (f' := ⟨t, lo, false⟩) hO hi hz hfs rfl (hgp.trans h1) ?_ ?_ ?_ (fun k hk => Or.inl hk)
  · refine rrow_kept (rrow_put hr2 t lo false) (fun k hk => h3.block k ?_ (fun h => h))
    have e : k = q := by injection hk with hk; exact hk.symm
    rw [hp.2, e]
    exact hq2
  · intro k hk e
    have e2 : k = q := by injection hk with hk; exact hk.symm
    exact hqg (e2.symm.trans e)
  · refine ⟨?_, ?_, ?_, ?_, ?_⟩
    · rw [h3.os, hp.1.os, hb.os, ho1.os]
    · rw [h3.tape, hp.1.tape, hb.tape, ho1.tape]
    · rw [h3.output, hp.1.output, hb.output, ho1.output]
    · have h4 := h3.size
      have h5 := ho1.size
      have h6 := hp.2
      omega
    · intro k hk hn
      have hng : k ≠ gr := fun e => hn ((hO k).2 (Or.inl e))
      have hnq : k ≠ q := fun e => hn ((hO k).2 (Or.inr (by rw [e]; rfl)))
      have h5 := ho1.size
      rw [h3.block k (by rw [hp.2]; omega) (fun h => h), hp.1.block k (by omega) hnq, hb.block k (by omega), ho1.block k hk hng]

end Go.Proofs.YtikbokbmaihdbaaGreatDoor
