/-
  Layer 7: slices.Clone of bytes; make of a map with a hint.
-/
import Derived.Test.YtaiifelkbajaoaaDOpsC
import Derived.Laws.Cover3
namespace Go.Proofs.Ytaiifelkbajaoaa
open Go.RowKit Go.Maps Go.Lib Go.ChangeShapes Go.WideShapes

theorem run_makeMap_hint (n : Nat) (w : World) : (Instr.makeMap 52 (some (.int .i64 (n : Nat)))).run Try.prog w = .ok (.map (some w.heap.size)) (w.alloc (.map #[] 0)) := by
  simp [Instr.makeMap, run_underlying Try.underlying52, asInt, asIntOf]
theorem Op_eql_nil (w : World) (A : Option Addr) (l c : Nat) : (binOp .eql 50 (.slice A l c) (.slice none 0 0)).run Try.prog w = .ok (.bool A.isNone) w := by
  simp [binOp, run_equal_slice_nil w 50 5 A l c Try.underlying50]
theorem one_cells (s : ByteArray) : ∀ u ∈ strCells s, u.oneCell' = true := strCells_oneCell s

set_option maxHeartbeats 1000000 in
theorem bclone_any {w : World} {v : Value} {s : ByteArray} (hrow : w.ownsRow 0 5 1 v s.size (strCells s)) (hs : s.size ≤ 4194304) : Calls Try.prog 35 #[v] w fun e w' =>
    ∃ v', e = .returned v' ∧ w'.ownsRow w.heap.size 5 1 v' s.size (strCells s) ∧ Below w.heap.size w w' := by
  obtain ⟨i, hi, hz, hs1, hb1⟩ : ∃ i, Try.prog.info? 5 = some i ∧ i.zero = some (.int .u8 0) ∧ i.size = 1 ∧ i.bytes = 1 := by
    have h := info5
    cases hq : Try.prog.info? 5 with
    | none => rw [hq] at h; cases h
    | some i => rw [hq] at h; simp at h; exact ⟨i, rfl, h.1, h.2.1, h.2.2⟩
  have he := fun A l c => Op_eql_nil w A l c
  rcases hrow.2 with ⟨rfl, h0⟩ | ⟨q, cap, cur, rfl, _, _, _⟩
  · go_enter Try.func35, Try.ntmps35
    go_wp2_with fail
    go_ret
    have hx : strCells s = [] := List.eq_nil_of_length_eq_zero (by rw [strCells_length]; exact h0)
    rw [hx, h0]
    exact ⟨_, rfl, World.ownsRow_nil _ _ _ _, Below.refl _ _⟩
  · have hcells : ∀ j u, (strCells s)[j]? = some u → (w.alloc (.cells #[] 5)).cell? ((⟨q, 0, none⟩ : Addr).add j) = some u := (hrow.alloc (.cells #[] 5)).cells (g := q) rfl
    have hown : (w.alloc (.cells #[] 5)).ownsRow w.heap.size 5 1 (.slice (some ⟨w.heap.size, 0, none⟩) 0 0) 0 [] := ⟨rfl, Or.inr ⟨_, 0, #[], rfl, Nat.le_refl _, heap_alloc_new _ _, Nat.le_refl _, Nat.zero_le _, rfl, rfl⟩⟩
    have HC := Lib.hid hcells
    have HO := Lib.hid hown
    clear hrow hcells hown
    go_enter Try.func35, Try.ntmps35
    go_wp2_with (at_builtin; refine wpList_append_own _ (by rfl) (.tmp 5) (.tmp 6) 50 (by rfl) w.heap.size 5 i (.int .u8 0) 1 1 Try.underlying50 hi hz hs1 hb1 rfl (by decide) (.slice (some ⟨w.heap.size, 0, none⟩) 0 0) 0 [] (by rfl) HO.out ⟨q, 0, none⟩ s.size cap (strCells s) (by rfl) (by rw [strCells_length]; simp) HC.out (one_cells s) (by unfold maxLen; omega) (by omega) (by simp) ?_; intro v' w' hv' hg' _; have HV := Lib.hid hv'; have HG := Lib.hid hg'; clear hv' hg')
    go_ret
    rw [Nat.zero_add] at HV
    exact ⟨_, rfl, HV.out, ((Below.refl _ w).alloc (Nat.le_refl _) _).grown HG.out (by simp) (fun k hk => by simp only [Value.ownBlock, Option.some.injEq] at hk; omega)⟩


end Go.Proofs.Ytaiifelkbajaoaa
