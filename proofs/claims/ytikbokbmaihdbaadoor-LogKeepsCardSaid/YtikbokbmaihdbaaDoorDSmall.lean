/-
  Layer 7: the program's small functions: unmade, still, burn, find, open; a file's cut.
-/
import Derived.Test.YtikbokbmaihdbaaDoorDMem
import Derived.WalkKit
import Derived.BigCall
import Derived.Lib.Hide
import Derived.IntWalk
namespace Go.Proofs.YtikbokbmaihdbaaDoor
open Go.RowKit Go.Maps

section
variable {w : World} {g room b : Nat} {z : Option Nat} {P : ByteArray → Nat} {V : ByteArray → Value} {fs : List (ByteArray × Fil)}

theorem unmade_at (h : DHead w g room b z) : Calls Tryd.prog 36 #[ptr g] w fun e w' => e = .returned (.bool false) ∧ w = w' := by
  have c0 := h.c0
  go_enter Tryd.func36, Tryd.ntmps36
  go_wp2_with fail
  go_ret
  exact ⟨rfl, rfl⟩
theorem unmade_nil (w : World) : Calls Tryd.prog 36 #[.pointer none] w fun e w' => e = .returned (.bool true) ∧ w = w' := by
  go_enter Tryd.func36, Tryd.ntmps36
  go_wp2_with fail
  go_ret
  exact ⟨rfl, rfl⟩
theorem still_at (h : DHead w g room b z) : Calls Tryd.prog 41 #[ptr g] w fun e w' => e = .returned (.bool (decide (z = some 0))) ∧ w = w' := by
  have c3 := h.c3
  have c4 := h.c4
  cases z with
  | none =>
    simp only [Option.isSome_none, Option.getD_none] at c3 c4
    go_enter Tryd.func41, Tryd.ntmps41
    go_wp2_with fail
    go_ret
    exact ⟨rfl, rfl⟩
  | some k =>
    simp only [Option.isSome_some, Option.getD_some] at c3 c4
    cases k with
    | zero =>
      go_enter Tryd.func41, Tryd.ntmps41
      go_wp2_with fail
      go_ret
      exact ⟨rfl, rfl⟩
    | succ k =>
      have hk : (((k + 1 : Nat) : Int) == 0) = false := by rw [beq_eq_false_iff_ne]; omega
      go_enter Tryd.func41, Tryd.ntmps41
      go_wp2_with fail
      go_ret
      exact ⟨by simp; omega, rfl⟩
theorem burn_at (h : DHead w g room b z) (hz : z ≠ some 0) (hw : ∀ k, z = some k → k ≤ 9223372036854775807) : Calls Tryd.prog 42 #[ptr g] w fun e w' => e = .returned (.tuple #[]) ∧ DHead w' g room b (z.map (· - 1)) ∧ Only (fun k => k = g) w w' ∧ w'.heap.size = w.heap.size := by
  have c3 := h.c3
  have c4 := h.c4
  have f4 := h.fr 4
  cases z with
  | none =>
    simp only [Option.isSome_none, Option.getD_none] at c3 c4
    go_enter Tryd.func42, Tryd.ntmps42
    go_wp2_with fail
    go_end0
    exact ⟨rfl, h, Only.refl _ _, rfl⟩
  | some k =>
    cases k with
    | zero => exact absurd rfl hz
    | succ k =>
      have hle := hw _ rfl
      simp only [Option.isSome_some, Option.getD_some] at c3 c4
      have h' : w.heap[g]? = _ := h
      have hs := heap_set (i := 4) h' (.int .i64 (k : Nat))
      have e1 : (((k + 1 : Nat) : Int) - 1) = (k : Nat) := by omega
      go_enter Tryd.func42, Tryd.ntmps42
      go_wp2_with fail
      go_end0
      refine ⟨rfl, ?_, Only.set w g 4 _, by simp⟩
      unfold DHead
      exact hs
theorem find_at (h : DHead w g room b z) (hl : Lay w b P V fs) (n : ByteArray) (hn : n.size ≤ maxLen) : Calls Tryd.prog 39 #[ptr g, .string n] w fun e w' =>
    e = .returned (.tuple #[match get fs n with | some _ => ptr (P n) | none => .pointer none, .int .i64 (match get fs n with | some _ => 0 | none => 5)]) ∧ w = w' := by
  have c2 := h.c2
  have hlk := hl.map.look Tryd.underlying9 Tryd.underlying54 (Tryd.zeroValue73 w) n hn
  rw [get_kvOf] at hlk
  cases hg : get fs n with
  | none =>
    rw [hg] at hlk
    simp only [Option.map_none, Option.getD_none] at hlk
    go_enter Tryd.func39, Tryd.ntmps39
    go_wp2_with (go_at_call 36; refine (unmade_at h).mono ?_; rintro e w' ⟨rfl, rfl⟩)
    go_ret2
    exact ⟨rfl, rfl⟩
  | some f =>
    rw [hg] at hlk
    simp only [Option.map_some, Option.getD_some] at hlk
    go_enter Tryd.func39, Tryd.ntmps39
    go_wp2_with (go_at_call 36; refine (unmade_at h).mono ?_; rintro e w' ⟨rfl, rfl⟩)
    go_ret2
    exact ⟨rfl, rfl⟩
theorem find_nil (n : ByteArray) (w : World) : Calls Tryd.prog 39 #[.pointer none, .string n] w fun e w' => e = .returned (.tuple #[.pointer none, .int .i64 1]) ∧ w = w' := by
  go_enter Tryd.func39, Tryd.ntmps39
  go_wp2_with (go_at_call 36; refine (unmade_nil _).mono ?_; rintro e w' ⟨rfl, rfl⟩)
  go_ret2
  exact ⟨rfl, rfl⟩
theorem open_down (h : DHead w g room b z) (n : ByteArray) (hz : z = some 0) : Calls Tryd.prog 43 #[ptr g, .string n] w fun e w' => e = .returned (.tuple #[.pointer none, .int .i64 70]) ∧ w = w' := by
  have K := still_at h
  rw [decide_eq_true hz] at K
  go_enter Tryd.func43, Tryd.ntmps43
  go_wp2_with (first
    | (go_at_call 36; refine (unmade_at h).mono ?_; rintro e w' ⟨rfl, rfl⟩)
    | (go_at_call 41; refine K.mono ?_; rintro e w' ⟨rfl, rfl⟩))
  go_ret2
  exact ⟨rfl, rfl⟩
theorem open_at (h : DHead w g room b z) (hl : Lay w b P V fs) (n : ByteArray) (hn : n.size ≤ maxLen) (hz : z ≠ some 0) : Calls Tryd.prog 43 #[ptr g, .string n] w fun e w' =>
    e = .returned (.tuple #[match get fs n with | some _ => ptr (P n) | none => .pointer none, .int .i64 (match get fs n with | some _ => 0 | none => 5)]) ∧ w = w' := by
  have K := still_at h
  rw [decide_eq_false hz] at K
  have K2 := find_at h hl n hn
  obtain ⟨v1, hv1⟩ : ∃ v1, (match get fs n with | some _ => ptr (P n) | none => .pointer none) = v1 := ⟨_, rfl⟩
  obtain ⟨v2, hv2⟩ : ∃ v2 : Int, (match get fs n with | some _ => 0 | none => 5) = v2 := ⟨_, rfl⟩
  rw [hv1, hv2] at K2 ⊢
  clear hv1 hv2
  go_enter Tryd.func43, Tryd.ntmps43
  go_wp2_with (first
    | (go_at_call 36; refine (unmade_at h).mono ?_; rintro e w' ⟨rfl, rfl⟩)
    | (go_at_call 41; refine K.mono ?_; rintro e w' ⟨rfl, rfl⟩)
    | (go_at_call 39; refine K2.mono ?_; rintro e w' ⟨rfl, rfl⟩))
  go_ret2
  exact ⟨rfl, rfl⟩
theorem open_nil (n : ByteArray) (w : World) : Calls Tryd.prog 43 #[.pointer none, .string n] w fun e w' => e = .returned (.tuple #[.pointer none, .int .i64 1]) ∧ w = w' := by
  go_enter Tryd.func43, Tryd.ntmps43
  go_wp2_with (first
    | (go_at_call 36; refine (unmade_nil _).mono ?_; rintro e w' ⟨rfl, rfl⟩)
    | (go_at_call 39; refine (find_nil n _).mono ?_; rintro e w' ⟨rfl, rfl⟩))
  go_ret2
  exact ⟨rfl, rfl⟩
end

/-- A file cut: its first k bytes, all fast. -/
theorem fcut_at {w : World} {p : Nat} {v : Value} {f : Fil} (h : File w p v f) (k : Nat) (hk : k ≤ f.text.size) (hp : v.ownBlock ≠ some p) : Calls Tryd.prog 38 #[ptr p, .int .i64 (k : Nat)] w fun e w' =>
    e = .returned (.tuple #[]) ∧ File w' p (cutV v k) ⟨f.text.extract 0 k, 0, false⟩ ∧ Only (fun j => j = p) w w' ∧ w'.heap.size = w.heap.size := by
  obtain ⟨A, c, hv, hc, hm⟩ := h.slice
  have c0 := h.c0
  have f0 := h.fr 0
  have f1 := h.fr 1
  have f2 := h.fr 2
  have hh := h.head
  have h1 := heap_set (i := 0) hh (cutV v k)
  have h2 := heap_set (i := 1) h1 (.int .i64 0)
  have h3 := heap_set (i := 2) h2 (.bool false)
  have hcut : cutV v k = .slice A k c := by rw [hv]; rfl
  have hown : ∀ {j : Nat}, (Value.slice A k c).ownBlock = some j → v.ownBlock = some j := fun hj => by rw [← hcut, cutV_own] at hj; exact hj
  rw [hcut] at h1 h2 h3 ⊢
  have c1' : (w.setCell ⟨p, 0, none⟩ (.slice A k c)).cell? ⟨p, 1, none⟩ = some (.int .i64 (f.loose : Nat)) := by rw [cell_hp h1]; rfl
  have c2' : ((w.setCell ⟨p, 0, none⟩ (.slice A k c)).setCell ⟨p, 1, none⟩ (.int .i64 0)).cell? ⟨p, 2, none⟩ = some (.bool f.fresh) := by rw [cell_hp h2]; rfl
  have hkc : (k : Int) ≤ c := by omega
  have HR := Lib.hid (row_cut h.row hk)
  rw [hcut] at HR
  have HH := Lib.hid h3
  rw [hv] at c0
  clear hv h1 h2 h3 hh
  go_enter Tryd.func38, Tryd.ntmps38
  go_wp2_with fail
  go_end0
  refine ⟨rfl, ⟨HH.out, row_kept HR.out (fun j hj => ?_)⟩, ?_, by simp⟩
  · rw [Below.heap_setCell _ _ _ _ (by show j ≠ p; rintro rfl; exact hp (hown hj)), Below.heap_setCell _ _ _ _ (by show j ≠ p; rintro rfl; exact hp (hown hj)), Below.heap_setCell _ _ _ _ (by show j ≠ p; rintro rfl; exact hp (hown hj))]
  · exact ((Only.set w p 0 _).trans (Only.set _ p 1 _) (fun i hi => Or.inl hi)).trans (Only.set _ p 2 _) (fun i hi => Or.inl hi)

end Go.Proofs.YtikbokbmaihdbaaDoor
