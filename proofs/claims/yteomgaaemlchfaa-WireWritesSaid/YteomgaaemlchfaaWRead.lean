/-
  Layer 5: New, and a reader's Num (with its step).
-/
import Derived.Test.YteomgaaemlchfaaWTake
import Derived.Test.YteomgaaemlchfaaWPure
namespace Go.Proofs.Yteomgaaemlchfaa
open Go.RowKit

theorem New_at (l : List UInt8) (w : World) :
    Calls Try.prog 15 #[.string (str l)] w fun r w' => r = .returned (.pointer (some ⟨w.heap.size, 0, none⟩)) ∧ RD w.heap.size l 0 w' ∧ Below w.heap.size w w' := by
  go_enter Try.func15, Try.ntmps15
  go_wp2_with fail
  go_ret
  exact ⟨rfl, by show (w.heap.push _)[w.heap.size]? = _; simp, (Below.refl _ _).alloc (Nat.le_refl _) _⟩

theorem Num1_at (l : List UInt8) (w : World) (hl : l.length ≤ maxLen) (m g : Nat) (most : Nat) (hm : w.cell? ⟨m, 0, none⟩ = some (.int .u64 most)) (hg : w.cell? ⟨g, 0, none⟩ = some (.int .u64 0)) (hf : w.frozen? ⟨g, 0, none⟩ = false)
    (n k er : Nat) (hr : Hid (numR most l = (n, k, er))) :
    Calls Try.prog 28 #[.string (str l), .pointer (some ⟨m, 0, none⟩), .pointer (some ⟨g, 0, none⟩)] w fun r w' =>
      r = .returned (.tuple #[.int .i64 (k : Nat), .int .i64 (er : Nat)]) ∧ w'.cell? ⟨g, 0, none⟩ = some (.int .u64 (n : Nat)) ∧ Below g w w' := by
  have hs : (str l).size ≤ maxLen := hl
  obtain ⟨n0, k0, e0, H0⟩ : ∃ n0 k0 e0, rdN l = (n0, k0, e0) := ⟨_, _, _, rfl⟩
  have HR : Hid (rdN (str l).data.toList = (n0, k0, e0)) := by show _ = _; rw [← H0]; rfl
  have hr' := hr.out
  clear hr
  unfold numR at hr'
  rw [H0] at hr'
  clear H0
  by_cases h1 : e0 = 0
  · subst h1
    rw [if_neg (by simp)] at hr'
    by_cases h2 : most < n0
    · rw [if_pos h2] at hr'
      simp only [Prod.mk.injEq] at hr'
      obtain ⟨rfl, rfl, rfl⟩ := hr'
      go_enter Try.func28, Try.ntmps28
      go_wp2_with (go_at_call 29; refine (Read_at _ _ hs _ _ _ HR).mono ?_; rintro e w' ⟨rfl, rfl⟩)
      go_ret2
      exact ⟨rfl, hg, Below.refl _ _⟩
    · rw [if_neg h2] at hr'
      simp only [Prod.mk.injEq] at hr'
      obtain ⟨rfl, rfl, rfl⟩ := hr'
      go_enter Try.func28, Try.ntmps28
      go_wp2_with (go_at_call 29; refine (Read_at _ _ hs _ _ _ HR).mono ?_; rintro e w' ⟨rfl, rfl⟩)
      go_ret2
      exact ⟨rfl, World.cell?_setCell_same _ _ _ hg, (Below.refl _ _).setCell (p := ⟨g, 0, none⟩) (Nat.le_refl _) _⟩
  · rw [if_pos h1] at hr'
    simp only [Prod.mk.injEq] at hr'
    obtain ⟨rfl, rfl, rfl⟩ := hr'
    go_enter Try.func28, Try.ntmps28
    go_wp2_with (go_at_call 29; refine (Read_at _ _ hs _ _ _ HR).mono ?_; rintro e w' ⟨rfl, rfl⟩)
    go_ret2
    exact ⟨rfl, hg, Below.refl _ _⟩

set_option maxHeartbeats 1000000 in
theorem Num_at (b : Nat) (l : List UInt8) (w : World) (h : RD b l 0 w) (hl : l.length ≤ maxLen) (most : Nat) (n k er : Nat) (hr : Hid (numR most l = (n, k, er))) :
    Calls Try.prog 16 #[.pointer (some ⟨b, 0, none⟩), .int .u64 most] w fun r w' => r = .returned (.int .u64 (n : Nat)) ∧ RD b (l.drop k) er w' ∧ Below b w w' := by
  have hb := h.lt
  have hk : k ≤ l.length := by have := numR_len most l; rw [hr.out] at this; exact this
  obtain ⟨w2, hw2⟩ : ∃ w2, w2 = (w.alloc (.cells #[.int .u64 most] 32)).alloc (.cells #[.int .u64 0] 32) := ⟨_, rfl⟩
  have h2 : RD b l 0 w2 := by rw [hw2]; exact (h.alloc _).alloc _
  have hb2 : Below b w w2 := by rw [hw2]; exact ((Below.refl _ _).alloc (by omega) _).alloc (by simp; omega) _
  have cm : w2.cell? ⟨w.heap.size, 0, none⟩ = some (.int .u64 most) := by
    rw [hw2, World.cell?_alloc_past _ _ _ (by simp), World.cell?_alloc_at _ _ _ _ rfl]; rfl
  have cg : w2.cell? ⟨w.heap.size + 1, 0, none⟩ = some (.int .u64 0) := by rw [hw2, World.cell?_alloc_at _ _ _ _ (by simp)]; rfl
  have fg : w2.frozen? ⟨w.heap.size + 1, 0, none⟩ = false := by rw [hw2]; exact World.frozen?_alloc_at _ _ _ _ (by simp)
  have K := (Num1_at l w2 hl w.heap.size (w.heap.size + 1) most cm cg fg n k er hr).mono (R' := fun r w' => r = .returned (.tuple #[.int .i64 (k : Nat), .int .i64 (er : Nat)]) ∧ RD b l 0 w' ∧ Below b w2 w' ∧ w'.cell? ⟨w.heap.size + 1, 0, none⟩ = some (.int .u64 (n : Nat)))
    (by rintro r w' ⟨rfl, hc, hb'⟩; exact ⟨rfl, h2.below hb' (by omega), hb'.mono (by omega), hc⟩)
  have T := Lib.hid (take_ok 28 #[.pointer (some ⟨w.heap.size, 0, none⟩), .pointer (some ⟨w.heap.size + 1, 0, none⟩)] (enters_of Try.func28 (by kernel_rfl) rfl) b l w2 h2 k hk er
    (fun w' => w'.cell? ⟨w.heap.size + 1, 0, none⟩ = some (.int .u64 (n : Nat)))
    (fun W x y hq => by rw [World.cell?_setCell_other _ _ _ _ (by simp), World.cell?_setCell_other _ _ _ _ (by simp)]; exact hq) K)
  clear K cm cg fg h2 h hr hk
  subst hw2
  go_enter Try.func16, Try.ntmps16
  go_wp2_with (go_at_call 27; refine T.out.mono ?_; rintro e w' ⟨rfl, h3, hb3, hc3⟩)
  go_ret
  exact ⟨rfl, h3, hb2.trans hb3⟩

theorem Num_err (b : Nat) (l : List UInt8) (e : Int) (w : World) (h : RD b l e w) (he : e ≠ 0) (most : Int) :
    Calls Try.prog 16 #[.pointer (some ⟨b, 0, none⟩), .int .u64 most] w fun r w' => r = .returned (.int .u64 0) ∧ Below w.heap.size w w' := by
  have h2 : RD b l e ((w.alloc (.cells #[.int .u64 most] 32)).alloc (.cells #[.int .u64 0] 32)) := (h.alloc _).alloc _
  go_enter Try.func16, Try.ntmps16
  go_wp2_with (go_at_call 27; refine (take_err b l e _ _ h2 he).mono ?_; rintro r w' ⟨rfl, rfl⟩)
  go_ret
  exact ⟨rfl, ((Below.refl _ _).alloc (Nat.le_refl _) _).alloc (by simp) _⟩

theorem Num_nil (w : World) (most : Int) :
    Calls Try.prog 16 #[.pointer none, .int .u64 most] w fun r w' => r = .returned (.int .u64 0) ∧ Below w.heap.size w w' := by
  go_enter Try.func16, Try.ntmps16
  go_wp2_with (go_at_call 27; refine (take_nil _ _).mono ?_; rintro r w' ⟨rfl, rfl⟩)
  go_ret
  exact ⟨rfl, ((Below.refl _ _).alloc (Nat.le_refl _) _).alloc (by simp) _⟩

end Go.Proofs.Yteomgaaemlchfaa
