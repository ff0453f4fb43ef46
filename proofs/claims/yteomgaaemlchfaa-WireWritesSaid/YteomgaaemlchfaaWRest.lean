/-
  Layer 5: a reader's Text, Bool, Fail, End, Int (with their steps).
-/
import Derived.Test.YteomgaaemlchfaaWRead
import Derived.BigQuiet
namespace Go.Proofs.Yteomgaaemlchfaa
open Go.RowKit

theorem Clone_any (s : ByteArray) (w : World) (hs : s.size ≤ 281474976710656) :
    Calls Try.prog 32 #[.string s] w fun e w' => e = .returned (.string s) ∧ Below w.heap.size w w' := by
  go_enter Try.func32, Try.ntmps32
  go_wp2_with (go_at_call 39; refine (Try.stringslite_Clone s _ hs).mono ?_; rintro e w' ⟨rfl, hb⟩)
  go_ret
  exact ⟨rfl, hb⟩

theorem u64_nat (m : Nat) (h : m ≤ 9223372036854775807) : IntKind.u64.wrap (m : Int) = m := by rw [IntKind.wrap_u64]; omega
theorem i64_nat (m : Nat) (h : m ≤ 9223372036854775807) : IntKind.i64.wrap (m : Int) = m := by rw [IntKind.wrap_i64]; omega

theorem count_at (l : List UInt8) (w : World) (hl : l.length ≤ maxLen) (most : Nat) (hm : most ≤ 9223372036854775807) (above : Nat) (n k er : Nat) (hr : Hid (cntR most above l = (n, k, er))) :
    Calls Try.prog 31 #[.string (str l), .int .i64 most, .int .i64 above] w fun r w' =>
      r = .returned (.tuple #[.int .i64 (n : Nat), .int .i64 (k : Nat), .int .i64 (er : Nat)]) ∧ w = w' := by
  have hs : (str l).size ≤ maxLen := hl
  obtain ⟨n0, k0, e0, H0⟩ : ∃ n0 k0 e0, rdN l = (n0, k0, e0) := ⟨_, _, _, rfl⟩
  have HR : Hid (rdN (str l).data.toList = (n0, k0, e0)) := by show _ = _; rw [← H0]; rfl
  have hr' := hr.out
  clear hr
  unfold cntR at hr'
  rw [H0] at hr'
  clear H0
  by_cases h1 : e0 = 0
  · subst h1
    rw [if_neg (by simp)] at hr'
    by_cases h2 : most < n0
    · rw [if_pos h2] at hr'
      simp only [Prod.mk.injEq] at hr'
      obtain ⟨rfl, rfl, rfl⟩ := hr'
      go_enter Try.func31, Try.ntmps31
      go_wp2_with (go_at_call 29; refine (Read_at _ _ hs _ _ _ HR).mono ?_; rintro e w' ⟨rfl, rfl⟩)
      go_ret3
      exact ⟨rfl, rfl⟩
    · rw [if_neg h2] at hr'
      simp only [Prod.mk.injEq] at hr'
      obtain ⟨rfl, rfl, rfl⟩ := hr'
      have hn : n0 ≤ 9223372036854775807 := by omega
      have hw := i64_nat n0 hn
      go_enter Try.func31, Try.ntmps31
      go_wp2_with (go_at_call 29; refine (Read_at _ _ hs _ _ _ HR).mono ?_; rintro e w' ⟨rfl, rfl⟩)
      go_ret3
      exact ⟨rfl, rfl⟩
  · rw [if_pos h1] at hr'
    simp only [Prod.mk.injEq] at hr'
    obtain ⟨rfl, rfl, rfl⟩ := hr'
    go_enter Try.func31, Try.ntmps31
    go_wp2_with (go_at_call 29; refine (Read_at _ _ hs _ _ _ HR).mono ?_; rintro e w' ⟨rfl, rfl⟩)
    go_ret3
    exact ⟨rfl, rfl⟩

theorem str_part (l : List UInt8) (k n : Nat) : (str l).extract k (k + n) = str ((l.drop k).take n) := by
  apply ByteArray.ext
  rw [ByteArray.data_extract]
  simp only [str, List.extract_toArray, List.extract_eq_take_drop]
  rw [show k + n - k = n by omega]

theorem Text1_at (l : List UInt8) (w : World) (hl : l.length ≤ 281474976710656) (m g : Nat) (most : Nat) (hmm : most ≤ 9223372036854775807) (hm : w.cell? ⟨m, 0, none⟩ = some (.int .i64 most)) (hg : w.cell? ⟨g, 0, none⟩ = some (.string ⟨#[]⟩)) (hf : w.frozen? ⟨g, 0, none⟩ = false)
    (t : List UInt8) (k er : Nat) (hr : Hid (txtR most l = (t, k, er))) :
    Calls Try.prog 30 #[.string (str l), .pointer (some ⟨m, 0, none⟩), .pointer (some ⟨g, 0, none⟩)] w fun r w' =>
      r = .returned (.tuple #[.int .i64 (k : Nat), .int .i64 (er : Nat)]) ∧ w'.cell? ⟨g, 0, none⟩ = some (.string (str t)) ∧ Below g w w' := by
  have hs : l.length ≤ maxLen := by unfold maxLen; omega
  have hsz : (str l).size = l.length := rfl
  have hgl := World.block_lt_of_cell? w _ hg
  simp only at hgl
  obtain ⟨n0, k0, e0, H0⟩ : ∃ n0 k0 e0, cntR most 4 l = (n0, k0, e0) := ⟨_, _, _, rfl⟩
  have hk0 : k0 ≤ l.length := by have := cntR_len most 4 l; rw [H0] at this; exact this
  have hn0 : n0 ≤ most := by have := cntR_most most 4 l; rw [H0] at this; exact this
  have HR : Hid (cntR most 4 l = (n0, k0, e0)) := H0
  have hr' := hr.out
  clear hr
  unfold txtR at hr'
  rw [H0] at hr'
  clear H0
  have hsub : IntKind.i64.wrap ((l.length : Int) - (k0 : Int)) = ((l.length - k0 : Nat) : Int) := by rw [IntKind.wrap_i64]; omega
  by_cases h1 : e0 = 0
  · subst h1
    rw [if_neg (by simp)] at hr'
    by_cases h2 : l.length - k0 < n0
    · rw [if_pos h2] at hr'
      simp only [Prod.mk.injEq] at hr'
      obtain ⟨rfl, rfl, rfl⟩ := hr'
      go_enter Try.func30, Try.ntmps30
      go_wp2_with (go_at_call 31; refine (count_at l _ hs most hmm 4 _ _ _ HR).mono ?_; rintro e w' ⟨rfl, rfl⟩)
      go_ret2
      exact ⟨rfl, hg, Below.refl _ _⟩
    · rw [if_neg h2] at hr'
      simp only [Prod.mk.injEq] at hr'
      obtain ⟨rfl, rfl, rfl⟩ := hr'
      have h3 : k0 + n0 ≤ l.length := by omega
      have hx := str_part l k0 n0
      have ht : (str ((l.drop k0).take n0)).size ≤ 281474976710656 := by rw [str_size]; simp; omega
      obtain ⟨T, hT⟩ : ∃ T, T = str ((l.drop k0).take n0) := ⟨_, rfl⟩
      rw [← hT] at hx ht ⊢
      have hsl : ∀ W, (Instr.slice 9 (.string (str l)) (some (.int .i64 (k0 : Int))) (some (.int .i64 ((k0 : Int) + (n0 : Int)))) none).run Try.prog W = .ok (.string T) W := fun W => by
        rw [run_slice_string (P := Try.prog) W 9 (str l) .i64 .i64 k0 ((k0 : Int) + (n0 : Int)) Try.underlying9 (by omega) (by omega) (by rw [str_size]; omega)]
        rw [show ((k0 : Int)).toNat = k0 by omega, show ((k0 : Int) + (n0 : Int)).toNat = k0 + n0 by omega, hx]
      clear hT h2
      go_enter Try.func30, Try.ntmps30
      go_wp2_with (first
        | (go_at_call 31; refine (count_at l _ hs most hmm 4 _ _ _ HR).mono ?_; rintro e w' ⟨rfl, rfl⟩)
        | (go_at_call 32; refine (Clone_any T _ ht).mono ?_; rintro e w1 ⟨rfl, hb1⟩; have d1 := (hb1.cell (p := ⟨g, 0, none⟩) hgl).trans hg; have f1 := (hb1.frozen (p := ⟨g, 0, none⟩) hgl).trans hf))
      go_ret2
      exact ⟨rfl, World.cell?_setCell_same _ _ _ d1, (hb1.mono (B' := g) (by omega)).setCell (p := ⟨g, 0, none⟩) (Nat.le_refl _) _⟩
  · rw [if_pos h1] at hr'
    simp only [Prod.mk.injEq] at hr'
    obtain ⟨rfl, rfl, rfl⟩ := hr'
    go_enter Try.func30, Try.ntmps30
    go_wp2_with (go_at_call 31; refine (count_at l _ hs most hmm 4 _ _ _ HR).mono ?_; rintro e w' ⟨rfl, rfl⟩)
    go_ret2
    exact ⟨rfl, hg, Below.refl _ _⟩

set_option maxHeartbeats 1000000 in
theorem Text_at (b : Nat) (l : List UInt8) (w : World) (h : RD b l 0 w) (hl : l.length ≤ 281474976710656) (most : Nat) (hmm : most ≤ 9223372036854775807) (t : List UInt8) (k er : Nat) (hr : Hid (txtR most l = (t, k, er))) :
    Calls Try.prog 17 #[.pointer (some ⟨b, 0, none⟩), .int .i64 most] w fun r w' => r = .returned (.string (str t)) ∧ RD b (l.drop k) er w' ∧ Below b w w' := by
  have hb := h.lt
  have hk : k ≤ l.length := by have := txtR_len most l; rw [hr.out] at this; exact this
  obtain ⟨w2, hw2⟩ : ∃ w2, w2 = (w.alloc (.cells #[.int .i64 most] 3)).alloc (.cells #[.string ⟨#[]⟩] 9) := ⟨_, rfl⟩
  have h2 : RD b l 0 w2 := by rw [hw2]; exact (h.alloc _).alloc _
  have hb2 : Below b w w2 := by rw [hw2]; exact ((Below.refl _ _).alloc (by omega) _).alloc (by simp; omega) _
  have cm : w2.cell? ⟨w.heap.size, 0, none⟩ = some (.int .i64 most) := by
    rw [hw2, World.cell?_alloc_past _ _ _ (by simp), World.cell?_alloc_at _ _ _ _ rfl]; rfl
  have cg : w2.cell? ⟨w.heap.size + 1, 0, none⟩ = some (.string ⟨#[]⟩) := by rw [hw2, World.cell?_alloc_at _ _ _ _ (by simp)]; rfl
  have fg : w2.frozen? ⟨w.heap.size + 1, 0, none⟩ = false := by rw [hw2]; exact World.frozen?_alloc_at _ _ _ _ (by simp)
  have K := (Text1_at l w2 hl w.heap.size (w.heap.size + 1) most hmm cm cg fg t k er hr).mono (R' := fun r w' => r = .returned (.tuple #[.int .i64 (k : Nat), .int .i64 (er : Nat)]) ∧ RD b l 0 w' ∧ Below b w2 w' ∧ w'.cell? ⟨w.heap.size + 1, 0, none⟩ = some (.string (str t)))
    (by rintro r w' ⟨rfl, hc, hb'⟩; exact ⟨rfl, h2.below hb' (by omega), hb'.mono (by omega), hc⟩)
  have T := Lib.hid (take_ok 30 #[.pointer (some ⟨w.heap.size, 0, none⟩), .pointer (some ⟨w.heap.size + 1, 0, none⟩)] (enters_of Try.func30 (by kernel_rfl) rfl) b l w2 h2 k hk er
    (fun w' => w'.cell? ⟨w.heap.size + 1, 0, none⟩ = some (.string (str t)))
    (fun W x y hq => by rw [World.cell?_setCell_other _ _ _ _ (by simp), World.cell?_setCell_other _ _ _ _ (by simp)]; exact hq) K)
  clear K cm cg fg h2 h hr hk
  subst hw2
  go_enter Try.func17, Try.ntmps17
  go_wp2_with (go_at_call 27; refine T.out.mono ?_; rintro e w' ⟨rfl, h4, hb4, hc4⟩)
  go_ret
  exact ⟨rfl, h4, hb2.trans hb4⟩

theorem Text_err (b : Nat) (l : List UInt8) (e : Int) (w : World) (h : RD b l e w) (he : e ≠ 0) (most : Int) :
    Calls Try.prog 17 #[.pointer (some ⟨b, 0, none⟩), .int .i64 most] w fun r w' => r = .returned (.string ⟨#[]⟩) ∧ Below w.heap.size w w' := by
  have h2 : RD b l e ((w.alloc (.cells #[.int .i64 most] 3)).alloc (.cells #[.string ⟨#[]⟩] 9)) := (h.alloc _).alloc _
  go_enter Try.func17, Try.ntmps17
  go_wp2_with (go_at_call 27; refine (take_err b l e _ _ h2 he).mono ?_; rintro r w' ⟨rfl, rfl⟩)
  go_ret
  exact ⟨rfl, ((Below.refl _ _).alloc (Nat.le_refl _) _).alloc (by simp) _⟩

theorem Text_nil (w : World) (most : Int) :
    Calls Try.prog 17 #[.pointer none, .int .i64 most] w fun r w' => r = .returned (.string ⟨#[]⟩) ∧ Below w.heap.size w w' := by
  go_enter Try.func17, Try.ntmps17
  go_wp2_with (go_at_call 27; refine (take_nil _ _).mono ?_; rintro r w' ⟨rfl, rfl⟩)
  go_ret
  exact ⟨rfl, ((Below.refl _ _).alloc (Nat.le_refl _) _).alloc (by simp) _⟩

theorem Int_err (b : Nat) (l : List UInt8) (e : Int) (w : World) (h : RD b l e w) (he : e ≠ 0) (most : Int) :
    Calls Try.prog 22 #[.pointer (some ⟨b, 0, none⟩), .int .i64 most] w fun r w' => r = .returned (.int .i64 0) ∧ Below w.heap.size w w' := by
  have h2 : RD b l e ((w.alloc (.cells #[.int .i64 most] 3)).alloc (.cells #[.int .i64 0] 3)) := (h.alloc _).alloc _
  go_enter Try.func22, Try.ntmps22
  go_wp2_with (go_at_call 27; refine (take_err b l e _ _ h2 he).mono ?_; rintro r w' ⟨rfl, rfl⟩)
  go_ret
  exact ⟨rfl, ((Below.refl _ _).alloc (Nat.le_refl _) _).alloc (by simp) _⟩

theorem Int_nil (w : World) (most : Int) :
    Calls Try.prog 22 #[.pointer none, .int .i64 most] w fun r w' => r = .returned (.int .i64 0) ∧ Below w.heap.size w w' := by
  go_enter Try.func22, Try.ntmps22
  go_wp2_with (go_at_call 27; refine (take_nil _ _).mono ?_; rintro r w' ⟨rfl, rfl⟩)
  go_ret
  exact ⟨rfl, ((Below.refl _ _).alloc (Nat.le_refl _) _).alloc (by simp) _⟩

theorem Bool1_at (l : List UInt8) (w : World) (g : Nat) (hg : w.cell? ⟨g, 0, none⟩ = some (.bool false)) (hf : w.frozen? ⟨g, 0, none⟩ = false) (t : Bool) (k er : Nat) (hr : Hid (bolR l = (t, k, er))) :
    Calls Try.prog 33 #[.string (str l), .pointer (some ⟨g, 0, none⟩)] w fun r w' =>
      r = .returned (.tuple #[.int .i64 (k : Nat), .int .i64 (er : Nat)]) ∧ w'.cell? ⟨g, 0, none⟩ = some (.bool t) ∧ Below g w w' := by
  have hr' := hr.out
  clear hr
  cases l with
  | nil =>
    simp only [bolR, Prod.mk.injEq] at hr'
    obtain ⟨rfl, rfl, rfl⟩ := hr'
    have hd : (str []).toList.isEmpty = true := by rw [Lib.toList_data]; rfl
    go_enter Try.func33, Try.ntmps33
    go_wp2_with fail
    go_ret2
    exact ⟨rfl, hg, Below.refl _ _⟩
  | cons c l =>
    have hs : (str (c :: l)).size = l.length + 1 := rfl
    have hx : (str (c :: l))[0]'(by rw [hs]; omega) = c := rfl
    have hd : (str (c :: l)).toList.isEmpty = false := by rw [Lib.toList_data]; rfl
    simp only [bolR] at hr'
    by_cases h1 : 1 < c.toNat
    · rw [if_pos h1] at hr'
      simp only [Prod.mk.injEq] at hr'
      obtain ⟨rfl, rfl, rfl⟩ := hr'
      go_enter Try.func33, Try.ntmps33
      go_wp2_with fail
      go_ret2
      exact ⟨rfl, hg, Below.refl _ _⟩
    · rw [if_neg h1] at hr'
      simp only [Prod.mk.injEq] at hr'
      obtain ⟨rfl, rfl, rfl⟩ := hr'
      have hq : decide (c.toNat = 1) = ((c.toNat : Int) == 1) := by
        rw [Bool.eq_iff_iff, decide_eq_true_iff, beq_iff_eq]; omega
      rw [hq]
      clear hq
      go_enter Try.func33, Try.ntmps33
      go_wp2_with fail
      go_ret2
      exact ⟨rfl, World.cell?_setCell_same _ _ _ hg, (Below.refl _ _).setCell (p := ⟨g, 0, none⟩) (Nat.le_refl _) _⟩

theorem Fail1_at (l : List UInt8) (w : World) (m : Nat) (e : Int) (hm : w.cell? ⟨m, 0, none⟩ = some (.int .i64 e)) :
    Calls Try.prog 35 #[.string (str l), .pointer (some ⟨m, 0, none⟩)] w fun r w' =>
      r = .returned (.tuple #[.int .i64 (0 : Nat), .int .i64 e]) ∧ Below w.heap.size w w' := by
  go_enter Try.func35, Try.ntmps35
  go_wp2_with fail
  go_quiet (fail)
  go_wp2_with fail
  go_ret2
  exact ⟨rfl, ⟨rfl, rfl, rfl, Nat.le_refl _, fun _ _ => rfl⟩⟩

theorem End1_nil (w : World) :
    Calls Try.prog 34 #[.string (str [])] w fun r w' => r = .returned (.tuple #[.int .i64 (0 : Nat), .int .i64 (0 : Nat)]) ∧ w = w' := by
  have hd : (str []).toList.isEmpty = true := by rw [Lib.toList_data]; rfl
  go_enter Try.func34, Try.ntmps34
  go_wp2_with fail
  go_ret2
  exact ⟨rfl, rfl⟩
theorem End1_cons (c : UInt8) (l : List UInt8) (w : World) :
    Calls Try.prog 34 #[.string (str (c :: l))] w fun r w' => r = .returned (.tuple #[.int .i64 (0 : Nat), .int .i64 (8 : Nat)]) ∧ w = w' := by
  have hd : (str (c :: l)).toList.isEmpty = false := by rw [Lib.toList_data]; rfl
  go_enter Try.func34, Try.ntmps34
  go_wp2_with fail
  go_ret2
  exact ⟨rfl, rfl⟩

set_option maxHeartbeats 1000000 in
theorem Bool_at (b : Nat) (l : List UInt8) (w : World) (h : RD b l 0 w) (t : Bool) (k er : Nat) (hr : Hid (bolR l = (t, k, er))) :
    Calls Try.prog 18 #[.pointer (some ⟨b, 0, none⟩)] w fun r w' => r = .returned (.bool t) ∧ RD b (l.drop k) er w' ∧ Below b w w' := by
  have hb := h.lt
  have hk : k ≤ l.length := by have := bolR_len l; rw [hr.out] at this; exact this
  obtain ⟨w2, hw2⟩ : ∃ w2, w2 = w.alloc (.cells #[.bool false] 4) := ⟨_, rfl⟩
  have h2 : RD b l 0 w2 := by rw [hw2]; exact h.alloc _
  have hb2 : Below b w w2 := by rw [hw2]; exact (Below.refl _ _).alloc (by omega) _
  have cg : w2.cell? ⟨w.heap.size, 0, none⟩ = some (.bool false) := by rw [hw2, World.cell?_alloc_at _ _ _ _ rfl]; rfl
  have fg : w2.frozen? ⟨w.heap.size, 0, none⟩ = false := by rw [hw2]; exact World.frozen?_alloc_at _ _ _ _ rfl
  have K := (Bool1_at l w2 w.heap.size cg fg t k er hr).mono (R' := fun r w' => r = .returned (.tuple #[.int .i64 (k : Nat), .int .i64 (er : Nat)]) ∧ RD b l 0 w' ∧ Below b w2 w' ∧ w'.cell? ⟨w.heap.size, 0, none⟩ = some (.bool t))
    (by rintro r w' ⟨rfl, hc, hb'⟩; exact ⟨rfl, h2.below hb' (by omega), hb'.mono (by omega), hc⟩)
  have T := Lib.hid (take_ok 33 #[.pointer (some ⟨w.heap.size, 0, none⟩)] (enters_of Try.func33 (by kernel_rfl) rfl) b l w2 h2 k hk er
    (fun w' => w'.cell? ⟨w.heap.size, 0, none⟩ = some (.bool t))
    (fun W x y hq => by rw [World.cell?_setCell_other _ _ _ _ (by simp), World.cell?_setCell_other _ _ _ _ (by simp)]; exact hq) K)
  clear K cg fg h2 h hr hk
  subst hw2
  go_enter Try.func18, Try.ntmps18
  go_wp2_with (go_at_call 27; refine T.out.mono ?_; rintro e w' ⟨rfl, h3, hb3, hc3⟩)
  go_ret
  exact ⟨rfl, h3, hb2.trans hb3⟩

theorem Bool_err (b : Nat) (l : List UInt8) (e : Int) (w : World) (h : RD b l e w) (he : e ≠ 0) :
    Calls Try.prog 18 #[.pointer (some ⟨b, 0, none⟩)] w fun r w' => r = .returned (.bool false) ∧ Below w.heap.size w w' := by
  have h2 : RD b l e (w.alloc (.cells #[.bool false] 4)) := h.alloc _
  go_enter Try.func18, Try.ntmps18
  go_wp2_with (go_at_call 27; refine (take_err b l e _ _ h2 he).mono ?_; rintro r w' ⟨rfl, rfl⟩)
  go_ret
  exact ⟨rfl, (Below.refl _ _).alloc (Nat.le_refl _) _⟩

theorem Bool_nil (w : World) :
    Calls Try.prog 18 #[.pointer none] w fun r w' => r = .returned (.bool false) ∧ Below w.heap.size w w' := by
  go_enter Try.func18, Try.ntmps18
  go_wp2_with (go_at_call 27; refine (take_nil _ _).mono ?_; rintro r w' ⟨rfl, rfl⟩)
  go_ret
  exact ⟨rfl, (Below.refl _ _).alloc (Nat.le_refl _) _⟩

set_option maxHeartbeats 1000000 in
theorem Fail_at (b : Nat) (l : List UInt8) (w : World) (h : RD b l 0 w) (e : Int) :
    Calls Try.prog 21 #[.pointer (some ⟨b, 0, none⟩), .int .i64 e] w fun r w' => r = .returned (.tuple #[]) ∧ RD b l e w' ∧ Below b w w' := by
  have hb := h.lt
  obtain ⟨w2, hw2⟩ : ∃ w2, w2 = w.alloc (.cells #[.int .i64 e] 35) := ⟨_, rfl⟩
  have h2 : RD b l 0 w2 := by rw [hw2]; exact h.alloc _
  have hb2 : Below b w w2 := by rw [hw2]; exact (Below.refl _ _).alloc (by omega) _
  have hz : w2.heap.size = w.heap.size + 1 := by rw [hw2]; simp
  have cg : w2.cell? ⟨w.heap.size, 0, none⟩ = some (.int .i64 e) := by rw [hw2, World.cell?_alloc_at _ _ _ _ rfl]; rfl
  have K := (Fail1_at l w2 w.heap.size e cg).mono (R' := fun r w' => r = .returned (.tuple #[.int .i64 (0 : Nat), .int .i64 e]) ∧ RD b l 0 w' ∧ Below b w2 w' ∧ True)
    (by rintro r w' ⟨rfl, hb'⟩; exact ⟨rfl, h2.below hb' (by omega), hb'.mono (by omega), trivial⟩)
  have T := Lib.hid (take_ok 35 #[.pointer (some ⟨w.heap.size, 0, none⟩)] (enters_of Try.func35 (by kernel_rfl) rfl) b l w2 h2 0 (Nat.zero_le _) e
    (fun _ => True) (fun _ _ _ _ => trivial) K)
  clear K cg h2 h hz
  subst hw2
  go_enter Try.func21, Try.ntmps21
  go_wp2_with (go_at_call 27; refine T.out.mono ?_; rintro e w' ⟨rfl, h3, hb3, _⟩)
  go_end0
  exact ⟨rfl, h3, hb2.trans hb3⟩

theorem Fail_err (b : Nat) (l : List UInt8) (e : Int) (w : World) (h : RD b l e w) (he : e ≠ 0) (e' : Int) :
    Calls Try.prog 21 #[.pointer (some ⟨b, 0, none⟩), .int .i64 e'] w fun r w' => r = .returned (.tuple #[]) ∧ Below w.heap.size w w' := by
  have h2 : RD b l e (w.alloc (.cells #[.int .i64 e'] 35)) := h.alloc _
  go_enter Try.func21, Try.ntmps21
  go_wp2_with (go_at_call 27; refine (take_err b l e _ _ h2 he).mono ?_; rintro r w' ⟨rfl, rfl⟩)
  go_end0
  exact ⟨rfl, (Below.refl _ _).alloc (Nat.le_refl _) _⟩

theorem Fail_nil (w : World) (e' : Int) :
    Calls Try.prog 21 #[.pointer none, .int .i64 e'] w fun r w' => r = .returned (.tuple #[]) ∧ Below w.heap.size w w' := by
  go_enter Try.func21, Try.ntmps21
  go_wp2_with (go_at_call 27; refine (take_nil _ _).mono ?_; rintro r w' ⟨rfl, rfl⟩)
  go_end0
  exact ⟨rfl, (Below.refl _ _).alloc (Nat.le_refl _) _⟩

/-- End: bytes that are left are an error. -/
def endR (l : List UInt8) : Nat := if l = [] then 0 else 8
theorem End_at (b : Nat) (l : List UInt8) (w : World) (h : RD b l 0 w) (er : Nat) (hr : Hid (endR l = er)) :
    Calls Try.prog 20 #[.pointer (some ⟨b, 0, none⟩)] w fun r w' => r = .returned (.int .i64 (er : Nat)) ∧ RD b l er w' ∧ Below b w w' := by
  have K : Calls Try.prog 34 #[.string (str l)] w fun r w' => r = .returned (.tuple #[.int .i64 (0 : Nat), .int .i64 (er : Nat)]) ∧ RD b l 0 w' ∧ Below b w w' ∧ True := by
    have hr' := hr.out
    cases l with
    | nil =>
      obtain rfl : er = 0 := hr'.symm
      exact (End1_nil w).mono (by rintro r w' ⟨rfl, rfl⟩; exact ⟨rfl, h, Below.refl _ _, trivial⟩)
    | cons c l =>
      obtain rfl : er = 8 := hr'.symm.trans (by simp [endR])
      exact (End1_cons c l w).mono (by rintro r w' ⟨rfl, rfl⟩; exact ⟨rfl, h, Below.refl _ _, trivial⟩)
  have T := Lib.hid (take_ok 34 #[] (enters_of Try.func34 (by kernel_rfl) rfl) b l w h 0 (Nat.zero_le _) er
    (fun _ => True) (fun _ _ _ _ => trivial) K)
  clear K h
  go_enter Try.func20, Try.ntmps20
  go_wp2_with (first
    | (go_at_call 27; refine T.out.mono ?_; rintro e w' ⟨rfl, h3, hb3, _⟩)
    | (go_at_call 19; refine (Err_at b l er _ h3).mono ?_; rintro e w' ⟨rfl, rfl⟩))
  go_ret
  exact ⟨rfl, h3, hb3⟩

theorem End_err (b : Nat) (l : List UInt8) (e : Int) (w : World) (h : RD b l e w) (he : e ≠ 0) :
    Calls Try.prog 20 #[.pointer (some ⟨b, 0, none⟩)] w fun r w' => r = .returned (.int .i64 e) ∧ w = w' := by
  go_enter Try.func20, Try.ntmps20
  go_wp2_with (first
    | (go_at_call 27; refine (take_err b l e _ _ h he).mono ?_; rintro r w' ⟨rfl, rfl⟩)
    | (go_at_call 19; refine (Err_at b l e _ h).mono ?_; rintro r w' ⟨rfl, rfl⟩))
  go_ret
  exact ⟨rfl, rfl⟩

theorem End_nil (w : World) :
    Calls Try.prog 20 #[.pointer none] w fun r w' => r = .returned (.int .i64 1) ∧ w = w' := by
  go_enter Try.func20, Try.ntmps20
  go_wp2_with (first
    | (go_at_call 27; refine (take_nil _ _).mono ?_; rintro r w' ⟨rfl, rfl⟩)
    | (go_at_call 19; refine (Err_nil _).mono ?_; rintro r w' ⟨rfl, rfl⟩))
  go_ret
  exact ⟨rfl, rfl⟩

end Go.Proofs.Yteomgaaemlchfaa
