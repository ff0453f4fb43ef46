/-
  Layer 5, plain mathematics: unlike lists have unlike bytes.
-/
import Derived.Test.YteomgaaemlchfaaWArgs
import Derived.Test.YteomgaaemlchfaaWRest
namespace Go.Proofs.Yteomgaaemlchfaa
open Go.RowKit

theorem ub_app (x y : Nat) (hx : x < 18446744073709551616) (hy : y < 18446744073709551616) (a b : List UInt8) (h : ub x ++ a = ub y ++ b) : x = y ∧ a = b := by
  have h1 := rdN_back x a hx
  have h2 := rdN_back y b hy
  rw [h, h2] at h1
  have e : x = y := by injection h1 with e _; exact e.symm
  subst e
  exact ⟨rfl, List.append_cancel_left h⟩

theorem cat_inj : ∀ (N M : List Nat), (∀ x ∈ N, x < 18446744073709551616) → (∀ x ∈ M, x < 18446744073709551616) → cat N = cat M → N = M
  | [], [], _, _, _ => rfl
  | [], y :: M, _, _, h => by
    have h1 := ub_pos y
    have h2 := congrArg List.length h
    simp only [cat, List.flatMap_nil, List.flatMap_cons, List.length_append, List.length_nil] at h2
    omega
  | x :: N, [], _, _, h => by
    have h1 := ub_pos x
    have h2 := congrArg List.length h
    simp only [cat, List.flatMap_nil, List.flatMap_cons, List.length_append, List.length_nil] at h2
    omega
  | x :: N, y :: M, hN, hM, h => by
    simp only [cat, List.flatMap_cons] at h
    obtain ⟨e, h'⟩ := ub_app x y (hN x List.mem_cons_self) (hM y List.mem_cons_self) _ _ h
    rw [e, cat_inj N M (fun z hz => hN z (List.mem_cons_of_mem _ hz)) (fun z hz => hM z (List.mem_cons_of_mem _ hz)) h']

theorem bytes_inj {a b : ByteArray} (h : a.data.toList = b.data.toList) : a = b := ByteArray.ext (Array.ext' h)

theorem txs_pre : ∀ (ss tt : List ByteArray) (r : List UInt8), (∀ s ∈ ss, s.size < 18446744073709551616) → (∀ s ∈ tt, s.size < 18446744073709551616) → txs ss ++ r = txs tt → ∃ uu, tt = ss ++ uu ∧ r = txs uu
  | [], tt, r, _, _, h => ⟨tt, rfl, h⟩
  | s :: ss, [], r, _, _, h => by
    have h1 := ub_pos s.data.toList.length
    have h2 := congrArg List.length h
    simp only [txs, txb, List.flatMap_nil, List.flatMap_cons, List.length_append, List.length_nil] at h2
    omega
  | s :: ss, t :: tt, r, hs, ht, h => by
    have es : s.data.toList.length = s.size := by simp
    have et : t.data.toList.length = t.size := by simp
    have h1 := hs s List.mem_cons_self
    have h2 := ht t List.mem_cons_self
    simp only [txs, txb, List.flatMap_cons, List.append_assoc] at h
    obtain ⟨e, h'⟩ := ub_app _ _ (by omega) (by omega) _ _ h
    obtain ⟨e1, e2⟩ := List.append_inj h' e
    obtain ⟨uu, e3, e4⟩ := txs_pre ss tt r (fun z hz => hs z (List.mem_cons_of_mem _ hz)) (fun z hz => ht z (List.mem_cons_of_mem _ hz)) e2
    exact ⟨uu, by rw [bytes_inj e1, e3]; rfl, e4⟩

theorem tot_app (ss tt : List ByteArray) : tot (ss ++ tt) = tot ss + tot tt := by simp [tot]
theorem tot_mem {ss : List ByteArray} {s : ByteArray} (h : s ∈ ss) : 1 + s.size ≤ tot ss := by
  induction ss with
  | nil => cases h
  | cons a t ih =>
    simp only [tot, List.map_cons, List.sum_cons]
    rcases List.mem_cons.1 h with rfl | h
    · omega
    · have := ih h
      simp only [tot] at this
      omega

/-- The three tests of the law: each told by what the lists are. -/
theorem apart_nums (N M : List Nat) (hN : ∀ x ∈ N, x ≤ 18446744073709551615) (hM : ∀ x ∈ M, x ≤ 18446744073709551615) (X1 X2 : ByteArray) (h1 : str (cat N) = X1) (h2 : str (cat M) = X2) (sm : Bool) (h : sm = true ↔ N = M) :
    (X1.toList == X2.toList) = sm := by
  have e : (X1.toList == X2.toList) = true ↔ N = M := by
    rw [beq_iff_eq, Lib.toList_data, Lib.toList_data, ← h1, ← h2]
    exact ⟨fun h => cat_inj N M (fun x hx => by have := hN x hx; omega) (fun x hx => by have := hM x hx; omega) h, fun h => by rw [h]⟩
  rw [Bool.eq_iff_iff, e, h]

theorem apart_pre (ss tt : List ByteArray) (hs : ∀ s ∈ ss, s.size < 8192) (ht : ∀ s ∈ tt, s.size < 8192) (Y1 Y2 : ByteArray) (h1 : str (txs ss) = Y1) (h2 : str (txs tt) = Y2) (fm : Bool) (h : fm = true ↔ ss.length ≤ tt.length ∧ ss = tt.take ss.length) :
    (fm = true → Y1.size ≤ Y2.size) ∧ (Y1.size ≤ Y2.size → ((Y2.extract 0 Y1.size).toList == Y1.toList) = fm) ∧ (Y1.toList == Y2.toList) = (fm && decide (ss.length = tt.length)) := by
  have e1 : fm = true ↔ ∃ r, txs ss ++ r = txs tt := by
    rw [h]
    constructor
    · rintro ⟨_, h4⟩
      refine ⟨txs (tt.drop ss.length), ?_⟩
      conv => rhs; rw [← List.take_append_drop ss.length tt, ← h4, txs, List.flatMap_append]
      rfl
    · rintro ⟨r, hr⟩
      obtain ⟨uu, e, _⟩ := txs_pre ss tt r (fun s h => by have := hs s h; omega) (fun s h => by have := ht s h; omega) hr
      rw [e]
      exact ⟨by rw [List.length_append]; omega, by rw [List.take_left]⟩
  have z1 : Y1.size = (txs ss).length := by rw [← h1]; rfl
  have z2 : Y2.size = (txs tt).length := by rw [← h2]; rfl
  refine ⟨fun hf => ?_, fun hz => ?_, ?_⟩
  · obtain ⟨r, hr⟩ := e1.1 hf
    have := congrArg List.length hr
    rw [List.length_append] at this
    omega
  · rw [Bool.eq_iff_iff, beq_iff_eq, e1, Lib.toList_data, Lib.toList_data]
    have e2 : (Y2.extract 0 Y1.size).data.toList = (txs tt).take (txs ss).length := by
      have := str_part (txs tt) 0 (txs ss).length
      rw [Nat.zero_add, List.drop_zero, h2] at this
      rw [z1, this]; rfl
    rw [e2, ← h1]
    constructor
    · intro h4
      refine ⟨(txs tt).drop (txs ss).length, ?_⟩
      have h5 : (txs tt).take (txs ss).length = txs ss := h4
      calc txs ss ++ (txs tt).drop (txs ss).length = (txs tt).take (txs ss).length ++ (txs tt).drop (txs ss).length := by rw [h5]
        _ = txs tt := List.take_append_drop _ _
    · rintro ⟨r, hr⟩
      rw [← hr, List.take_left]
      rfl
  · rw [Bool.eq_iff_iff, beq_iff_eq, Bool.and_eq_true, decide_eq_true_iff, Lib.toList_data, Lib.toList_data, ← h1, ← h2]
    constructor
    · intro h4
      have h5 : txs ss = txs tt := h4
      obtain ⟨uu, e, e'⟩ := txs_pre ss tt [] (fun s h => by have := hs s h; omega) (fun s h => by have := ht s h; omega) (by rw [List.append_nil]; exact h5)
      have hu : uu = [] := by
        cases uu with
        | nil => rfl
        | cons u us =>
          have h1 := ub_pos u.data.toList.length
          have h2 := congrArg List.length e'
          simp only [txs, txb, List.flatMap_cons, List.length_append, List.length_nil] at h2
          omega
      rw [hu, List.append_nil] at e
      exact ⟨e1.2 ⟨[], by rw [List.append_nil]; exact h5⟩, by rw [e]⟩
    · rintro ⟨hf, hl⟩
      have := (h.1 hf).2
      rw [hl, List.take_length] at this
      rw [this]

end Go.Proofs.Yteomgaaemlchfaa
