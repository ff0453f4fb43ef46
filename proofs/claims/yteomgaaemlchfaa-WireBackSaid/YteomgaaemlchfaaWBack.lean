/-
  Layer 5: bytes that were written, of which some may be cut off, or others stand behind: what each call makes of them.
-/
import Derived.Test.YteomgaaemlchfaaWRest
import Derived.Test.YteomgaaemlchfaaWTexts
namespace Go.Proofs.Yteomgaaemlchfaa
open Go.RowKit

/-- What is left of X, of which d bytes are cut off (behind which Y stands, if none is): or the error has come. -/
def Jst (X : List UInt8) (d : Nat) (Y : List UInt8) (er : Nat) (l : List UInt8) : Prop :=
  (er = 0 ∧ d ≤ X.length ∧ l = X.take (X.length - d) ++ Y ∧ l.length ≤ 1000000) ∨ (er ≠ 0 ∧ 0 < d)

theorem take_in (a b : List UInt8) (d : Nat) (h : d ≤ b.length) : (a ++ b).take ((a ++ b).length - d) = a ++ b.take (b.length - d) := by
  rw [List.take_append, List.take_of_length_le (by rw [List.length_append]; omega)]
  congr 2
  rw [List.length_append]; omega
theorem take_out (a b : List UInt8) (d : Nat) (h : b.length < d) : (a ++ b).take ((a ++ b).length - d) = a.take (a.length + b.length - d) := by
  rw [List.take_append, List.length_append, show a.length + b.length - d - a.length = 0 by omega, List.take_zero, List.append_nil]

theorem num_step (x : Nat) (hx : x < 18446744073709551616) (X : List UInt8) (d : Nat) (Y : List UInt8) (hY : d = 0 ∨ Y = []) (l : List UInt8) (h : Jst (ub x ++ X) d Y 0 l) :
    ∃ v k er, numR 18446744073709551615 l = (v, k, er) ∧ Jst X d Y er (l.drop k) ∧ (d = 0 → v = x) := by
  rcases h with ⟨_, hd, hl, hs⟩ | ⟨h, _⟩
  · by_cases hdx : d ≤ X.length
    · rw [take_in _ _ _ hdx, List.append_assoc] at hl
      have hr : rdN l = (x, (ub x).length, 0) := by rw [hl]; exact rdN_back x _ hx
      refine ⟨x, (ub x).length, 0, ?_, Or.inl ⟨rfl, hdx, ?_, ?_⟩, fun _ => rfl⟩
      · unfold numR
        rw [hr]
        simp only [ne_eq, not_true_eq_false, if_false]
        rw [if_neg (by omega)]
      · rw [hl, List.drop_left]
      · rw [List.length_drop]; omega
    · have hY' : Y = [] := by rcases hY with h | h
                              · omega
                              · exact h
      rw [take_out _ _ _ (by omega), hY', List.append_nil] at hl
      have hr : rdN l = (0, 0, 20) := by rw [hl]; exact rdN_short x _ (by rw [List.length_append] at hd; have := ub_pos x; omega)
      refine ⟨0, 0, 20, ?_, Or.inr ⟨by decide, by omega⟩, fun h => by omega⟩
      unfold numR
      rw [hr]
      rfl
  · exact absurd rfl h

theorem txt_step (s : List UInt8) (hx : s.length ≤ 8192) (X : List UInt8) (d : Nat) (Y : List UInt8) (hY : d = 0 ∨ Y = []) (l : List UInt8) (h : Jst (txb s ++ X) d Y 0 l) :
    ∃ v k er, txtR 8192 l = (v, k, er) ∧ Jst X d Y er (l.drop k) ∧ (d = 0 → v = s) := by
  rcases h with ⟨_, hd, hl, hs⟩ | ⟨h, _⟩
  · by_cases hdx : d ≤ X.length
    · rw [take_in _ _ _ hdx, txb, List.append_assoc, List.append_assoc] at hl
      have hr : rdN l = (s.length, (ub s.length).length, 0) := by rw [hl]; exact rdN_back _ _ (by omega)
      have hc : cntR 8192 4 l = (s.length, (ub s.length).length, 0) := by
        unfold cntR
        rw [hr]
        simp only [ne_eq, not_true_eq_false, if_false]
        rw [if_neg (by omega)]
      have hll : l.length = (ub s.length).length + (s.length + (X.take (X.length - d) ++ Y).length) := by rw [hl, List.length_append, List.length_append]
      refine ⟨s, (ub s.length).length + s.length, 0, ?_, Or.inl ⟨rfl, hdx, ?_, ?_⟩, fun _ => rfl⟩
      · unfold txtR
        rw [hc]
        simp only [ne_eq, not_true_eq_false, if_false]
        rw [if_neg (by omega)]
        congr 1
        rw [hl, List.drop_left, List.take_left]
      · rw [hl, ← List.append_assoc, ← List.length_append, List.drop_left]
      · rw [List.length_drop]; omega
    · have hY' : Y = [] := by rcases hY with h | h
                              · omega
                              · exact h
      rw [take_out _ _ _ (by omega), hY', List.append_nil] at hl
      rw [List.length_append] at hd
      refine ⟨[], 0, 20, ?_, Or.inr ⟨by decide, by omega⟩, fun h => by omega⟩
      by_cases hn : (txb s).length + X.length - d < (ub s.length).length
      · have hr : rdN l = (0, 0, 20) := by
          rw [hl, txb, List.take_append_of_le_length (by rw [txb] at hn; omega)]
          exact rdN_short _ _ (by rw [txb] at hn; exact hn)
        unfold txtR cntR
        rw [hr]
        rfl
      · have hl' : l = ub s.length ++ s.take ((txb s).length + X.length - d - (ub s.length).length) := by
          rw [hl]
          conv => lhs; rw [txb, List.take_append, List.take_of_length_le (by rw [txb] at hn; omega)]
          rfl
        have hr : rdN l = (s.length, (ub s.length).length, 0) := by rw [hl']; exact rdN_back _ _ (by omega)
        have hc : cntR 8192 4 l = (s.length, (ub s.length).length, 0) := by
          unfold cntR
          rw [hr]
          simp only [ne_eq, not_true_eq_false, if_false]
          rw [if_neg (by omega)]
        have htl : (txb s).length = (ub s.length).length + s.length := by rw [txb, List.length_append]
        unfold txtR
        rw [hc]
        simp only [ne_eq, not_true_eq_false, if_false]
        rw [if_pos (by rw [hl', List.length_append, List.length_take]; omega)]
  · exact absurd rfl h

theorem bol_step (t : Bool) (d : Nat) (Y : List UInt8) (hY : d = 0 ∨ Y = []) (l : List UInt8) (h : Jst [if t then 1 else 0] d Y 0 l) :
    ∃ v k er, bolR l = (v, k, er) ∧ Jst [] d Y er (l.drop k) ∧ (d = 0 → v = t) := by
  rcases h with ⟨_, hd, hl, hs⟩ | ⟨h, _⟩
  · by_cases hd0 : d = 0
    · subst hd0
      simp only [List.length_singleton, Nat.sub_zero] at hl
      refine ⟨t, 1, 0, ?_, Or.inl ⟨rfl, Nat.le_refl _, ?_, ?_⟩, fun _ => rfl⟩
      · rw [hl]; cases t <;> rfl
      · rw [hl]; rfl
      · rw [List.length_drop]; omega
    · have hY' : Y = [] := by rcases hY with h | h
                              · omega
                              · exact h
      have hd1 : d = 1 := by simp at hd; omega
      subst hd1
      rw [hY'] at hl
      obtain rfl : l = [] := hl
      exact ⟨false, 0, 20, rfl, Or.inr ⟨by decide, by omega⟩, fun h => by omega⟩
  · exact absurd rfl h

theorem Num_step (g : Nat) (l : List UInt8) (er : Nat) (w : World) (h : Hid (RD g l er w)) (x : Nat) (hx : x < 18446744073709551616) (X : List UInt8) (d : Nat) (Y : List UInt8) (hY : Hid (d = 0 ∨ Y = [])) (hJ : Hid (Jst (ub x ++ X) d Y er l)) :
    Calls Try.prog 16 #[.pointer (some ⟨g, 0, none⟩), .int .u64 18446744073709551615] w fun r w' =>
      ∃ (v er' : Nat) (l' : List UInt8), r = .returned (.int .u64 (v : Nat)) ∧ RD g l' (er' : Nat) w' ∧ Jst X d Y er' l' ∧ (d = 0 → v = x) ∧ Below g w w' := by
  have hJ' := hJ.out
  by_cases he : er = 0
  · subst he
    obtain ⟨v, k, er', h1, h2, h3⟩ := num_step x hx X d Y hY.out l hJ'
    have hl : l.length ≤ maxLen := by
      rcases hJ' with ⟨_, _, _, hs⟩ | ⟨h, _⟩
      · unfold maxLen; omega
      · exact absurd rfl h
    exact (Num_at g l w h.out hl 18446744073709551615 v k er' h1).mono (by rintro r w' ⟨rfl, h4, h5⟩; exact ⟨v, er', _, rfl, h4, h2, h3, h5⟩)
  · have hd : 0 < d := by
      rcases hJ' with ⟨h, _⟩ | ⟨_, h⟩
      · exact absurd h he
      · exact h
    exact (Num_err g l er w h.out (by omega) 18446744073709551615).mono (by rintro r w' ⟨rfl, h4⟩; exact ⟨0, er, l, rfl, h.out.below h4 h.out.lt, Or.inr ⟨he, hd⟩, fun h => by omega, h4.mono (by have := h.out.lt; omega)⟩)

theorem Text_step (g : Nat) (l : List UInt8) (er : Nat) (w : World) (h : Hid (RD g l er w)) (s : List UInt8) (hx : s.length ≤ 8192) (X : List UInt8) (d : Nat) (Y : List UInt8) (hY : Hid (d = 0 ∨ Y = [])) (hJ : Hid (Jst (txb s ++ X) d Y er l)) :
    Calls Try.prog 17 #[.pointer (some ⟨g, 0, none⟩), .int .i64 8192] w fun r w' =>
      ∃ (v : List UInt8) (er' : Nat) (l' : List UInt8), r = .returned (.string (str v)) ∧ RD g l' (er' : Nat) w' ∧ Jst X d Y er' l' ∧ (d = 0 → v = s) ∧ Below g w w' := by
  have hJ' := hJ.out
  by_cases he : er = 0
  · subst he
    obtain ⟨v, k, er', h1, h2, h3⟩ := txt_step s hx X d Y hY.out l hJ'
    have hl : l.length ≤ 281474976710656 := by
      rcases hJ' with ⟨_, _, _, hs⟩ | ⟨h, _⟩
      · omega
      · exact absurd rfl h
    exact (Text_at g l w h.out hl 8192 (by decide) v k er' h1).mono (by rintro r w' ⟨rfl, h4, h5⟩; exact ⟨v, er', _, rfl, h4, h2, h3, h5⟩)
  · have hd : 0 < d := by
      rcases hJ' with ⟨h, _⟩ | ⟨_, h⟩
      · exact absurd h he
      · exact h
    exact (Text_err g l er w h.out (by omega) 8192).mono (by rintro r w' ⟨rfl, h4⟩; exact ⟨[], er, l, rfl, h.out.below h4 h.out.lt, Or.inr ⟨he, hd⟩, fun h => by omega, h4.mono (by have := h.out.lt; omega)⟩)

theorem Bool_step (g : Nat) (l : List UInt8) (er : Nat) (w : World) (h : Hid (RD g l er w)) (t : Bool) (d : Nat) (Y : List UInt8) (hY : Hid (d = 0 ∨ Y = [])) (hJ : Hid (Jst [if t then 1 else 0] d Y er l)) :
    Calls Try.prog 18 #[.pointer (some ⟨g, 0, none⟩)] w fun r w' =>
      ∃ (v : Bool) (er' : Nat) (l' : List UInt8), r = .returned (.bool v) ∧ RD g l' (er' : Nat) w' ∧ Jst [] d Y er' l' ∧ (d = 0 → v = t) ∧ Below g w w' := by
  have hJ' := hJ.out
  by_cases he : er = 0
  · subst he
    obtain ⟨v, k, er', h1, h2, h3⟩ := bol_step t d Y hY.out l hJ'
    exact (Bool_at g l w h.out v k er' h1).mono (by rintro r w' ⟨rfl, h4, h5⟩; exact ⟨v, er', _, rfl, h4, h2, h3, h5⟩)
  · have hd : 0 < d := by
      rcases hJ' with ⟨h, _⟩ | ⟨_, h⟩
      · exact absurd h he
      · exact h
    exact (Bool_err g l er w h.out (by omega)).mono (by rintro r w' ⟨rfl, h4⟩; exact ⟨false, er, l, rfl, h.out.below h4 h.out.lt, Or.inr ⟨he, hd⟩, fun h => by omega, h4.mono (by have := h.out.lt; omega)⟩)

end Go.Proofs.Yteomgaaemlchfaa
