/-
  Layer 5, plain mathematics: what a reader takes.
-/
import Derived.Test.YteomgaaemlchfaaNPure
namespace Go.Proofs.Yteomgaaemlchfaa

theorem rdA_len (f : Nat) : ∀ (s : List UInt8) (i a : Nat), (rdA f s i a).2.1 ≤ i + s.length := by
  induction f with
  | zero => intro s i a; simp [rdA]
  | succ f ih =>
    intro s i a
    cases s with
    | nil => simp [rdA]
    | cons c t =>
      simp only [rdA]
      split
      · have := ih t (i + 1) (a + (c.toNat - 128) * 2 ^ (7 * i))
        simp only [List.length_cons]; omega
      · split
        · simp
        · split
          · simp
          · simp only [List.length_cons]; omega
theorem rdN_len (s : List UInt8) : (rdN s).2.1 ≤ s.length := by have := rdA_len 10 s 0 0; simpa [rdN] using this

/-- Num: the number, how many bytes go, the error. -/
def numR (most : Nat) (l : List UInt8) : Nat × Nat × Nat := if (rdN l).2.2 ≠ 0 then (0, 0, (rdN l).2.2) else if most < (rdN l).1 then (0, 0, 9) else ((rdN l).1, (rdN l).2.1, 0)
/-- A count of something. -/
def cntR (most above : Nat) (l : List UInt8) : Nat × Nat × Nat := if (rdN l).2.2 ≠ 0 then (0, 0, (rdN l).2.2) else if most < (rdN l).1 then (0, 0, above) else ((rdN l).1, (rdN l).2.1, 0)
/-- Text: the text, how many bytes go, the error. -/
def txtR (most : Nat) (l : List UInt8) : List UInt8 × Nat × Nat :=
  if (cntR most 4 l).2.2 ≠ 0 then ([], 0, (cntR most 4 l).2.2)
  else if l.length - (cntR most 4 l).2.1 < (cntR most 4 l).1 then ([], 0, 20)
  else ((l.drop (cntR most 4 l).2.1).take (cntR most 4 l).1, (cntR most 4 l).2.1 + (cntR most 4 l).1, 0)
/-- Bool. -/
def bolR (l : List UInt8) : Bool × Nat × Nat :=
  match l with
  | [] => (false, 0, 20)
  | c :: _ => if 1 < c.toNat then (false, 0, 8) else (decide (c.toNat = 1), 1, 0)

theorem numR_len (most : Nat) (l : List UInt8) : (numR most l).2.1 ≤ l.length := by
  unfold numR
  split
  · exact Nat.zero_le _
  · split
    · exact Nat.zero_le _
    · exact rdN_len l
theorem cntR_len (most above : Nat) (l : List UInt8) : (cntR most above l).2.1 ≤ l.length := by
  unfold cntR
  split
  · exact Nat.zero_le _
  · split
    · exact Nat.zero_le _
    · exact rdN_len l
theorem cntR_most (most above : Nat) (l : List UInt8) : (cntR most above l).1 ≤ most := by
  unfold cntR
  split
  · exact Nat.zero_le _
  · split
    · exact Nat.zero_le _
    · simp only; omega
theorem txtR_len (most : Nat) (l : List UInt8) : (txtR most l).2.1 ≤ l.length := by
  have := cntR_len most 4 l
  unfold txtR
  split
  · exact Nat.zero_le _
  · split
    · exact Nat.zero_le _
    · simp only; omega
theorem bolR_len (l : List UInt8) : (bolR l).2.1 ≤ l.length := by
  unfold bolR
  cases l with
  | nil => exact Nat.le_refl _
  | cons c t => simp only [List.length_cons]; split <;> simp only <;> omega

end Go.Proofs.Yteomgaaemlchfaa
