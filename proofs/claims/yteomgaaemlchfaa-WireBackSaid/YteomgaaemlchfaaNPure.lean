/-
  Layer 2, plain mathematics: a number's bytes, and how they are read.
-/
import Derived.Lib.BitFns
namespace Go.Proofs.Yteomgaaemlchfaa

def ubA : Nat → Nat → List UInt8
  | 0, n => [UInt8.ofNat n]
  | f + 1, n => if 128 ≤ n then UInt8.ofNat (n % 128 + 128) :: ubA f (n / 128) else [UInt8.ofNat n]
def ub (n : Nat) : List UInt8 := ubA 9 n

theorem ubA_pos (f n : Nat) : 1 ≤ (ubA f n).length := by
  cases f with
  | zero => simp [ubA]
  | succ f => simp only [ubA]; split <;> simp
theorem ubA_le (f n : Nat) : (ubA f n).length ≤ f + 1 := by
  induction f generalizing n with
  | zero => simp [ubA]
  | succ f ih => simp only [ubA]; split <;> simp [ih]
theorem ub_pos (n : Nat) : 1 ≤ (ub n).length := ubA_pos 9 n
theorem ub_le (n : Nat) : (ub n).length ≤ 10 := ubA_le 9 n
theorem ubA_mono (f a b : Nat) (h : a ≤ b) : (ubA f a).length ≤ (ubA f b).length := by
  induction f generalizing a b with
  | zero => simp [ubA]
  | succ f ih =>
    simp only [ubA]
    by_cases h1 : 128 ≤ a
    · rw [if_pos h1, if_pos (Nat.le_trans h1 h)]
      have := ih (a / 128) (b / 128) (Nat.div_le_div_right h)
      simp; exact this
    · rw [if_neg h1]
      by_cases h2 : 128 ≤ b
      · rw [if_pos h2]; simp
      · rw [if_neg h2]; simp
theorem ub_mono (a b : Nat) (h : a ≤ b) : (ub a).length ≤ (ub b).length := ubA_mono 9 a b h

/-- One more step of Up's loop. -/
theorem ubA_step (f n : Nat) (h : 128 ≤ n) : ubA (f + 1) n = UInt8.ofNat (n % 128 + 128) :: ubA f (n / 128) := by simp [ubA, h]
theorem ubA_last (f n : Nat) (h : n < 128) : ubA f n = [UInt8.ofNat n] := by
  cases f with
  | zero => rfl
  | succ f => simp only [ubA]; rw [if_neg (by omega)]

/-- What is read: fuel, what stands there still, how many bytes were taken, the number so far. The number, its bytes, the error. -/
def rdA : Nat → List UInt8 → Nat → Nat → Nat × Nat × Nat
  | 0, _, _, _ => (0, 0, 9)
  | _ + 1, [], _, _ => (0, 0, 20)
  | f + 1, c :: t, i, a =>
    if 128 ≤ c.toNat then rdA f t (i + 1) (a + (c.toNat - 128) * 2 ^ (7 * i))
    else if 64 < Lib.bitLen c.toNat + 7 * i then (0, 0, 9)
    else if c.toNat = 0 ∧ 0 < i then (0, 0, 8)
    else (a + c.toNat * 2 ^ (7 * i), i + 1, 0)
def rdN (s : List UInt8) : Nat × Nat × Nat := rdA 10 s 0 0

theorem bitLen_small : ∀ n : Fin 128, Lib.bitLen n.val ≤ 7 ∧ (n.val < 2 → Lib.bitLen n.val ≤ 1) := by decide +kernel

theorem rd_back (f : Nat) : ∀ (m i a : Nat) (r : List UInt8), f + i = 9 → m < 2 ^ (64 - 7 * i) → (m ≠ 0 ∨ i = 0) →
    rdA (f + 1) (ubA f m ++ r) i a = (a + m * 2 ^ (7 * i), i + (ubA f m).length, 0) := by
  induction f with
  | zero =>
    intro m i a r hi hm hz
    obtain rfl : i = 9 := by omega
    have hm2 : m < 2 := by simpa using hm
    have hb := (bitLen_small ⟨m, by omega⟩).2 hm2
    simp only at hb
    have ht : (UInt8.ofNat m).toNat = m := by simp; omega
    simp only [ubA, List.cons_append, List.nil_append, rdA, ht]
    rw [if_neg (by omega), if_neg (by omega), if_neg (by omega)]
    simp
  | succ f ih =>
    intro m i a r hi hm hz
    by_cases h : 128 ≤ m
    · rw [ubA_step f m h]
      have ht : (UInt8.ofNat (m % 128 + 128)).toNat = m % 128 + 128 := by simp; omega
      have hp : (2 : Nat) ^ (64 - 7 * i) = 2 ^ (64 - 7 * (i + 1)) * 128 := by
        rw [show 64 - 7 * i = (64 - 7 * (i + 1)) + 7 by omega, Nat.pow_add]
      have hm' : m / 128 < 2 ^ (64 - 7 * (i + 1)) := by
        rw [hp] at hm; exact Nat.div_lt_of_lt_mul (by rw [Nat.mul_comm]; exact hm)
      rw [List.cons_append, rdA, ht, if_pos (by omega), ih (m / 128) (i + 1) _ r (by omega) hm' (Or.inl (by omega))]
      have he : (2 : Nat) ^ (7 * (i + 1)) = 128 * 2 ^ (7 * i) := by rw [show 7 * (i + 1) = 7 + 7 * i by omega, Nat.pow_add]
      refine Prod.ext ?_ (Prod.ext ?_ rfl)
      · show a + (m % 128 + 128 - 128) * 2 ^ (7 * i) + m / 128 * 2 ^ (7 * (i + 1)) = a + m * 2 ^ (7 * i)
        rw [he, Nat.add_sub_cancel, ← Nat.mul_assoc, Nat.add_assoc, ← Nat.add_mul]
        congr 2
        omega
      · show i + 1 + (ubA f (m / 128)).length = i + (_ :: _).length
        rw [List.length_cons]; omega
    · rw [ubA_last _ m (by omega)]
      have hb := (bitLen_small ⟨m, by omega⟩).1
      simp only at hb
      have ht : (UInt8.ofNat m).toNat = m := by simp; omega
      simp only [List.cons_append, List.nil_append, rdA, ht]
      rw [if_neg h, if_neg (by omega), if_neg (by omega)]
      simp

theorem rd_short (f : Nat) : ∀ (m i a k : Nat), k < (ubA f m).length → rdA (f + 1) ((ubA f m).take k) i a = (0, 0, 20) := by
  induction f with
  | zero =>
    intro m i a k hk
    have : k = 0 := by simp [ubA] at hk; omega
    subst this
    simp [rdA]
  | succ f ih =>
    intro m i a k hk
    by_cases h : 128 ≤ m
    · rw [ubA_step f m h] at hk ⊢
      cases k with
      | zero => simp [rdA]
      | succ k =>
        have ht : (UInt8.ofNat (m % 128 + 128)).toNat = m % 128 + 128 := by simp; omega
        rw [List.take_succ_cons, rdA, ht, if_pos (by omega)]
        exact ih _ _ _ _ (by simp at hk; omega)
    · rw [ubA_last _ m (by omega)] at hk ⊢
      have : k = 0 := by simp at hk; omega
      subst this
      simp [rdA]

theorem rdN_back (m : Nat) (r : List UInt8) (h : m < 18446744073709551616) : rdN (ub m ++ r) = (m, (ub m).length, 0) := by
  have := rd_back 9 m 0 0 r rfl (by simpa using h) (Or.inr rfl)
  simpa [rdN, ub] using this
theorem rdN_short (m k : Nat) (h : k < (ub m).length) : rdN ((ub m).take k) = (0, 0, 20) := rd_short 9 m 0 0 k h

theorem ub_inj (a b : Nat) (ha : a < 18446744073709551616) (hb : b < 18446744073709551616) (h : ub a = ub b) : a = b := by
  have h1 := rdN_back a [] ha
  have h2 := rdN_back b [] hb
  rw [h] at h1
  rw [h1] at h2
  exact congrArg Prod.fst h2

theorem bitLen_pos (n : Nat) (h : n ≠ 0) (h2 : n < 2 ^ 64) : 1 ≤ Lib.bitLen n := by
  rw [Lib.bitLen_half n h h2]; omega

theorem size_ubA (f : Nat) : ∀ n : Nat, n < 128 ^ (f + 1) → n < 2 ^ 64 → ((ubA f n).length : Nat) = max 1 ((Lib.bitLen n + 6) / 7) := by
  induction f with
  | zero =>
    intro n h _
    have hb := (bitLen_small ⟨n, by simpa using h⟩).1
    simp only at hb
    simp [ubA]; omega
  | succ f ih =>
    intro n h h2
    by_cases hn : 128 ≤ n
    · rw [ubA_step f n hn, List.length_cons, ih (n / 128) (Nat.div_lt_of_lt_mul (by rw [Nat.pow_succ] at h; omega)) (by omega)]
      have h3 := Lib.bitLen_shift 7 n hn h2
      have h4 := bitLen_pos (n / 128) (by omega) (by omega)
      have h5 : n / 2 ^ 7 = n / 128 := rfl
      rw [h5] at h3
      rw [h3]
      omega
    · rw [ubA_last _ n (by omega)]
      have hb := (bitLen_small ⟨n, by omega⟩).1
      simp only at hb
      simp; omega
theorem size_ub (n : Nat) (h : n < 18446744073709551616) : (ub n).length = max 1 ((Lib.bitLen n + 6) / 7) :=
  size_ubA 9 n (Nat.lt_of_lt_of_le h (by decide)) (by simpa using h)

/-- Turn and Back. -/
def tnI (i : Int) : Int := if 0 ≤ i then 2 * i else -2 * i - 1
def bkI (n : Int) : Int := if n % 2 = 0 then n / 2 else -(n / 2) - 1
theorem bk_tn (i : Int) : bkI (tnI i) = i := by unfold bkI tnI; split <;> split <;> omega
theorem tn_bk (n : Int) (h : 0 ≤ n) : tnI (bkI n) = n := by unfold bkI tnI; split <;> split <;> omega

end Go.Proofs.Yteomgaaemlchfaa
