/-
  PLAIN MATHEMATICS OF LAYER 1 (text): runes, their bytes, what bytes read as. Imports nothing of the program.
-/
import Derived.Lib.Bytealg
namespace Go.Proofs.Ytjlnlidbdngbpaa

/-- A number that is a rune. -/
def IsRune (x : Nat) : Prop := x ≤ 1114111 ∧ ¬ (55296 ≤ x ∧ x ≤ 57343)
instance (x : Nat) : Decidable (IsRune x) := by unfold IsRune; exact inferInstance

/-- The bytes that the chapter gives to a number below 2 to the 21. -/
def enc (x : Nat) : List UInt8 :=
  if x < 128 then [UInt8.ofNat x]
  else if x < 2048 then [UInt8.ofNat (192 + x / 64), UInt8.ofNat (128 + x % 64)]
  else if x < 65536 then [UInt8.ofNat (224 + x / 4096), UInt8.ofNat (128 + x / 64 % 64), UInt8.ofNat (128 + x % 64)]
  else [UInt8.ofNat (240 + x / 262144), UInt8.ofNat (128 + x / 4096 % 64), UInt8.ofNat (128 + x / 64 % 64), UInt8.ofNat (128 + x % 64)]

/-- The byte at a place, as a number. -/
def at8 (l : List UInt8) (i : Nat) : Nat := (l[i]?.getD 0).toNat

theorem at8_lt (l : List UInt8) (i : Nat) : at8 l i < 256 := (l[i]?.getD 0).toNat_lt

/-- How many bytes a first byte asks for; 0: none begins so. -/
def leadN (c : Nat) : Nat := if 192 ≤ c ∧ c < 224 then 2 else if 224 ≤ c ∧ c < 240 then 3 else if 240 ≤ c ∧ c < 248 then 4 else 0
def leadX (c : Nat) : Nat := if 192 ≤ c ∧ c < 224 then c - 192 else if 224 ≤ c ∧ c < 240 then c - 224 else if 240 ≤ c ∧ c < 248 then c - 240 else 0
def leadL (c : Nat) : Nat := if 192 ≤ c ∧ c < 224 then 128 else if 224 ≤ c ∧ c < 240 then 2048 else if 240 ≤ c ∧ c < 248 then 65536 else 0

/-- The number that the first k bytes behind the first one make, from x on. -/
def acc (l : List UInt8) (x : Nat) : Nat → Nat
  | 0 => x
  | k + 1 => 64 * acc l x k + at8 l (k + 1) - 128

/-- Each of the first k bytes behind the first one is from 128 to 191. -/
def conts (l : List UInt8) : Nat → Bool
  | 0 => true
  | k + 1 => conts l k && (decide (128 ≤ at8 l (k + 1)) && decide (at8 l (k + 1) < 192))

def okR (least x : Nat) : Bool := decide (least ≤ x) && (decide (x ≤ 1114111) && !(decide (55296 ≤ x) && decide (x ≤ 57343)))

/-- The rune at the front, and how many bytes it has; 0: there is none. -/
def rd (l : List UInt8) : Nat × Nat :=
  if l = [] then (0, 0)
  else if at8 l 0 < 128 then (at8 l 0, 1)
  else if leadN (at8 l 0) = 0 ∨ l.length < leadN (at8 l 0) then (0, 0)
  else if conts l (leadN (at8 l 0) - 1) = true ∧ okR (leadL (at8 l 0)) (acc l (leadX (at8 l 0)) (leadN (at8 l 0) - 1)) = true then
    (acc l (leadX (at8 l 0)) (leadN (at8 l 0) - 1), leadN (at8 l 0))
  else (0, 0)

theorem enc_length (x : Nat) : (enc x).length = if x < 128 then 1 else if x < 2048 then 2 else if x < 65536 then 3 else 4 := by
  unfold enc; repeat' split
  all_goals rfl

theorem enc_pos (x : Nat) : 1 ≤ (enc x).length := by
  rw [enc_length]
  repeat' split
  all_goals omega
theorem enc_le (x : Nat) : (enc x).length ≤ 4 := by
  rw [enc_length]
  repeat' split
  all_goals omega
theorem enc_ne (x : Nat) : enc x ≠ [] := by
  intro h; have := enc_pos x; rw [h] at this; simp at this

theorem toNat_ofNat {n : Nat} (h : n < 256) : (UInt8.ofNat n).toNat = n := by
  simp [UInt8.toNat_ofNat']; omega

/-- What is read at the front of a number's bytes, whatever stands behind: a number below 2 to the 21. -/
theorem rd_enc_gen (x : Nat) (t : List UInt8) (hx : x < 2097152) : rd (enc x ++ t) = if IsRune x then (x, (enc x).length) else (0, 0) := by
  by_cases h1 : x < 128
  · have e : enc x = [UInt8.ofNat x] := by simp [enc, h1]
    rw [e, if_pos (show IsRune x by unfold IsRune; omega)]
    have a0 : at8 ([UInt8.ofNat x] ++ t) 0 = x := by simp [at8]; omega
    unfold rd
    rw [if_neg (by simp), a0, if_pos h1]; rfl
  · by_cases h2 : x < 2048
    · have e : enc x = [UInt8.ofNat (192 + x / 64), UInt8.ofNat (128 + x % 64)] := by simp [enc, h1, h2]
      have a0 : at8 (enc x ++ t) 0 = 192 + x / 64 := by rw [e]; simp [at8]; omega
      have a1 : at8 (enc x ++ t) 1 = 128 + x % 64 := by rw [e]; simp [at8]; omega
      have ln : leadN (192 + x / 64) = 2 := by unfold leadN; rw [if_pos (by omega)]
      have lx : leadX (192 + x / 64) = x / 64 := by unfold leadX; rw [if_pos (by omega)]; omega
      have ll : leadL (192 + x / 64) = 128 := by unfold leadL; rw [if_pos (by omega)]
      have hl : (enc x ++ t).length = 2 + t.length := by rw [e]; simp; omega
      unfold rd
      rw [if_neg (by rw [e]; simp), a0, if_neg (by omega), ln, if_neg (by rw [hl]; omega), lx, ll]
      have hac : acc (enc x ++ t) (x / 64) (2 - 1) = x := by show 64 * (x / 64) + at8 (enc x ++ t) 1 - 128 = x; rw [a1]; omega
      have hc : conts (enc x ++ t) (2 - 1) = true := by show (true && _) = true; rw [a1]; simp; omega
      rw [hac, hc, if_pos ⟨rfl, by simp [okR]; omega⟩, if_pos (show IsRune x by unfold IsRune; omega), e]; rfl
    · by_cases h3 : x < 65536
      · have e : enc x = [UInt8.ofNat (224 + x / 4096), UInt8.ofNat (128 + x / 64 % 64), UInt8.ofNat (128 + x % 64)] := by simp [enc, h1, h2, h3]
        have a0 : at8 (enc x ++ t) 0 = 224 + x / 4096 := by rw [e]; simp [at8]; omega
        have a1 : at8 (enc x ++ t) 1 = 128 + x / 64 % 64 := by rw [e]; simp [at8]; omega
        have a2 : at8 (enc x ++ t) 2 = 128 + x % 64 := by rw [e]; simp [at8]; omega
        have ln : leadN (224 + x / 4096) = 3 := by unfold leadN; rw [if_neg (by omega), if_pos (by omega)]
        have lx : leadX (224 + x / 4096) = x / 4096 := by unfold leadX; rw [if_neg (by omega), if_pos (by omega)]; omega
        have ll : leadL (224 + x / 4096) = 2048 := by unfold leadL; rw [if_neg (by omega), if_pos (by omega)]
        have hl : (enc x ++ t).length = 3 + t.length := by rw [e]; simp; omega
        unfold rd
        rw [if_neg (by rw [e]; simp), a0, if_neg (by omega), ln, if_neg (by rw [hl]; omega), lx, ll]
        have hac : acc (enc x ++ t) (x / 4096) (3 - 1) = x := by
          show 64 * (64 * (x / 4096) + at8 (enc x ++ t) 1 - 128) + at8 (enc x ++ t) 2 - 128 = x; rw [a1, a2]; omega
        have hc : conts (enc x ++ t) (3 - 1) = true := by show ((true && _) && _) = true; rw [a1, a2]; simp; omega
        rw [hac, hc]
        by_cases hr : IsRune x
        · rw [if_pos ⟨rfl, by unfold IsRune at hr; simp [okR]; omega⟩, if_pos hr, e]; rfl
        · rw [if_neg (by unfold IsRune at hr; simp [okR]; omega), if_neg hr]
      · have e : enc x = [UInt8.ofNat (240 + x / 262144), UInt8.ofNat (128 + x / 4096 % 64), UInt8.ofNat (128 + x / 64 % 64), UInt8.ofNat (128 + x % 64)] := by simp [enc, h1, h2, h3]
        have a0 : at8 (enc x ++ t) 0 = 240 + x / 262144 := by rw [e]; simp [at8]; omega
        have a1 : at8 (enc x ++ t) 1 = 128 + x / 4096 % 64 := by rw [e]; simp [at8]; omega
        have a2 : at8 (enc x ++ t) 2 = 128 + x / 64 % 64 := by rw [e]; simp [at8]; omega
        have a3 : at8 (enc x ++ t) 3 = 128 + x % 64 := by rw [e]; simp [at8]; omega
        have ln : leadN (240 + x / 262144) = 4 := by unfold leadN; rw [if_neg (by omega), if_neg (by omega), if_pos (by omega)]
        have lx : leadX (240 + x / 262144) = x / 262144 := by unfold leadX; rw [if_neg (by omega), if_neg (by omega), if_pos (by omega)]; omega
        have ll : leadL (240 + x / 262144) = 65536 := by unfold leadL; rw [if_neg (by omega), if_neg (by omega), if_pos (by omega)]
        have hl : (enc x ++ t).length = 4 + t.length := by rw [e]; simp; omega
        unfold rd
        rw [if_neg (by rw [e]; simp), a0, if_neg (by omega), ln, if_neg (by rw [hl]; omega), lx, ll]
        have hac : acc (enc x ++ t) (x / 262144) (4 - 1) = x := by
          show 64 * (64 * (64 * (x / 262144) + at8 (enc x ++ t) 1 - 128) + at8 (enc x ++ t) 2 - 128) + at8 (enc x ++ t) 3 - 128 = x; rw [a1, a2, a3]; omega
        have hc : conts (enc x ++ t) (4 - 1) = true := by show (((true && _) && _) && _) = true; rw [a1, a2, a3]; simp; omega
        rw [hac, hc]
        by_cases hr : IsRune x
        · rw [if_pos ⟨rfl, by unfold IsRune at hr; simp [okR]; omega⟩, if_pos hr, e]; rfl
        · rw [if_neg (by unfold IsRune at hr; simp [okR]; omega), if_neg hr]

theorem IsRune.lt {x : Nat} (h : IsRune x) : x < 2097152 := by have := h.1; omega
theorem rd_enc {x : Nat} (h : IsRune x) (t : List UInt8) : rd (enc x ++ t) = (x, (enc x).length) := by rw [rd_enc_gen x t h.lt, if_pos h]

theorem front2 (l : List UInt8) (h : 2 ≤ l.length) : l = [UInt8.ofNat (at8 l 0), UInt8.ofNat (at8 l 1)] ++ l.drop 2 := by
  match l, h with
  | a :: b :: t, _ => simp [at8]
theorem front3 (l : List UInt8) (h : 3 ≤ l.length) : l = [UInt8.ofNat (at8 l 0), UInt8.ofNat (at8 l 1), UInt8.ofNat (at8 l 2)] ++ l.drop 3 := by
  match l, h with
  | a :: b :: c :: t, _ => simp [at8]
theorem front4 (l : List UInt8) (h : 4 ≤ l.length) : l = [UInt8.ofNat (at8 l 0), UInt8.ofNat (at8 l 1), UInt8.ofNat (at8 l 2), UInt8.ofNat (at8 l 3)] ++ l.drop 4 := by
  match l, h with
  | a :: b :: c :: d :: t, _ => simp [at8]

/-- Whatever is read is a rune, in just its bytes. -/
theorem rd_sound (l : List UInt8) (h : (rd l).2 ≠ 0) : IsRune (rd l).1 ∧ l = enc (rd l).1 ++ l.drop (rd l).2 ∧ (rd l).2 = (enc (rd l).1).length := by
  have hb : ∀ i, i < l.length → l[i]?.getD 0 = UInt8.ofNat (at8 l i) := fun i _ => by simp [at8]
  have hl0 : l ≠ [] := by intro e; rw [e] at h; simp [rd] at h
  have hd1 : l = [UInt8.ofNat (at8 l 0)] ++ l.drop 1 := by
    cases l with
    | nil => exact absurd rfl hl0
    | cons a t => simp [at8]
  unfold rd at h ⊢
  rw [if_neg hl0] at h ⊢
  by_cases h1 : at8 l 0 < 128
  · rw [if_pos h1] at h ⊢
    have e : enc (at8 l 0) = [UInt8.ofNat (at8 l 0)] := by simp [enc, h1]
    refine ⟨⟨by show at8 l 0 ≤ _; omega, by show ¬ (55296 ≤ at8 l 0 ∧ _); omega⟩, ?_, ?_⟩
    · show l = enc (at8 l 0) ++ l.drop 1; rw [e]; exact hd1
    · show 1 = (enc (at8 l 0)).length; rw [e]; rfl
  rw [if_neg h1] at h ⊢
  by_cases h2 : leadN (at8 l 0) = 0 ∨ l.length < leadN (at8 l 0)
  · rw [if_pos h2] at h; exact absurd rfl h
  rw [if_neg h2] at h ⊢
  by_cases h3 : conts l (leadN (at8 l 0) - 1) = true ∧ okR (leadL (at8 l 0)) (acc l (leadX (at8 l 0)) (leadN (at8 l 0) - 1)) = true
  · rw [if_pos h3]
    clear h
    obtain ⟨hc, ho⟩ := h3
    have hlt := at8_lt l 0
    by_cases c2 : 192 ≤ at8 l 0 ∧ at8 l 0 < 224
    · have ln : leadN (at8 l 0) = 2 := by unfold leadN; rw [if_pos c2]
      have lx : leadX (at8 l 0) = at8 l 0 - 192 := by unfold leadX; rw [if_pos c2]
      have ll : leadL (at8 l 0) = 128 := by unfold leadL; rw [if_pos c2]
      rw [ln] at hc ho ⊢; rw [lx] at ho ⊢; rw [ll] at ho; rw [ln] at h2
      have ha : acc l (at8 l 0 - 192) (2 - 1) = 64 * (at8 l 0 - 192) + at8 l 1 - 128 := rfl
      simp [conts] at hc; simp only [okR, Bool.and_eq_true, decide_eq_true_eq, Bool.not_eq_true'] at ho
      obtain ⟨x, hx⟩ : ∃ x, x = acc l (at8 l 0 - 192) (2 - 1) := ⟨_, rfl⟩
      rw [← hx] at ho ⊢
      have hx' : x = 64 * (at8 l 0 - 192) + at8 l 1 - 128 := hx.trans ha
      have e : enc x = [UInt8.ofNat (at8 l 0), UInt8.ofNat (at8 l 1)] := by
        unfold enc; rw [if_neg (by omega), if_pos (by omega), show 192 + x / 64 = at8 l 0 by omega, show 128 + x % 64 = at8 l 1 by omega]
      refine ⟨⟨by show x ≤ _; omega, by show ¬ (55296 ≤ x ∧ _); omega⟩, ?_, by rw [e]; rfl⟩
      show l = enc x ++ l.drop 2
      rw [e]
      exact front2 l (by omega)
    by_cases c3 : 224 ≤ at8 l 0 ∧ at8 l 0 < 240
    · have ln : leadN (at8 l 0) = 3 := by unfold leadN; rw [if_neg c2, if_pos c3]
      have lx : leadX (at8 l 0) = at8 l 0 - 224 := by unfold leadX; rw [if_neg c2, if_pos c3]
      have ll : leadL (at8 l 0) = 2048 := by unfold leadL; rw [if_neg c2, if_pos c3]
      rw [ln] at hc ho ⊢; rw [lx] at ho ⊢; rw [ll] at ho; rw [ln] at h2
      have ha : acc l (at8 l 0 - 224) (3 - 1) = 64 * (64 * (at8 l 0 - 224) + at8 l 1 - 128) + at8 l 2 - 128 := rfl
      simp [conts] at hc; simp only [okR, Bool.and_eq_true, decide_eq_true_eq, Bool.not_eq_true'] at ho
      obtain ⟨x, hx⟩ : ∃ x, x = acc l (at8 l 0 - 224) (3 - 1) := ⟨_, rfl⟩
      rw [← hx] at ho ⊢
      have hx' : x = 64 * (64 * (at8 l 0 - 224) + at8 l 1 - 128) + at8 l 2 - 128 := hx.trans ha
      have hs : ¬ (55296 ≤ x ∧ x ≤ 57343) := by have := ho.2.2; simp at this; omega
      have e : enc x = [UInt8.ofNat (at8 l 0), UInt8.ofNat (at8 l 1), UInt8.ofNat (at8 l 2)] := by
        unfold enc; rw [if_neg (by omega), if_neg (by omega), if_pos (by omega), show 224 + x / 4096 = at8 l 0 by omega, show 128 + x / 64 % 64 = at8 l 1 by omega, show 128 + x % 64 = at8 l 2 by omega]
      refine ⟨⟨by show x ≤ _; omega, hs⟩, ?_, by rw [e]; rfl⟩
      show l = enc x ++ l.drop 3
      rw [e]
      exact front3 l (by omega)
    by_cases c4 : 240 ≤ at8 l 0 ∧ at8 l 0 < 248
    · have ln : leadN (at8 l 0) = 4 := by unfold leadN; rw [if_neg c2, if_neg c3, if_pos c4]
      have lx : leadX (at8 l 0) = at8 l 0 - 240 := by unfold leadX; rw [if_neg c2, if_neg c3, if_pos c4]
      have ll : leadL (at8 l 0) = 65536 := by unfold leadL; rw [if_neg c2, if_neg c3, if_pos c4]
      rw [ln] at hc ho ⊢; rw [lx] at ho ⊢; rw [ll] at ho; rw [ln] at h2
      have ha : acc l (at8 l 0 - 240) (4 - 1) = 64 * (64 * (64 * (at8 l 0 - 240) + at8 l 1 - 128) + at8 l 2 - 128) + at8 l 3 - 128 := rfl
      simp [conts] at hc; simp only [okR, Bool.and_eq_true, decide_eq_true_eq, Bool.not_eq_true'] at ho
      obtain ⟨x, hx⟩ : ∃ x, x = acc l (at8 l 0 - 240) (4 - 1) := ⟨_, rfl⟩
      rw [← hx] at ho ⊢
      have hx' : x = 64 * (64 * (64 * (at8 l 0 - 240) + at8 l 1 - 128) + at8 l 2 - 128) + at8 l 3 - 128 := hx.trans ha
      have e : enc x = [UInt8.ofNat (at8 l 0), UInt8.ofNat (at8 l 1), UInt8.ofNat (at8 l 2), UInt8.ofNat (at8 l 3)] := by
        unfold enc; rw [if_neg (by omega), if_neg (by omega), if_neg (by omega), show 240 + x / 262144 = at8 l 0 by omega, show 128 + x / 4096 % 64 = at8 l 1 by omega, show 128 + x / 64 % 64 = at8 l 2 by omega, show 128 + x % 64 = at8 l 3 by omega]
      refine ⟨⟨by show x ≤ _; omega, by show ¬ (55296 ≤ x ∧ _); omega⟩, ?_, by rw [e]; rfl⟩
      show l = enc x ++ l.drop 4
      rw [e]
      exact front4 l (by omega)
    · exact absurd (Or.inl (by unfold leadN; rw [if_neg c2, if_neg c3, if_neg c4])) h2
  · rw [if_neg h3] at h; exact absurd rfl h

theorem rd_le (l : List UInt8) : (rd l).2 ≤ l.length := by
  by_cases h : (rd l).2 = 0
  · omega
  · obtain ⟨_, h2, h3⟩ := rd_sound l h
    have := congrArg List.length h2
    simp at this; omega

/-- All runes, by so many steps at most. -/
def runesF : Nat → List UInt8 → Option (List Nat)
  | 0, l => if l = [] then some [] else none
  | f + 1, l => if l = [] then some [] else if (rd l).2 = 0 then none else (runesF f (l.drop (rd l).2)).map ((rd l).1 :: ·)

theorem runesF_succ (f : Nat) (l : List UInt8) : runesF (f + 1) l = if l = [] then some [] else if (rd l).2 = 0 then none else (runesF f (l.drop (rd l).2)).map ((rd l).1 :: ·) := rfl

/-- A text's runes; none: it is not valid. -/
def runes (l : List UInt8) : Option (List Nat) := runesF l.length l

/-- The bytes of runes. -/
def encs (xs : List Nat) : List UInt8 := xs.flatMap enc

theorem encs_nil : encs [] = [] := rfl
theorem encs_cons (x : Nat) (xs : List Nat) : encs (x :: xs) = enc x ++ encs xs := by simp [encs]
theorem encs_append (xs ys : List Nat) : encs (xs ++ ys) = encs xs ++ encs ys := by simp [encs]

theorem runesF_encs : ∀ (xs : List Nat) (t : List UInt8) (f : Nat), (∀ x ∈ xs, IsRune x) → (encs xs ++ t).length ≤ f →
    runesF f (encs xs ++ t) = (runesF (f - xs.length) t).map (xs ++ ·)
  | [], t, f, _, _ => by
    simp [encs_nil]
  | x :: xs, t, f, h, hf => by
    have hx := h x (List.mem_cons_self ..)
    have hp := enc_pos x
    cases f with
    | zero => rw [encs_cons] at hf; simp only [List.length_append] at hf; omega
    | succ f =>
      have ha : encs (x :: xs) ++ t = enc x ++ (encs xs ++ t) := by rw [encs_cons, List.append_assoc]
      rw [ha]
      have hr := rd_enc hx (encs xs ++ t)
      rw [runesF_succ, if_neg (by simp [enc_ne]), hr, if_neg (by show ¬ (enc x).length = 0; omega)]
      simp only [List.drop_left]
      rw [ha] at hf; simp only [List.length_append] at hf
      rw [runesF_encs xs t f (fun y hy => h y (List.mem_cons_of_mem _ hy)) (by simp only [List.length_append]; omega)]
      have : f + 1 - (x :: xs).length = f - xs.length := by simp
      rw [this]
      cases runesF (f - xs.length) t <;> simp

theorem runesF_nil (f : Nat) : runesF f [] = some [] := by cases f <;> simp [runesF]

theorem runesF_sound : ∀ (f : Nat) (l : List UInt8) (xs : List Nat), runesF f l = some xs → (∀ x ∈ xs, IsRune x) ∧ l = encs xs
  | 0, l, xs, h => by
    unfold runesF at h
    by_cases hl : l = []
    · rw [if_pos hl] at h; cases h; exact ⟨by simp, hl⟩
    · rw [if_neg hl] at h; cases h
  | f + 1, l, xs, h => by
    rw [runesF_succ] at h
    by_cases hl : l = []
    · rw [if_pos hl] at h; cases h; exact ⟨by simp, hl⟩
    · rw [if_neg hl] at h
      by_cases h0 : (rd l).2 = 0
      · rw [if_pos h0] at h; cases h
      · rw [if_neg h0] at h
        obtain ⟨s1, s2, s3⟩ := rd_sound l h0
        cases hr : runesF f (l.drop (rd l).2) with
        | none => rw [hr] at h; cases h
        | some ys =>
          rw [hr] at h
          simp only [Option.map_some, Option.some.injEq] at h
          subst h
          obtain ⟨i1, i2⟩ := runesF_sound f _ _ hr
          refine ⟨?_, ?_⟩
          · intro x hx
            rcases List.mem_cons.1 hx with rfl | hx
            · exact s1
            · exact i1 x hx
          · rw [encs_cons, ← i2]; exact s2

/-- Enough steps are enough. -/
theorem runesF_more : ∀ (f g : Nat) (l : List UInt8), l.length ≤ f → l.length ≤ g → runesF f l = runesF g l
  | 0, g, l, h, _ => by
    have : l = [] := List.length_eq_zero_iff.1 (by omega)
    subst this; rw [runesF_nil, runesF_nil]
  | f + 1, 0, l, _, h => by
    have : l = [] := List.length_eq_zero_iff.1 (by omega)
    subst this; rw [runesF_nil, runesF_nil]
  | f + 1, g + 1, l, hf, hg => by
    rw [runesF_succ, runesF_succ]
    by_cases hl : l = []
    · rw [if_pos hl, if_pos hl]
    · rw [if_neg hl, if_neg hl]
      by_cases h0 : (rd l).2 = 0
      · rw [if_pos h0, if_pos h0]
      · rw [if_neg h0, if_neg h0, runesF_more f g _ (by simp; omega) (by simp; omega)]

theorem runes_nil : runes [] = some [] := rfl

theorem runes_step (l : List UInt8) (hl : l ≠ []) : runes l = if (rd l).2 = 0 then none else (runes (l.drop (rd l).2)).map ((rd l).1 :: ·) := by
  have hlen : l.length ≠ 0 := fun e => hl (List.length_eq_zero_iff.1 e)
  obtain ⟨f, hf⟩ : ∃ f, l.length = f + 1 := ⟨l.length - 1, by omega⟩
  unfold runes
  rw [hf]
  show (if l = [] then some [] else if (rd l).2 = 0 then none else (runesF f (l.drop (rd l).2)).map ((rd l).1 :: ·)) = _
  rw [if_neg hl]
  by_cases h0 : (rd l).2 = 0
  · rw [if_pos h0, if_pos h0]
  · rw [if_neg h0, if_neg h0, runesF_more f _ _ (by simp; omega) (Nat.le_refl _)]

theorem runes_sound {l : List UInt8} {xs : List Nat} (h : runes l = some xs) : (∀ x ∈ xs, IsRune x) ∧ l = encs xs := runesF_sound _ _ _ h

/-- Runes' bytes, and what stands behind. -/
theorem runes_encs_append (xs : List Nat) (t : List UInt8) (h : ∀ x ∈ xs, IsRune x) : runes (encs xs ++ t) = (runes t).map (xs ++ ·) := by
  unfold runes
  rw [runesF_encs xs t _ h (Nat.le_refl _)]
  congr 1
  apply runesF_more _ _ _ _ (Nat.le_refl _)
  have : xs.length ≤ (encs xs).length := by
    clear h
    induction xs with
    | nil => simp
    | cons x xs ih => rw [encs_cons]; simp; have := enc_pos x; omega
  simp; omega

theorem runes_encs (xs : List Nat) (h : ∀ x ∈ xs, IsRune x) : runes (encs xs) = some xs := by
  have := runes_encs_append xs [] h
  rw [List.append_nil, runes_nil] at this; simpa using this

theorem length_le_encs (xs : List Nat) : xs.length ≤ (encs xs).length := by
  induction xs with
  | nil => simp
  | cons x xs ih => rw [encs_cons]; simp; have := enc_pos x; omega

/-- How many runes; -1: not valid. -/
def cnt (l : List UInt8) : Int := match runes l with | some xs => (xs.length : Int) | none => -1

/-- The first n runes' bytes; nothing, unless the text is valid. -/
def cut (l : List UInt8) (n : Int) : List UInt8 := match runes l with | some xs => encs (xs.take n.toNat) | none => []

def ctl (x : Nat) : Bool := decide (x < 32) || (decide (127 ≤ x) && decide (x ≤ 159))
def kindOf (x : Nat) : Nat := if x = 35 then 1 else if x = 64 then 2 else if x = 61 then 3 else 0
def kindX (xs : List Nat) : Nat := if xs.length < 1 ∨ 64 < xs.length ∨ xs.any ctl = true then 0 else kindOf (xs[0]?.getD 0)
/-- What a key is of; 0: it is none. -/
def kind (l : List UInt8) : Nat := match runes l with | some xs => kindX xs | none => 0

end Go.Proofs.Ytjlnlidbdngbpaa
