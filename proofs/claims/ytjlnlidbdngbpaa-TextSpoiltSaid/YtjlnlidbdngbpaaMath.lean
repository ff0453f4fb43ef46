/-
  PLAIN MATHEMATICS OF LAYER 1, MORE: what the laws lean on: joins, cuts, spoilt texts, keys, the order of runes.
-/
import Derived.Test.YtjlnlidbdngbpaaPure
namespace Go.Proofs.Ytjlnlidbdngbpaa

/-! ### What is read of bytes that are cut off, or begin in the middle -/

theorem runes_of_encs {xs : List Nat} (h : ∀ x ∈ xs, IsRune x) (t : List UInt8) : runes (encs xs ++ t) = (runes t).map (xs ++ ·) := runes_encs_append xs t h

/-- Two texts together. -/
theorem runes_append {a b : List UInt8} {xs : List Nat} (ha : runes a = some xs) : runes (a ++ b) = (runes b).map (xs ++ ·) := by
  obtain ⟨h1, h2⟩ := runes_sound ha
  rw [h2]; exact runes_encs_append xs b h1

/-- A byte from 128 to 191 begins nothing. -/
theorem rd_cont {l : List UInt8} (h1 : 128 ≤ at8 l 0) (h2 : at8 l 0 < 192) : rd l = (0, 0) := by
  unfold rd
  by_cases hl : l = []
  · rw [if_pos hl]
  · rw [if_neg hl, if_neg (by omega), if_pos]
    left; unfold leadN; rw [if_neg (by omega), if_neg (by omega), if_neg (by omega)]

/-- A rune's first byte is none of these. -/
theorem enc_head {x : Nat} (h : IsRune x) (t : List UInt8) : ¬ (128 ≤ at8 (enc x ++ t) 0 ∧ at8 (enc x ++ t) 0 < 192) := by
  intro hc
  have := rd_cont hc.1 hc.2
  rw [rd_enc h] at this
  have h2 := congrArg Prod.snd this
  have := enc_pos x
  simp only at h2
  omega

theorem at8_append_left {l t : List UInt8} {i : Nat} (h : i < l.length) : at8 (l ++ t) i = at8 l i := by
  unfold at8; rw [List.getElem?_append_left h]
theorem at8_append_right {l t : List UInt8} {i : Nat} (h : l.length ≤ i) : at8 (l ++ t) i = at8 t (i - l.length) := by
  unfold at8; rw [List.getElem?_append_right h]
theorem at8_out {l : List UInt8} {i : Nat} (h : l.length ≤ i) : at8 l i = 0 := by
  unfold at8; rw [List.getElem?_eq_none h]; rfl

theorem enc_lead {x : Nat} (hx : x < 2097152) (h : 128 ≤ x) : ¬ at8 (enc x) 0 < 128 ∧ leadN (at8 (enc x) 0) = (enc x).length := by
  unfold enc
  rw [if_neg (by omega)]
  by_cases h2 : x < 2048
  · rw [if_pos h2]
    have a0 : at8 [UInt8.ofNat (192 + x / 64), UInt8.ofNat (128 + x % 64)] 0 = 192 + x / 64 := by simp [at8]; omega
    rw [a0]
    refine ⟨by omega, ?_⟩
    unfold leadN; rw [if_pos (by omega)]; rfl
  · rw [if_neg h2]
    by_cases h3 : x < 65536
    · rw [if_pos h3]
      have a0 : at8 [UInt8.ofNat (224 + x / 4096), UInt8.ofNat (128 + x / 64 % 64), UInt8.ofNat (128 + x % 64)] 0 = 224 + x / 4096 := by simp [at8]; omega
      rw [a0]
      refine ⟨by omega, ?_⟩
      unfold leadN; rw [if_neg (by omega), if_pos (by omega)]; rfl
    · rw [if_neg h3]
      have a0 : at8 [UInt8.ofNat (240 + x / 262144), UInt8.ofNat (128 + x / 4096 % 64), UInt8.ofNat (128 + x / 64 % 64), UInt8.ofNat (128 + x % 64)] 0 = 240 + x / 262144 := by simp [at8]; omega
      rw [a0]
      refine ⟨by omega, ?_⟩
      unfold leadN; rw [if_neg (by omega), if_neg (by omega), if_pos (by omega)]; rfl

theorem enc_one {x : Nat} : (enc x).length = 1 ↔ x < 128 := by
  rw [enc_length]
  constructor
  · intro h; revert h; repeat' split
    all_goals (intro h; omega)
  · intro h; rw [if_pos h]

theorem conts_not {l : List UInt8} {k m : Nat} (hk : k < m) (h : ¬ (128 ≤ at8 l (k + 1) ∧ at8 l (k + 1) < 192)) : conts l m = false := by
  induction m with
  | zero => omega
  | succ m ih =>
    show (conts l m && (decide (128 ≤ at8 l (m + 1)) && decide (at8 l (m + 1) < 192))) = false
    by_cases e : k = m
    · subst e
      have : (decide (128 ≤ at8 l (k + 1)) && decide (at8 l (k + 1) < 192)) = false := by
        rw [Bool.eq_false_iff]; simp; omega
      rw [this, Bool.and_false]
    · rw [ih (by omega), Bool.false_and]

/-- A rune without its last byte, behind it what is no such byte: nothing is read. -/
theorem rd_cut_short {x : Nat} (hx : IsRune x) (h2 : 2 ≤ (enc x).length) (t : List UInt8) (ht : ¬ (128 ≤ at8 t 0 ∧ at8 t 0 < 192)) :
    rd ((enc x).dropLast ++ t) = (0, 0) := by
  have h128 : 128 ≤ x := by
    by_cases h : x < 128
    · have := enc_one.2 h; omega
    · omega
  obtain ⟨e1, e2⟩ := enc_lead hx.lt h128
  have hlen : (enc x).dropLast.length = (enc x).length - 1 := List.length_dropLast
  have a0 : at8 ((enc x).dropLast ++ t) 0 = at8 (enc x) 0 := by
    rw [at8_append_left (by omega)]
    unfold at8
    rw [List.getElem?_dropLast, if_pos (by omega)]
  unfold rd
  rw [if_neg (by intro e; have := congrArg List.length e; rw [List.length_append, hlen] at this; simp at this; omega), a0, if_neg e1]
  by_cases hs : leadN (at8 (enc x) 0) = 0 ∨ ((enc x).dropLast ++ t).length < leadN (at8 (enc x) 0)
  · rw [if_pos hs]
  · rw [if_neg hs, e2]
    have hc : conts ((enc x).dropLast ++ t) ((enc x).length - 1) = false := by
      refine conts_not (k := (enc x).length - 2) (by omega) ?_
      rw [at8_append_right (by omega), show (enc x).length - 2 + 1 - (enc x).dropLast.length = 0 by omega]
      exact ht
    rw [hc, if_neg (by simp)]

theorem runes_none_of_rd {l : List UInt8} (hl : l ≠ []) (h : rd l = (0, 0)) : runes l = none := by
  rw [runes_step l hl, h, if_pos rfl]

theorem encs_head {xs : List Nat} (h : ∀ x ∈ xs, IsRune x) : ¬ (128 ≤ at8 (encs xs) 0 ∧ at8 (encs xs) 0 < 192) := by
  cases xs with
  | nil => rw [encs_nil]; show ¬ (128 ≤ 0 ∧ _); omega
  | cons x xs => rw [encs_cons]; exact enc_head (h x (List.mem_cons_self ..)) _

/-- A byte from 128 to 191, put where a rune begins. -/
theorem spoilt_put {xs : List Nat} (h : ∀ x ∈ xs, IsRune x) (c : UInt8) (t : List UInt8) (h1 : 128 ≤ c.toNat) (h2 : c.toNat < 192) : runes (encs xs ++ [c] ++ t) = none := by
  rw [List.append_assoc, runes_encs_append xs _ h, runes_none_of_rd (by simp) (rd_cont (by simpa [at8] using h1) (by simpa [at8] using h2))]; rfl

/-- A rune's last byte taken away. -/
theorem spoilt_take {xs ys : List Nat} {x : Nat} (h : ∀ y ∈ xs, IsRune y) (hx : IsRune x) (hy : ∀ y ∈ ys, IsRune y) (h2 : 2 ≤ (enc x).length) :
    runes (encs xs ++ ((enc x).dropLast ++ encs ys)) = none := by
  rw [runes_encs_append xs _ h, runes_none_of_rd _ (rd_cut_short hx h2 _ (encs_head hy))]; rfl
  intro e
  have := congrArg List.length e
  rw [List.length_append, List.length_dropLast] at this
  simp at this; omega

/-! ### The order of runes -/

theorem cb_self_append : ∀ (p a b : List UInt8), Lib.compareBytes (p ++ a) (p ++ b) = Lib.compareBytes a b
  | [], _, _ => rfl
  | c :: p, a, b => by
    have e : Lib.compareBytes (c :: p ++ a) (c :: p ++ b) = if c < c then -1 else if c < c then 1 else Lib.compareBytes (p ++ a) (p ++ b) := rfl
    rw [e, if_neg (by rw [UInt8.lt_iff_toNat_lt]; omega), if_neg (by rw [UInt8.lt_iff_toNat_lt]; omega)]
    exact cb_self_append p a b

theorem cb_at8 {a b : List UInt8} (ha : a ≠ []) (hb : b ≠ []) : Lib.compareBytes a b = if at8 a 0 < at8 b 0 then -1 else if at8 b 0 < at8 a 0 then 1 else Lib.compareBytes (a.drop 1) (b.drop 1) := by
  cases a with
  | nil => exact absurd rfl ha
  | cons x a =>
    cases b with
    | nil => exact absurd rfl hb
    | cons y b => simp only [Lib.compareBytes, UInt8.lt_iff_toNat_lt, at8, List.getElem?_cons_zero, Option.getD_some, List.drop_succ_cons, List.drop_zero]

theorem at8_drop (l : List UInt8) (i j : Nat) : at8 (l.drop i) j = at8 l (i + j) := by unfold at8; rw [List.getElem?_drop]

/-- The first place where two differ. -/
theorem cb_first {a b : List UInt8} : ∀ (k : Nat), k < a.length → k < b.length → (∀ i, i < k → at8 a i = at8 b i) → at8 a k < at8 b k → Lib.compareBytes a b = -1
  | 0, ha, hb, _, h => by
    rw [cb_at8 (by intro e; rw [e] at ha; simp at ha) (by intro e; rw [e] at hb; simp at hb), if_pos h]
  | k + 1, ha, hb, heq, h => by
    have h0 := heq 0 (by omega)
    rw [cb_at8 (by intro e; rw [e] at ha; simp at ha) (by intro e; rw [e] at hb; simp at hb), if_neg (by omega), if_neg (by omega)]
    refine cb_first k (by simp; omega) (by simp; omega) (fun i hi => ?_) ?_
    · rw [at8_drop, at8_drop, show 1 + i = i + 1 by omega]; exact heq (i + 1) (by omega)
    · rw [at8_drop, at8_drop, show 1 + k = k + 1 by omega]; exact h
theorem cb_first_gt {a b : List UInt8} : ∀ (k : Nat), k < a.length → k < b.length → (∀ i, i < k → at8 a i = at8 b i) → at8 b k < at8 a k → Lib.compareBytes a b = 1
  | 0, ha, hb, _, h => by
    rw [cb_at8 (by intro e; rw [e] at ha; simp at ha) (by intro e; rw [e] at hb; simp at hb), if_neg (by omega), if_pos h]
  | k + 1, ha, hb, heq, h => by
    have h0 := heq 0 (by omega)
    rw [cb_at8 (by intro e; rw [e] at ha; simp at ha) (by intro e; rw [e] at hb; simp at hb), if_neg (by omega), if_neg (by omega)]
    refine cb_first_gt k (by simp; omega) (by simp; omega) (fun i hi => ?_) ?_
    · rw [at8_drop, at8_drop, show 1 + i = i + 1 by omega]; exact heq (i + 1) (by omega)
    · rw [at8_drop, at8_drop, show 1 + k = k + 1 by omega]; exact h

/-- The byte of a number's at a place. -/
def encAt (x i : Nat) : Nat :=
  if x < 128 then (if i = 0 then x else 0)
  else if x < 2048 then (if i = 0 then 192 + x / 64 else 128 + x % 64)
  else if x < 65536 then (if i = 0 then 224 + x / 4096 else if i = 1 then 128 + x / 64 % 64 else 128 + x % 64)
  else (if i = 0 then 240 + x / 262144 else if i = 1 then 128 + x / 4096 % 64 else if i = 2 then 128 + x / 64 % 64 else 128 + x % 64)

theorem enc_at (x : Nat) (hx : x < 2097152) (i : Nat) (hi : i < (enc x).length) (t : List UInt8) : at8 (enc x ++ t) i = encAt x i := by
  rw [at8_append_left hi]
  rw [enc_length] at hi
  unfold enc encAt
  by_cases h1 : x < 128
  · rw [if_pos h1] at hi ⊢; rw [if_pos h1]
    obtain rfl : i = 0 := by omega
    simp [at8]; omega
  rw [if_neg h1] at hi ⊢; rw [if_neg h1]
  by_cases h2 : x < 2048
  · rw [if_pos h2] at hi ⊢; rw [if_pos h2]
    match i, hi with
    | 0, _ => simp [at8]; omega
    | 1, _ => simp [at8]; omega
  rw [if_neg h2] at hi ⊢; rw [if_neg h2]
  by_cases h3 : x < 65536
  · rw [if_pos h3] at hi ⊢; rw [if_pos h3]
    match i, hi with
    | 0, _ => simp [at8]; omega
    | 1, _ => simp [at8]; omega
    | 2, _ => simp [at8]; omega
  rw [if_neg h3] at hi ⊢; rw [if_neg h3]
  match i, hi with
  | 0, _ => simp [at8]; omega
  | 1, _ => simp [at8]; omega
  | 2, _ => simp [at8]; omega
  | 3, _ => simp [at8]; omega

/-- Of two numbers the lesser one's bytes differ first at a lesser byte. -/
theorem encAt_lt {x y : Nat} (hy : y < 2097152) (h : x < y) :
    ∃ k, k < (enc x).length ∧ k < (enc y).length ∧ (∀ i, i < k → encAt x i = encAt y i) ∧ encAt x k < encAt y k := by
  rw [enc_length, enc_length]
  unfold encAt
  by_cases x1 : x < 128
  · simp only [if_pos x1]
    by_cases y1 : y < 128
    · simp only [if_pos y1]; exact ⟨0, by omega, by omega, fun i hi => by omega, h⟩
    simp only [if_neg y1]
    by_cases y2 : y < 2048
    · simp only [if_pos y2]; exact ⟨0, by omega, by omega, fun i hi => by omega, by show x < 192 + _; omega⟩
    simp only [if_neg y2]
    by_cases y3 : y < 65536
    · simp only [if_pos y3]; exact ⟨0, by omega, by omega, fun i hi => by omega, by show x < 224 + _; omega⟩
    simp only [if_neg y3]; exact ⟨0, by omega, by omega, fun i hi => by omega, by show x < 240 + _; omega⟩
  simp only [if_neg x1, if_neg (show ¬ y < 128 by omega)]
  by_cases x2 : x < 2048
  · simp only [if_pos x2]
    by_cases y2 : y < 2048
    · simp only [if_pos y2]
      by_cases e : x / 64 = y / 64
      · refine ⟨1, by omega, by omega, fun i hi => ?_, ?_⟩
        · obtain rfl : i = 0 := by omega
          show 192 + x / 64 = 192 + y / 64; omega
        · show 128 + x % 64 < 128 + y % 64; omega
      · exact ⟨0, by omega, by omega, fun i hi => by omega, by show 192 + x / 64 < 192 + y / 64; omega⟩
    simp only [if_neg y2]
    by_cases y3 : y < 65536
    · simp only [if_pos y3]; exact ⟨0, by omega, by omega, fun i hi => by omega, by show 192 + x / 64 < 224 + _; omega⟩
    simp only [if_neg y3]; exact ⟨0, by omega, by omega, fun i hi => by omega, by show 192 + x / 64 < 240 + _; omega⟩
  simp only [if_neg x2, if_neg (show ¬ y < 2048 by omega)]
  by_cases x3 : x < 65536
  · simp only [if_pos x3]
    by_cases y3 : y < 65536
    · simp only [if_pos y3]
      by_cases e : x / 4096 = y / 4096
      · by_cases e2 : x / 64 % 64 = y / 64 % 64
        · refine ⟨2, by omega, by omega, fun i hi => ?_, ?_⟩
          · match i, hi with
            | 0, _ => show 224 + x / 4096 = 224 + y / 4096; omega
            | 1, _ => show 128 + x / 64 % 64 = 128 + y / 64 % 64; omega
          · show 128 + x % 64 < 128 + y % 64; omega
        · refine ⟨1, by omega, by omega, fun i hi => ?_, ?_⟩
          · obtain rfl : i = 0 := by omega
            show 224 + x / 4096 = 224 + y / 4096; omega
          · show 128 + x / 64 % 64 < 128 + y / 64 % 64; omega
      · exact ⟨0, by omega, by omega, fun i hi => by omega, by show 224 + x / 4096 < 224 + y / 4096; omega⟩
    simp only [if_neg y3]; exact ⟨0, by omega, by omega, fun i hi => by omega, by show 224 + x / 4096 < 240 + _; omega⟩
  simp only [if_neg x3, if_neg (show ¬ y < 65536 by omega)]
  by_cases e : x / 262144 = y / 262144
  · by_cases e2 : x / 4096 % 64 = y / 4096 % 64
    · by_cases e3 : x / 64 % 64 = y / 64 % 64
      · refine ⟨3, by omega, by omega, fun i hi => ?_, ?_⟩
        · match i, hi with
          | 0, _ => show 240 + x / 262144 = 240 + y / 262144; omega
          | 1, _ => show 128 + x / 4096 % 64 = 128 + y / 4096 % 64; omega
          | 2, _ => show 128 + x / 64 % 64 = 128 + y / 64 % 64; omega
        · show 128 + x % 64 < 128 + y % 64; omega
      · refine ⟨2, by omega, by omega, fun i hi => ?_, ?_⟩
        · match i, hi with
          | 0, _ => show 240 + x / 262144 = 240 + y / 262144; omega
          | 1, _ => show 128 + x / 4096 % 64 = 128 + y / 4096 % 64; omega
        · show 128 + x / 64 % 64 < 128 + y / 64 % 64; omega
    · refine ⟨1, by omega, by omega, fun i hi => ?_, ?_⟩
      · obtain rfl : i = 0 := by omega
        show 240 + x / 262144 = 240 + y / 262144; omega
      · show 128 + x / 4096 % 64 < 128 + y / 4096 % 64; omega
  · exact ⟨0, by omega, by omega, fun i hi => by omega, by show 240 + x / 262144 < 240 + y / 262144; omega⟩

theorem cb_enc_lt {x y : Nat} (hy : y < 2097152) (h : x < y) (s t : List UInt8) : Lib.compareBytes (enc x ++ s) (enc y ++ t) = -1 := by
  obtain ⟨k, k1, k2, k3, k4⟩ := encAt_lt hy h
  refine cb_first k (by rw [List.length_append]; omega) (by rw [List.length_append]; omega) (fun i hi => ?_) ?_
  · rw [enc_at x (by omega) i (by omega), enc_at y hy i (by omega)]; exact k3 i hi
  · rw [enc_at x (by omega) k k1, enc_at y hy k k2]; exact k4
theorem cb_enc_gt {x y : Nat} (hx : x < 2097152) (h : y < x) (s t : List UInt8) : Lib.compareBytes (enc x ++ s) (enc y ++ t) = 1 := by
  obtain ⟨k, k1, k2, k3, k4⟩ := encAt_lt hx h
  refine cb_first_gt k (by rw [List.length_append]; omega) (by rw [List.length_append]; omega) (fun i hi => ?_) ?_
  · rw [enc_at x hx i (by omega), enc_at y (by omega) i (by omega)]; exact (k3 i hi).symm
  · rw [enc_at x hx k k2, enc_at y (by omega) k k1]; exact k4

theorem cb_nil_left {b : List UInt8} (h : b ≠ []) : Lib.compareBytes [] b = -1 := by
  cases b with
  | nil => exact absurd rfl h
  | cons _ _ => rfl
theorem cb_nil_right {a : List UInt8} (h : a ≠ []) : Lib.compareBytes a [] = 1 := by
  cases a with
  | nil => exact absurd rfl h
  | cons _ _ => rfl

theorem encs_ne {x : Nat} {xs : List Nat} : encs (x :: xs) ≠ [] := by
  rw [encs_cons]
  intro e
  exact enc_ne x (List.append_eq_nil_iff.1 e).1

/-- Valid texts stand in the order of their runes: where they first differ .. -/
theorem cb_encs_diff : ∀ (k : Nat) (xs ys : List Nat), (∀ x ∈ xs, IsRune x) → (∀ y ∈ ys, IsRune y) → k < xs.length → k < ys.length → (∀ i, i < k → xs[i]? = ys[i]?) → xs[k]?.getD 0 ≠ ys[k]?.getD 0 →
    Lib.compareBytes (encs xs) (encs ys) = if xs[k]?.getD 0 < ys[k]?.getD 0 then -1 else 1
  | k, [], ys, _, _, h, _, _, _ => by simp at h
  | k, x :: xs, [], _, _, _, h, _, _ => by simp at h
  | 0, x :: xs, y :: ys, hx, hy, _, _, _, hne => by
    simp only [List.getElem?_cons_zero, Option.getD_some] at hne ⊢
    rw [encs_cons, encs_cons]
    by_cases h : x < y
    · rw [if_pos h, cb_enc_lt (hy y (List.mem_cons_self ..)).lt h]
    · rw [if_neg h, cb_enc_gt (hx x (List.mem_cons_self ..)).lt (by omega)]
  | k + 1, x :: xs, y :: ys, hx, hy, h1, h2, heq, hne => by
    have h0 := heq 0 (by omega)
    simp only [List.getElem?_cons_zero, Option.some.injEq] at h0
    subst h0
    simp only [List.getElem?_cons_succ] at hne ⊢
    rw [encs_cons, encs_cons, cb_self_append]
    refine cb_encs_diff k xs ys (fun z hz => hx z (List.mem_cons_of_mem _ hz)) (fun z hz => hy z (List.mem_cons_of_mem _ hz)) (by simpa using h1) (by simpa using h2) (fun i hi => ?_) hne
    have := heq (i + 1) (by omega)
    simpa using this

/-- .. or by their lengths, where one begins the other. -/
theorem cb_encs_same : ∀ (xs ys : List Nat), (∀ i, i < xs.length → i < ys.length → xs[i]? = ys[i]?) →
    Lib.compareBytes (encs xs) (encs ys) = if xs.length = ys.length then 0 else if xs.length < ys.length then -1 else 1
  | [], [], _ => rfl
  | [], y :: ys, _ => by rw [encs_nil, cb_nil_left encs_ne]; simp
  | x :: xs, [], _ => by rw [encs_nil, cb_nil_right encs_ne]; simp
  | x :: xs, y :: ys, heq => by
    have h0 := heq 0 (by simp) (by simp)
    simp only [List.getElem?_cons_zero, Option.some.injEq] at h0
    subst h0
    rw [encs_cons, encs_cons, cb_self_append, cb_encs_same xs ys (fun i h1 h2 => by have := heq (i + 1) (by simpa using h1) (by simpa using h2); simpa using this)]
    simp

/-! ### Cuts -/

theorem cut_eq {l : List UInt8} {ys : List Nat} (h : runes l = some ys) (n : Int) : cut l n = encs (ys.take n.toNat) := by unfold cut; rw [h]
theorem take_runes {ys : List Nat} (h : ∀ y ∈ ys, IsRune y) (k : Nat) : ∀ y ∈ ys.take k, IsRune y := fun y hy => h y (List.mem_of_mem_take hy)
theorem drop_runes {ys : List Nat} (h : ∀ y ∈ ys, IsRune y) (k : Nat) : ∀ y ∈ ys.drop k, IsRune y := fun y hy => h y (List.mem_of_mem_drop hy)
theorem runes_cut {l : List UInt8} {ys : List Nat} (h : runes l = some ys) (n : Int) : runes (cut l n) = some (ys.take n.toNat) := by
  rw [cut_eq h]; exact runes_encs _ (take_runes (runes_sound h).1 _)
theorem cut_cut {l : List UInt8} {ys : List Nat} (h : runes l = some ys) (n m : Int) : cut (cut l n) m = cut l (min n m) := by
  rw [cut_eq (runes_cut h n), cut_eq h, List.take_take]
  congr 2
  omega
theorem cut_all {l : List UInt8} {ys : List Nat} (h : runes l = some ys) : cut l (ys.length : Nat) = l := by
  rw [cut_eq h, List.take_of_length_le (by simp)]
  exact (runes_sound h).2.symm
theorem cnt_eq {l : List UInt8} {ys : List Nat} (h : runes l = some ys) : cnt l = ys.length := by unfold cnt; rw [h]
theorem cnt_cut {l : List UInt8} {ys : List Nat} (h : runes l = some ys) (n : Int) : cnt (cut l n) = ((min n.toNat ys.length : Nat) : Int) := by
  rw [cnt_eq (runes_cut h n), List.length_take]
theorem cb_cut {l : List UInt8} {ys : List Nat} (h : runes l = some ys) (n : Int) : Lib.compareBytes (cut l n) l = if min n.toNat ys.length = ys.length then 0 else -1 := by
  rw [cut_eq h, (runes_sound h).2, cb_encs_same _ _ (fun i h1 _ => by rw [List.getElem?_take_of_lt (by rw [List.length_take] at h1; omega)]), List.length_take]
  by_cases e : min n.toNat ys.length = ys.length
  · rw [if_pos e, if_pos e]
  · rw [if_neg e, if_neg e, if_pos (by omega)]
theorem cut_split {l : List UInt8} {ys : List Nat} (h : runes l = some ys) (n : Int) : l = cut l n ++ encs (ys.drop n.toNat) := by
  rw [cut_eq h, ← encs_append, List.take_append_drop]; exact (runes_sound h).2
theorem drop_cut {l : List UInt8} {ys : List Nat} (h : runes l = some ys) (n : Int) : l.drop (cut l n).length = encs (ys.drop n.toNat) := by
  have := cut_split h n
  exact (congrArg (List.drop (cut l n).length) this).trans (List.drop_left' rfl)
theorem take_cut {l : List UInt8} {ys : List Nat} (h : runes l = some ys) (n : Int) : l.take (cut l n).length = cut l n := by
  have := cut_split h n
  exact (congrArg (List.take (cut l n).length) this).trans (List.take_left' rfl)
theorem cut_len {l : List UInt8} {ys : List Nat} (h : runes l = some ys) (n : Int) : (cut l n).length ≤ l.length := by
  have := congrArg List.length (cut_split h n)
  rw [List.length_append] at this; omega

end Go.Proofs.Ytjlnlidbdngbpaa
