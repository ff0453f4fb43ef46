/-
  Contracts of the document's answers: Read.
-/
import Derived.Test.YtjlnlidbdngbpaaWalkA
namespace Go.Proofs.Ytjlnlidbdngbpaa
open Go.RowKit

theorem at8_get (s : ByteArray) (k : Nat) (h : k < s.size) : at8 s.data.toList k = (s[k]'h).toNat := by
  unfold at8
  have : s.data.toList[k]? = some (s[k]'h) := by
    rw [List.getElem?_eq_getElem (by rw [← Lib.size_eq]; exact h)]
    simp
    rfl
  rw [this]; rfl

theorem conts_false {l : List UInt8} {k m : Nat} (h : k + 1 ≤ m) (hb : ¬ (128 ≤ at8 l (k + 1) ∧ at8 l (k + 1) < 192)) : conts l m = false := by
  induction m with
  | zero => omega
  | succ m ih =>
    show (conts l m && (decide (128 ≤ at8 l (m + 1)) && decide (at8 l (m + 1) < 192))) = false
    by_cases e : k = m
    · subst e
      have : (decide (128 ≤ at8 l (k + 1)) && decide (at8 l (k + 1) < 192)) = false := by
        rw [Bool.eq_false_iff]; simp; omega
      rw [this, Bool.and_false]
    · rw [ih (by omega), Bool.false_and]

theorem conts_step {l : List UInt8} {k : Nat} (h : conts l k = true) (hb : 128 ≤ at8 l (k + 1) ∧ at8 l (k + 1) < 192) : conts l (k + 1) = true := by
  show (conts l k && (decide (128 ≤ at8 l (k + 1)) && decide (at8 l (k + 1) < 192))) = true
  rw [h]; simp; omega

theorem acc_lt {l : List UInt8} {x : Nat} (hx : x < 32) : ∀ k, conts l k = true → acc l x k < 32 * 64 ^ k
  | 0, _ => by show x < 32 * 64 ^ 0; rw [Nat.pow_zero]; omega
  | k + 1, h => by
    have h' : (conts l k && (decide (128 ≤ at8 l (k + 1)) && decide (at8 l (k + 1) < 192))) = true := h
    simp only [Bool.and_eq_true, decide_eq_true_eq] at h'
    have := acc_lt hx k h'.1
    show 64 * acc l x k + at8 l (k + 1) - 128 < 32 * 64 ^ (k + 1)
    have e : 32 * 64 ^ (k + 1) = 64 * (32 * 64 ^ k) := by rw [Nat.pow_succ]; omega
    omega

theorem acc_lt3 {l : List UInt8} {x k : Nat} (hx : x < 32) (hk : k ≤ 3) (h : conts l k = true) : acc l x k ≤ 8388607 := by
  have := acc_lt hx k h
  have : 32 * 64 ^ k ≤ 32 * 64 ^ 3 := Nat.mul_le_mul_left _ (Nat.pow_le_pow_right (by omega) hk)
  omega

theorem rd_lead {l : List UInt8} (hne : l ≠ []) {n x0 least : Nat} (ln : leadN (at8 l 0) = n) (lx : leadX (at8 l 0) = x0) (ll : leadL (at8 l 0) = least) (c1 : ¬ at8 l 0 < 128) (hn : n ≠ 0) (hlen : n ≤ l.length) :
    rd l = if conts l (n - 1) = true ∧ okR least (acc l x0 (n - 1)) = true then (acc l x0 (n - 1), n) else (0, 0) := by
  unfold rd
  rw [if_neg hne, if_neg c1, ln, lx, ll, if_neg (by omega)]
theorem rd_short {l : List UInt8} (c1 : ¬ at8 l 0 < 128) (h : leadN (at8 l 0) = 0 ∨ l.length < leadN (at8 l 0)) : rd l = (0, 0) := by
  unfold rd
  by_cases hne : l = []
  · rw [if_pos hne]
  · rw [if_neg hne, if_neg c1, if_pos h]

theorem ret_pair {a b c d : Nat} (h : (a, b) = (c, d)) : Ending.returned (.tuple #[.int .i64 (a : Nat), .int .i64 (b : Nat)]) = Ending.returned (.tuple #[.int .i64 (c : Nat), .int .i64 (d : Nat)]) := by
  cases h; rfl

/-- What Read answers. -/
def RdAns (s : ByteArray) (e : Ending) : Prop := e = .returned (.tuple #[.int .i64 ((rd s.data.toList).1 : Nat), .int .i64 ((rd s.data.toList).2 : Nat)])
theorem RdAns.mk {s : ByteArray} {a b : Nat} (h : rd s.data.toList = (a, b)) : RdAns s (.returned (.tuple #[.int .i64 (a : Nat), .int .i64 (b : Nat)])) := by
  unfold RdAns; rw [h]

theorem okR_true {least x : Nat} (h : okR least x = true) : least ≤ x ∧ x ≤ 1114111 ∧ (x < 55296 ∨ 57343 < x) := by
  unfold okR at h; simp at h; omega
theorem okR_mk {least x : Nat} (h1 : least ≤ x) (h2 : x ≤ 1114111) (h3 : x < 55296 ∨ 57343 < x) : okR least x = true := by
  unfold okR; simp; omega
theorem okR_bad {least x : Nat} (h : x < least ∨ 1114111 < x ∨ (55296 ≤ x ∧ x ≤ 57343)) : okR least x = false := by
  rw [Bool.eq_false_iff]; intro e; have := okR_true e; omega

theorem nonempty_facts {s : ByteArray} (h0 : 0 < s.size) : s.toList.isEmpty = false ∧ ¬ s.toList = [] ∧ s.data.toList ≠ [] := by
  have e : s.data.toList ≠ [] := by intro e; rw [Lib.size_eq, e] at h0; simp at h0
  refine ⟨?_, by rw [Lib.toList_data]; exact e, e⟩
  rw [Lib.toList_data]
  cases hl : s.data.toList with
  | nil => exact absurd hl e
  | cons a t => rfl

set_option maxHeartbeats 2000000 in
set_option maxRecDepth 100000 in
theorem Read_lead2 (s : ByteArray) (w : World) (hs : s.size ≤ 9223372036854775807) (h0 : 0 < s.size) (hlo : 192 ≤ (s[0]'h0).toNat) (hhi : (s[0]'h0).toNat < 224) :
    Calls Try.prog 26 #[.string s] w fun e w' => RdAns s e ∧ w = w' := by
  obtain ⟨he1, he2, hne⟩ := nonempty_facts h0
  have HC : Hid (at8 s.data.toList 0 = (s[0]'h0).toNat) := at8_get s 0 h0
  have HS : Hid (s.data.toList.length = s.size) := (Lib.size_eq s).symm
  have HN : Hid (leadN (at8 s.data.toList 0) = 2) := by have e := HC.out; unfold leadN; show (if _ then _ else _) = _; rw [if_pos (by omega)]
  have HX : Hid (leadX (at8 s.data.toList 0) = (s[0]'h0).toNat - 192) := by have e := HC.out; unfold leadX; show (if _ then _ else _) = _; rw [if_pos (by omega)]; omega
  have HL : Hid (leadL (at8 s.data.toList 0) = 128) := by have e := HC.out; unfold leadL; show (if _ then _ else _) = _; rw [if_pos (by omega)]
  have HD : Hid (¬ at8 s.data.toList 0 < 128) := by have e := HC.out; show ¬ _; omega
  by_cases hlen : s.size < 2
  · have HR : Hid (rd s.data.toList = (0, 0)) := rd_short HD.out (Or.inr (by have := HS.out; have := HN.out; omega))
    clear hne
    go_enter Try.func26, Try.ntmps26
    go_wp2_with fail
    go_ret2
    exact ⟨RdAns.mk HR.out, rfl⟩
  · have HR := Lib.hid (rd_lead hne HN.out HX.out HL.out HD.out (by omega) (by have := HS.out; omega))
    have hlen' : 2 ≤ s.size := by omega
    clear hne hlen
    have hd0 : decide ((((s[0]'h0).toNat : Nat) : Int) < 128) = false := by simp; omega
    have hd2 : decide (192 ≤ (((s[0]'h0).toNat : Nat) : Int)) = true := by simp; omega
    have hd4 : decide ((((s[0]'h0).toNat : Nat) : Int) < 224) = true := by simp; omega
    have hd6 : decide (((s.size : Nat) : Int) < 2) = false := by simp; omega
    go_enter Try.func26, Try.ntmps26
    go_wp2_with fail
    go_loop [6, 8] (fun x i => ∃ k A : Nat, k + 1 ≤ 2 ∧ Hid (conts s.data.toList k = true) ∧ Hid (A = acc s.data.toList ((s[0]'h0).toNat - 192) k) ∧ A ≤ 8388607 ∧ i = .int .i64 ((k + 1 : Nat)) ∧ x = .int .i64 (A : Nat)) (fun _ i => 2 - (intOf i).toNat)
    case atStart => exact ⟨0, (s[0]'h0).toNat - 192, by omega, rfl, rfl, by omega, rfl, by rw [Value.int.injEq]; exact ⟨rfl, by omega⟩⟩
    case round =>
      obtain ⟨k, A, hk, hct, hac, hA, rfl, rfl⟩ := hrel
      by_cases hlt : k + 1 < 2
      · have hks : k + 1 < s.size := by omega
        by_cases hb : 128 ≤ (s[k + 1]'hks).toNat ∧ (s[k + 1]'hks).toNat < 192
        · obtain ⟨hb1, hb2⟩ := hb
          have HG : Hid (conts s.data.toList (k + 1) = true) := conts_step hct.out (by rw [at8_get s (k + 1) hks]; exact ⟨hb1, hb2⟩)
          have HA : Hid (64 * A + (s[k + 1]'hks).toNat - 128 = acc s.data.toList ((s[0]'h0).toNat - 192) (k + 1)) := by
            show _ = 64 * acc s.data.toList _ k + at8 s.data.toList (k + 1) - 128
            rw [at8_get s (k + 1) hks, ← hac.out]
          have hA2 : 64 * A + (s[k + 1]'hks).toNat - 128 ≤ 8388607 := by
            rw [HA.out]; exact acc_lt3 (by omega) (by omega) HG.out
          go_wp2_with fail
          go_round
          case rel => exact ⟨k + 1, 64 * A + (s[k + 1]'hks).toNat - 128, by omega, HG, HA, hA2, by go_num, by rw [Value.int.injEq]; exact ⟨rfl, by omega⟩⟩
          case measure => simp [intOf]; omega
        · have HF : Hid (rd s.data.toList = (0, 0)) := by
            have hb' : ¬ (128 ≤ at8 s.data.toList (k + 1) ∧ at8 s.data.toList (k + 1) < 192) := by rw [at8_get s (k + 1) hks]; exact hb
            show _ = _
            rw [HR.out, conts_false (m := 2 - 1) (by omega) hb', if_neg (by simp)]
          by_cases hb3 : (s[k + 1]'hks).toNat < 128
          · clear hb
            go_wp2_with fail
            go_ret2
            exact ⟨RdAns.mk HF.out, rfl⟩
          · have hb4 : 192 ≤ (s[k + 1]'hks).toNat := by omega
            clear hb
            go_wp2_with fail
            go_ret2
            exact ⟨RdAns.mk HF.out, rfl⟩
      · obtain rfl : k = 1 := by omega
        have HE := hac.out
        by_cases hok : okR 128 A = true
        · have HF : Hid (rd s.data.toList = (A, 2)) := by
            show _ = _
            rw [HR.out, ← HE, if_pos ⟨hct.out, hok⟩]
          obtain ⟨o1, o2, o3⟩ := okR_true hok
          clear hok HE
          rcases o3 with o3 | o3
          · go_wp2_with fail
            go_ret2
            exact ⟨RdAns.mk HF.out, rfl⟩
          · go_wp2_with fail
            go_ret2
            exact ⟨RdAns.mk HF.out, rfl⟩
        · have HF : Hid (rd s.data.toList = (0, 0)) := by
            show _ = _
            rw [HR.out, ← HE, if_neg (by intro h; exact hok h.2)]
          have hbad : A < 128 ∨ 1114111 < A ∨ (55296 ≤ A ∧ A ≤ 57343) := by
            by_cases c1 : A < 128
            · exact Or.inl c1
            by_cases c2 : 1114111 < A
            · exact Or.inr (Or.inl c2)
            by_cases c3 : 55296 ≤ A ∧ A ≤ 57343
            · exact Or.inr (Or.inr c3)
            · exact absurd (okR_mk (by omega) (by omega) (by omega)) hok
          clear hok HE
          rcases hbad with o | o | ⟨o, o2⟩
          · go_wp2_with fail
            go_ret2
            exact ⟨RdAns.mk HF.out, rfl⟩
          · have o1 : 128 ≤ A := by omega
            go_wp2_with fail
            go_ret2
            exact ⟨RdAns.mk HF.out, rfl⟩
          · go_wp2_with fail
            all_goals
              go_ret2
              exact ⟨RdAns.mk HF.out, rfl⟩

set_option maxHeartbeats 2000000 in
set_option maxRecDepth 100000 in
theorem Read_lead3 (s : ByteArray) (w : World) (hs : s.size ≤ 9223372036854775807) (h0 : 0 < s.size) (hlo : 224 ≤ (s[0]'h0).toNat) (hhi : (s[0]'h0).toNat < 240) :
    Calls Try.prog 26 #[.string s] w fun e w' => RdAns s e ∧ w = w' := by
  obtain ⟨he1, he2, hne⟩ := nonempty_facts h0
  have HC : Hid (at8 s.data.toList 0 = (s[0]'h0).toNat) := at8_get s 0 h0
  have HS : Hid (s.data.toList.length = s.size) := (Lib.size_eq s).symm
  have HN : Hid (leadN (at8 s.data.toList 0) = 3) := by have e := HC.out; unfold leadN; show (if _ then _ else _) = _; rw [if_neg (by omega), if_pos (by omega)]
  have HX : Hid (leadX (at8 s.data.toList 0) = (s[0]'h0).toNat - 224) := by have e := HC.out; unfold leadX; show (if _ then _ else _) = _; rw [if_neg (by omega), if_pos (by omega)]; omega
  have HL : Hid (leadL (at8 s.data.toList 0) = 2048) := by have e := HC.out; unfold leadL; show (if _ then _ else _) = _; rw [if_neg (by omega), if_pos (by omega)]
  have HD : Hid (¬ at8 s.data.toList 0 < 128) := by have e := HC.out; show ¬ _; omega
  by_cases hlen : s.size < 3
  · have HR : Hid (rd s.data.toList = (0, 0)) := rd_short HD.out (Or.inr (by have := HS.out; have := HN.out; omega))
    clear hne
    go_enter Try.func26, Try.ntmps26
    go_wp2_with fail
    go_ret2
    exact ⟨RdAns.mk HR.out, rfl⟩
  · have HR := Lib.hid (rd_lead hne HN.out HX.out HL.out HD.out (by omega) (by have := HS.out; omega))
    have hlen' : 3 ≤ s.size := by omega
    clear hne hlen
    have hd0 : decide ((((s[0]'h0).toNat : Nat) : Int) < 128) = false := by simp; omega
    have hd2 : decide (192 ≤ (((s[0]'h0).toNat : Nat) : Int)) = true := by simp; omega
    have hd4 : decide ((((s[0]'h0).toNat : Nat) : Int) < 224) = false := by simp; omega
    have hd6 : decide (224 ≤ (((s[0]'h0).toNat : Nat) : Int)) = true := by simp; omega
    have hd8 : decide ((((s[0]'h0).toNat : Nat) : Int) < 240) = true := by simp; omega
    have hd10 : decide (((s.size : Nat) : Int) < 3) = false := by simp; omega
    go_enter Try.func26, Try.ntmps26
    go_wp2_with fail
    go_loop [6, 8] (fun x i => ∃ k A : Nat, k + 1 ≤ 3 ∧ Hid (conts s.data.toList k = true) ∧ Hid (A = acc s.data.toList ((s[0]'h0).toNat - 224) k) ∧ A ≤ 8388607 ∧ i = .int .i64 ((k + 1 : Nat)) ∧ x = .int .i64 (A : Nat)) (fun _ i => 3 - (intOf i).toNat)
    case atStart => exact ⟨0, (s[0]'h0).toNat - 224, by omega, rfl, rfl, by omega, rfl, by rw [Value.int.injEq]; exact ⟨rfl, by omega⟩⟩
    case round =>
      obtain ⟨k, A, hk, hct, hac, hA, rfl, rfl⟩ := hrel
      by_cases hlt : k + 1 < 3
      · have hks : k + 1 < s.size := by omega
        by_cases hb : 128 ≤ (s[k + 1]'hks).toNat ∧ (s[k + 1]'hks).toNat < 192
        · obtain ⟨hb1, hb2⟩ := hb
          have HG : Hid (conts s.data.toList (k + 1) = true) := conts_step hct.out (by rw [at8_get s (k + 1) hks]; exact ⟨hb1, hb2⟩)
          have HA : Hid (64 * A + (s[k + 1]'hks).toNat - 128 = acc s.data.toList ((s[0]'h0).toNat - 224) (k + 1)) := by
            show _ = 64 * acc s.data.toList _ k + at8 s.data.toList (k + 1) - 128
            rw [at8_get s (k + 1) hks, ← hac.out]
          have hA2 : 64 * A + (s[k + 1]'hks).toNat - 128 ≤ 8388607 := by
            rw [HA.out]; exact acc_lt3 (by omega) (by omega) HG.out
          go_wp2_with fail
          go_round
          case rel => exact ⟨k + 1, 64 * A + (s[k + 1]'hks).toNat - 128, by omega, HG, HA, hA2, by go_num, by rw [Value.int.injEq]; exact ⟨rfl, by omega⟩⟩
          case measure => simp [intOf]; omega
        · have HF : Hid (rd s.data.toList = (0, 0)) := by
            have hb' : ¬ (128 ≤ at8 s.data.toList (k + 1) ∧ at8 s.data.toList (k + 1) < 192) := by rw [at8_get s (k + 1) hks]; exact hb
            show _ = _
            rw [HR.out, conts_false (m := 3 - 1) (by omega) hb', if_neg (by simp)]
          by_cases hb3 : (s[k + 1]'hks).toNat < 128
          · clear hb
            go_wp2_with fail
            go_ret2
            exact ⟨RdAns.mk HF.out, rfl⟩
          · have hb4 : 192 ≤ (s[k + 1]'hks).toNat := by omega
            clear hb
            go_wp2_with fail
            go_ret2
            exact ⟨RdAns.mk HF.out, rfl⟩
      · obtain rfl : k = 2 := by omega
        have HE := hac.out
        by_cases hok : okR 2048 A = true
        · have HF : Hid (rd s.data.toList = (A, 3)) := by
            show _ = _
            rw [HR.out, ← HE, if_pos ⟨hct.out, hok⟩]
          obtain ⟨o1, o2, o3⟩ := okR_true hok
          clear hok HE
          rcases o3 with o3 | o3
          · go_wp2_with fail
            go_ret2
            exact ⟨RdAns.mk HF.out, rfl⟩
          · go_wp2_with fail
            go_ret2
            exact ⟨RdAns.mk HF.out, rfl⟩
        · have HF : Hid (rd s.data.toList = (0, 0)) := by
            show _ = _
            rw [HR.out, ← HE, if_neg (by intro h; exact hok h.2)]
          have hbad : A < 2048 ∨ 1114111 < A ∨ (55296 ≤ A ∧ A ≤ 57343) := by
            by_cases c1 : A < 2048
            · exact Or.inl c1
            by_cases c2 : 1114111 < A
            · exact Or.inr (Or.inl c2)
            by_cases c3 : 55296 ≤ A ∧ A ≤ 57343
            · exact Or.inr (Or.inr c3)
            · exact absurd (okR_mk (by omega) (by omega) (by omega)) hok
          clear hok HE
          rcases hbad with o | o | ⟨o, o2⟩
          · go_wp2_with fail
            go_ret2
            exact ⟨RdAns.mk HF.out, rfl⟩
          · have o1 : 2048 ≤ A := by omega
            go_wp2_with fail
            go_ret2
            exact ⟨RdAns.mk HF.out, rfl⟩
          · go_wp2_with fail
            all_goals
              go_ret2
              exact ⟨RdAns.mk HF.out, rfl⟩

set_option maxHeartbeats 2000000 in
set_option maxRecDepth 100000 in
theorem Read_lead4 (s : ByteArray) (w : World) (hs : s.size ≤ 9223372036854775807) (h0 : 0 < s.size) (hlo : 240 ≤ (s[0]'h0).toNat) (hhi : (s[0]'h0).toNat < 248) :
    Calls Try.prog 26 #[.string s] w fun e w' => RdAns s e ∧ w = w' := by
  obtain ⟨he1, he2, hne⟩ := nonempty_facts h0
  have HC : Hid (at8 s.data.toList 0 = (s[0]'h0).toNat) := at8_get s 0 h0
  have HS : Hid (s.data.toList.length = s.size) := (Lib.size_eq s).symm
  have HN : Hid (leadN (at8 s.data.toList 0) = 4) := by have e := HC.out; unfold leadN; show (if _ then _ else _) = _; rw [if_neg (by omega), if_neg (by omega), if_pos (by omega)]
  have HX : Hid (leadX (at8 s.data.toList 0) = (s[0]'h0).toNat - 240) := by have e := HC.out; unfold leadX; show (if _ then _ else _) = _; rw [if_neg (by omega), if_neg (by omega), if_pos (by omega)]; omega
  have HL : Hid (leadL (at8 s.data.toList 0) = 65536) := by have e := HC.out; unfold leadL; show (if _ then _ else _) = _; rw [if_neg (by omega), if_neg (by omega), if_pos (by omega)]
  have HD : Hid (¬ at8 s.data.toList 0 < 128) := by have e := HC.out; show ¬ _; omega
  by_cases hlen : s.size < 4
  · have HR : Hid (rd s.data.toList = (0, 0)) := rd_short HD.out (Or.inr (by have := HS.out; have := HN.out; omega))
    clear hne
    go_enter Try.func26, Try.ntmps26
    go_wp2_with fail
    go_ret2
    exact ⟨RdAns.mk HR.out, rfl⟩
  · have HR := Lib.hid (rd_lead hne HN.out HX.out HL.out HD.out (by omega) (by have := HS.out; omega))
    have hlen' : 4 ≤ s.size := by omega
    clear hne hlen
    have hd0 : decide ((((s[0]'h0).toNat : Nat) : Int) < 128) = false := by simp; omega
    have hd2 : decide (192 ≤ (((s[0]'h0).toNat : Nat) : Int)) = true := by simp; omega
    have hd4 : decide ((((s[0]'h0).toNat : Nat) : Int) < 224) = false := by simp; omega
    have hd6 : decide (224 ≤ (((s[0]'h0).toNat : Nat) : Int)) = true := by simp; omega
    have hd8 : decide ((((s[0]'h0).toNat : Nat) : Int) < 240) = false := by simp; omega
    have hd10 : decide (240 ≤ (((s[0]'h0).toNat : Nat) : Int)) = true := by simp; omega
    have hd12 : decide ((((s[0]'h0).toNat : Nat) : Int) < 248) = true := by simp; omega
    have hd14 : decide (((s.size : Nat) : Int) < 4) = false := by simp; omega
    go_enter Try.func26, Try.ntmps26
    go_wp2_with fail
    go_loop [6, 8] (fun x i => ∃ k A : Nat, k + 1 ≤ 4 ∧ Hid (conts s.data.toList k = true) ∧ Hid (A = acc s.data.toList ((s[0]'h0).toNat - 240) k) ∧ A ≤ 8388607 ∧ i = .int .i64 ((k + 1 : Nat)) ∧ x = .int .i64 (A : Nat)) (fun _ i => 4 - (intOf i).toNat)
    case atStart => exact ⟨0, (s[0]'h0).toNat - 240, by omega, rfl, rfl, by omega, rfl, by rw [Value.int.injEq]; exact ⟨rfl, by omega⟩⟩
    case round =>
      obtain ⟨k, A, hk, hct, hac, hA, rfl, rfl⟩ := hrel
      by_cases hlt : k + 1 < 4
      · have hks : k + 1 < s.size := by omega
        by_cases hb : 128 ≤ (s[k + 1]'hks).toNat ∧ (s[k + 1]'hks).toNat < 192
        · obtain ⟨hb1, hb2⟩ := hb
          have HG : Hid (conts s.data.toList (k + 1) = true) := conts_step hct.out (by rw [at8_get s (k + 1) hks]; exact ⟨hb1, hb2⟩)
          have HA : Hid (64 * A + (s[k + 1]'hks).toNat - 128 = acc s.data.toList ((s[0]'h0).toNat - 240) (k + 1)) := by
            show _ = 64 * acc s.data.toList _ k + at8 s.data.toList (k + 1) - 128
            rw [at8_get s (k + 1) hks, ← hac.out]
          have hA2 : 64 * A + (s[k + 1]'hks).toNat - 128 ≤ 8388607 := by
            rw [HA.out]; exact acc_lt3 (by omega) (by omega) HG.out
          go_wp2_with fail
          go_round
          case rel => exact ⟨k + 1, 64 * A + (s[k + 1]'hks).toNat - 128, by omega, HG, HA, hA2, by go_num, by rw [Value.int.injEq]; exact ⟨rfl, by omega⟩⟩
          case measure => simp [intOf]; omega
        · have HF : Hid (rd s.data.toList = (0, 0)) := by
            have hb' : ¬ (128 ≤ at8 s.data.toList (k + 1) ∧ at8 s.data.toList (k + 1) < 192) := by rw [at8_get s (k + 1) hks]; exact hb
            show _ = _
            rw [HR.out, conts_false (m := 4 - 1) (by omega) hb', if_neg (by simp)]
          by_cases hb3 : (s[k + 1]'hks).toNat < 128
          · clear hb
            go_wp2_with fail
            go_ret2
            exact ⟨RdAns.mk HF.out, rfl⟩
          · have hb4 : 192 ≤ (s[k + 1]'hks).toNat := by omega
            clear hb
            go_wp2_with fail
            go_ret2
            exact ⟨RdAns.mk HF.out, rfl⟩
      · obtain rfl : k = 3 := by omega
        have HE := hac.out
        by_cases hok : okR 65536 A = true
        · have HF : Hid (rd s.data.toList = (A, 4)) := by
            show _ = _
            rw [HR.out, ← HE, if_pos ⟨hct.out, hok⟩]
          obtain ⟨o1, o2, o3⟩ := okR_true hok
          clear hok HE
          rcases o3 with o3 | o3
          · omega
          · go_wp2_with fail
            go_ret2
            exact ⟨RdAns.mk HF.out, rfl⟩
        · have HF : Hid (rd s.data.toList = (0, 0)) := by
            show _ = _
            rw [HR.out, ← HE, if_neg (by intro h; exact hok h.2)]
          have hbad : A < 65536 ∨ 1114111 < A ∨ (55296 ≤ A ∧ A ≤ 57343) := by
            by_cases c1 : A < 65536
            · exact Or.inl c1
            by_cases c2 : 1114111 < A
            · exact Or.inr (Or.inl c2)
            by_cases c3 : 55296 ≤ A ∧ A ≤ 57343
            · exact Or.inr (Or.inr c3)
            · exact absurd (okR_mk (by omega) (by omega) (by omega)) hok
          clear hok HE
          rcases hbad with o | o | ⟨o, o2⟩
          · go_wp2_with fail
            go_ret2
            exact ⟨RdAns.mk HF.out, rfl⟩
          · have o1 : 65536 ≤ A := by omega
            go_wp2_with fail
            go_ret2
            exact ⟨RdAns.mk HF.out, rfl⟩
          · go_wp2_with fail
            all_goals
              go_ret2
              exact ⟨RdAns.mk HF.out, rfl⟩

set_option maxHeartbeats 1000000 in
set_option maxRecDepth 100000 in
theorem Read_any (s : ByteArray) (w : World) (hs : s.size ≤ maxLen) :
    Calls Try.prog 26 #[.string s] w fun e w' => RdAns s e ∧ w = w' := by
  unfold maxLen at hs
  by_cases he : s.size = 0
  · obtain rfl : s = ⟨#[]⟩ := ByteArray.ext (Array.eq_empty_of_size_eq_zero he)
    clear he hs
    go_enter Try.func26, Try.ntmps26
    go_wp2_with fail
    go_ret2
    exact ⟨RdAns.mk rfl, rfl⟩
  have h0 : 0 < s.size := by omega
  have hb8 := (s[0]'h0).toNat_lt
  by_cases h1 : (s[0]'h0).toNat < 128
  · obtain ⟨he1, he2, hne⟩ := nonempty_facts h0
    have HR : Hid (rd s.data.toList = ((s[0]'h0).toNat, 1)) := by
      unfold rd; show (if _ then _ else _) = _; rw [if_neg hne, at8_get s 0 h0, if_pos h1]
    clear hne he
    go_enter Try.func26, Try.ntmps26
    go_wp2_with fail
    go_ret2
    exact ⟨RdAns.mk HR.out, rfl⟩
  by_cases h2 : 192 ≤ (s[0]'h0).toNat ∧ (s[0]'h0).toNat < 224
  · exact Read_lead2 s w (by omega) h0 h2.1 h2.2
  by_cases h3 : 224 ≤ (s[0]'h0).toNat ∧ (s[0]'h0).toNat < 240
  · exact Read_lead3 s w (by omega) h0 h3.1 h3.2
  by_cases h4 : 240 ≤ (s[0]'h0).toNat ∧ (s[0]'h0).toNat < 248
  · exact Read_lead4 s w (by omega) h0 h4.1 h4.2
  have HR : Hid (rd s.data.toList = (0, 0)) := by
    refine rd_short (by rw [at8_get s 0 h0]; exact h1) (Or.inl ?_)
    rw [at8_get s 0 h0]; unfold leadN; rw [if_neg h2, if_neg h3, if_neg h4]
  obtain ⟨he1, he2, hne⟩ := nonempty_facts h0
  clear hne
  by_cases c : (s[0]'h0).toNat < 192
  · clear h2 h3 h4
    go_enter Try.func26, Try.ntmps26
    go_wp2_with fail
    go_ret2
    exact ⟨RdAns.mk HR.out, rfl⟩
  · have c' : 248 ≤ (s[0]'h0).toNat := by omega
    clear h2 h3 h4
    go_enter Try.func26, Try.ntmps26
    go_wp2_with fail
    go_ret2
    exact ⟨RdAns.mk HR.out, rfl⟩

end Go.Proofs.Ytjlnlidbdngbpaa
