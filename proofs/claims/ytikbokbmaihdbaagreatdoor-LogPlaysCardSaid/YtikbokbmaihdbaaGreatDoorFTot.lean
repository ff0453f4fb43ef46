/-
  Layer 6, plain mathematics: four bytes, a frame, what is cut, what is scanned.
  Sums over rows of texts.
-/
import Derived.Test.YtikbokbmaihdbaaGreatDoorCWalkA
namespace Go.Proofs.YtikbokbmaihdbaaGreatDoor

def str (l : List UInt8) : ByteArray := ⟨l.toArray⟩
theorem str_data (l : List UInt8) : (str l).data.toList = l := rfl
theorem str_of (s : ByteArray) : str s.data.toList = s := rfl
theorem str_size (l : List UInt8) : (str l).size = l.length := by simp [str, ByteArray.size]
theorem size_len (s : ByteArray) : s.size = s.data.toList.length := by simp
theorem str_append (a b : List UInt8) : str a ++ str b = str (a ++ b) := by
  apply ByteArray.ext; apply Array.toList_inj.1; simp [str]

/-- Four bytes of a number, the lowest first; the number that four bytes say. -/
def le4 (n : Nat) : List UInt8 := [UInt8.ofNat n, UInt8.ofNat (n / 256), UInt8.ofNat (n / 65536), UInt8.ofNat (n / 16777216)]
def v4 (l : List UInt8) : Nat := (l.getD 0 0).toNat + 256 * (l.getD 1 0).toNat + 65536 * (l.getD 2 0).toNat + 16777216 * (l.getD 3 0).toNat
theorem le4_len (n : Nat) : (le4 n).length = 4 := rfl
theorem v4_lt (l : List UInt8) : v4 l < 4294967296 := by
  have h0 := UInt8.toNat_lt (l.getD 0 0)
  have h1 := UInt8.toNat_lt (l.getD 1 0)
  have h2 := UInt8.toNat_lt (l.getD 2 0)
  have h3 := UInt8.toNat_lt (l.getD 3 0)
  unfold v4
  omega
theorem v4_le4 (n : Nat) (h : n < 4294967296) (r : List UInt8) : v4 (le4 n ++ r) = n := by
  simp only [v4, le4, List.cons_append, List.getD_cons_zero, List.getD_cons_succ, UInt8.toNat_ofNat']
  omega
theorem v4_take (l : List UInt8) (k : Nat) (hk : 4 ≤ k) : v4 (l.take k) = v4 l := by
  match l, k, hk with
  | [], _, _ => simp
  | [a], k + 4, _ => simp
  | [a, b], k + 4, _ => simp
  | [a, b, c], k + 4, _ => simp
  | a :: b :: c :: d :: r, k + 4, _ => simp [v4]

/-- Numbers by their first bytes. -/
def pv (l : List UInt8) : Nat → Nat
  | 0 => 0
  | i + 1 => pv l i + (l.getD i 0).toNat * 2 ^ (8 * i)
theorem pv_lt (l : List UInt8) : ∀ i, pv l i < 2 ^ (8 * i)
  | 0 => by simp [pv]
  | i + 1 => by
    have h := pv_lt l i
    have hc := UInt8.toNat_lt (l.getD i 0)
    have e : (2 : Nat) ^ (8 * (i + 1)) = 256 * 2 ^ (8 * i) := by rw [show 8 * (i + 1) = 8 + 8 * i by omega, Nat.pow_add]
    have h1 : (l.getD i 0).toNat * 2 ^ (8 * i) ≤ 255 * 2 ^ (8 * i) := Nat.mul_le_mul_right _ (by omega)
    rw [e, pv]
    omega
theorem pv_four (l : List UInt8) : pv l 4 = v4 l := by
  simp only [pv, v4]
  omega

/-- A frame. -/
def ck (t : List UInt8) : Nat := ofN (le4 t.length ++ t)
def fr (t : List UInt8) : List UInt8 := le4 t.length ++ (le4 (ck t) ++ t)
theorem ck_lt (t : List UInt8) : ck t < 4294967296 := ofN_lt _
theorem fr_len (t : List UInt8) : (fr t).length = 8 + t.length := by simp only [fr, List.length_append, le4_len]; omega

/-- What Cut answers: the error, the text, the rest. -/
def cE (l : List UInt8) : Nat :=
  if l.length < 8 then 20 else if 1048576 < v4 l then 4 else if l.length < 8 + v4 l then 20
  else if v4 (l.drop 4) ≠ ofN (l.take 4 ++ (l.drop 8).take (v4 l)) then 60 else 0
def cT (l : List UInt8) : List UInt8 := if cE l = 0 then (l.drop 8).take (v4 l) else []
def cR (l : List UInt8) : List UInt8 := if cE l = 0 then l.drop (8 + v4 l) else []

theorem cE_short {l : List UInt8} (h : l.length < 8) : cE l = 20 := by rw [cE, if_pos h]
theorem cE_long {l : List UInt8} (h : 8 ≤ l.length) (h1 : 1048576 < v4 l) : cE l = 4 := by rw [cE, if_neg (by omega), if_pos h1]
theorem cE_want {l : List UInt8} (h : 8 ≤ l.length) (h1 : v4 l ≤ 1048576) (h2 : l.length < 8 + v4 l) : cE l = 20 := by rw [cE, if_neg (by omega), if_neg (by omega), if_pos h2]
theorem cE_sum {l : List UInt8} (h : 8 ≤ l.length) (h1 : v4 l ≤ 1048576) (h2 : 8 + v4 l ≤ l.length) (h3 : v4 (l.drop 4) ≠ ofN (l.take 4 ++ (l.drop 8).take (v4 l))) : cE l = 60 := by
  rw [cE, if_neg (by omega), if_neg (by omega), if_neg (by omega), if_pos h3]
theorem cE_good {l : List UInt8} (h : 8 ≤ l.length) (h1 : v4 l ≤ 1048576) (h2 : 8 + v4 l ≤ l.length) (h3 : v4 (l.drop 4) = ofN (l.take 4 ++ (l.drop 8).take (v4 l))) : cE l = 0 := by
  rw [cE, if_neg (by omega), if_neg (by omega), if_neg (by omega), if_neg (by simpa using h3)]
theorem cE_zero {l : List UInt8} (h : cE l = 0) : 8 + v4 l ≤ l.length ∧ v4 l ≤ 1048576 := by
  unfold cE at h
  split at h
  · omega
  · split at h
    · omega
    · split at h
      · omega
      · omega
theorem cT_bad {l : List UInt8} (h : cE l ≠ 0) : cT l = [] := if_neg h
theorem cR_bad {l : List UInt8} (h : cE l ≠ 0) : cR l = [] := if_neg h
theorem cT_len {l : List UInt8} (h : cE l = 0) : (cT l).length = v4 l := by
  have := cE_zero h
  rw [cT, if_pos h, List.length_take, List.length_drop]
  omega
theorem cR_eq {l : List UInt8} (h : cE l = 0) : cR l = l.drop (8 + (cT l).length) := by rw [cT_len h, cR, if_pos h]
theorem cT_le (l : List UInt8) : (cT l).length ≤ l.length := by
  by_cases h : cE l = 0
  · rw [cT_len h]; have := cE_zero h; omega
  · rw [cT_bad h]; simp
theorem cE_vals (l : List UInt8) : cE l = 0 ∨ cE l = 4 ∨ cE l = 20 ∨ cE l = 60 := by
  unfold cE
  repeat' split
  all_goals simp

theorem fr_parts (t r : List UInt8) (ht : t.length ≤ 1048576) : v4 (fr t ++ r) = t.length ∧ (fr t ++ r).drop 4 = le4 (ck t) ++ (t ++ r) ∧ (fr t ++ r).take 4 = le4 t.length ∧ (fr t ++ r).drop 8 = t ++ r := by
  have e : fr t ++ r = le4 t.length ++ (le4 (ck t) ++ (t ++ r)) := by simp only [fr, List.append_assoc]
  rw [e]
  refine ⟨v4_le4 _ (by omega) _, rfl, rfl, rfl⟩
theorem cE_fr (t r : List UInt8) (ht : t.length ≤ 1048576) : cE (fr t ++ r) = 0 := by
  obtain ⟨h1, h2, h3, h4⟩ := fr_parts t r ht
  have hl : (fr t ++ r).length = 8 + t.length + r.length := by rw [List.length_append, fr_len]
  refine cE_good (by omega) (by omega) (by omega) ?_
  rw [h2, v4_le4 _ (ck_lt t), h3, h4, h1, List.take_left']
  · rfl
  · rfl
theorem cT_fr (t r : List UInt8) (ht : t.length ≤ 1048576) : cT (fr t ++ r) = t := by
  obtain ⟨h1, h2, h3, h4⟩ := fr_parts t r ht
  rw [cT, if_pos (cE_fr t r ht), h4, h1, List.take_left']
  rfl
theorem cR_fr (t r : List UInt8) (ht : t.length ≤ 1048576) : cR (fr t ++ r) = r := by
  rw [cR_eq (cE_fr t r ht), cT_fr t r ht, ← fr_len, List.drop_left']
  rfl
theorem fr_inj {a b : List UInt8} (ha : a.length ≤ 1048576) (hb : b.length ≤ 1048576) (h : fr a = fr b) : a = b := by
  have h1 := cT_fr a [] ha
  rw [h, cT_fr b [] hb] at h1
  exact h1.symm
theorem cE_cut (t : List UInt8) (ht : t.length ≤ 1048576) (k : Nat) (hk : k < (fr t).length) : cE ((fr t).take k) = 20 := by
  have hl : ((fr t).take k).length = k := by rw [List.length_take]; omega
  by_cases h8 : k < 8
  · exact cE_short (by omega)
  · have hv : v4 ((fr t).take k) = t.length := by
      have := (fr_parts t [] ht).1
      rw [List.append_nil] at this
      rw [v4_take _ _ (by omega), this]
    have := fr_len t
    exact cE_want (by omega) (by omega) (by omega)
/-- Another text of the same length under the head. -/
theorem cE_turn (t u : List UInt8) (ht : t.length ≤ 1048576) (hu : u.length = t.length) : cE (le4 t.length ++ (le4 (ck t) ++ u)) = if ofN (le4 t.length ++ u) ≠ ofN (le4 t.length ++ t) then 60 else 0 := by
  have hv : v4 (le4 t.length ++ (le4 (ck t) ++ u)) = t.length := v4_le4 _ (by omega) _
  have hl : (le4 t.length ++ (le4 (ck t) ++ u)).length = 8 + u.length := by simp only [List.length_append, le4_len]; omega
  have h2 : v4 ((le4 t.length ++ (le4 (ck t) ++ u)).drop 4) = ck t := v4_le4 _ (ck_lt t) u
  have h3 : (le4 t.length ++ (le4 (ck t) ++ u)).take 4 = le4 t.length := rfl
  have h4 : ((le4 t.length ++ (le4 (ck t) ++ u)).drop 8).take t.length = u := by
    show u.take t.length = u
    rw [← hu]; exact List.take_of_length_le (Nat.le_refl _)
  by_cases h : ofN (le4 t.length ++ u) ≠ ofN (le4 t.length ++ t)
  · rw [if_pos h]
    refine cE_sum (by omega) (by omega) (by omega) ?_
    rw [h2, h3, hv, h4]
    exact fun e => h e.symm
  · rw [if_neg h]
    refine cE_good (by omega) (by omega) (by omega) ?_
    rw [h2, h3, hv, h4]
    exact (by simpa using h : ofN (le4 t.length ++ u) = ofN (le4 t.length ++ t)).symm

/-- What Scan answers: the texts, how many bytes they take, what is wrong. -/
def scn : Nat → List UInt8 → List ByteArray × Nat × Nat
  | 0, _ => ([], 0, 0)
  | f + 1, l => if l.length = 0 then ([], 0, 0) else if cE l = 0 then (str (cT l) :: (scn f (cR l)).1, 8 + (cT l).length + (scn f (cR l)).2.1, (scn f (cR l)).2.2) else ([], 0, cE l)
theorem scn_more : ∀ (f g : Nat) (l : List UInt8), l.length ≤ f → l.length ≤ g → scn f l = scn g l
  | 0, 0, _, _, _ => rfl
  | 0, g + 1, l, h, _ => by rw [scn, scn, if_pos (by omega)]
  | f + 1, 0, l, _, h => by rw [scn, scn, if_pos (by omega)]
  | f + 1, g + 1, l, hf, hg => by
    rw [scn, scn]
    by_cases h0 : l.length = 0
    · rw [if_pos h0, if_pos h0]
    · rw [if_neg h0, if_neg h0]
      by_cases hc : cE l = 0
      · have hr : (cR l).length + 8 ≤ l.length := by rw [cR_eq hc, List.length_drop, cT_len hc]; have := cE_zero hc; omega
        rw [if_pos hc, if_pos hc, scn_more f g (cR l) (by omega) (by omega)]
      · rw [if_neg hc, if_neg hc]
def sc (l : List UInt8) : List ByteArray × Nat × Nat := scn l.length l
theorem sc_nil : sc [] = ([], 0, 0) := rfl
theorem sc_wrong {l : List UInt8} (h0 : l.length ≠ 0) (h : cE l ≠ 0) : sc l = ([], 0, cE l) := by
  rw [sc, scn_more l.length (l.length + 1) l (Nat.le_refl _) (by omega), scn, if_neg h0, if_neg h]
theorem sc_step {l : List UInt8} (h : cE l = 0) : sc l = (str (cT l) :: (sc (cR l)).1, 8 + (cT l).length + (sc (cR l)).2.1, (sc (cR l)).2.2) := by
  have h0 := cE_zero h
  have hr : (cR l).length ≤ l.length := by rw [cR_eq h, List.length_drop]; omega
  rw [sc, scn_more l.length (l.length + 1) l (Nat.le_refl _) (by omega), scn, if_neg (by omega), if_pos h, scn_more l.length (cR l).length (cR l) hr (Nat.le_refl _)]
  rfl

theorem scn_few : ∀ (f : Nat) (l : List UInt8), (scn f l).1.length ≤ f
  | 0, _ => by simp [scn]
  | f + 1, l => by
    have h := scn_few f (cR l)
    unfold scn
    split
    · simp
    · split
      · simp only [List.length_cons]; omega
      · simp
theorem sc_few (l : List UInt8) : (sc l).1.length ≤ l.length := scn_few _ _

/-- Where Scan's loop stands. -/
def At (L : List UInt8) (k : Nat) (ts : List ByteArray) : Prop := k ≤ L.length ∧ 8 * ts.length ≤ k ∧ sc L = (ts ++ (sc (L.drop k)).1, k + (sc (L.drop k)).2.1, (sc (L.drop k)).2.2)
theorem At.start (L : List UInt8) : At L 0 [] := ⟨Nat.zero_le _, by simp, by simp⟩
theorem At.step {L : List UInt8} {k : Nat} {ts : List ByteArray} (h : At L k ts) (hc : cE (L.drop k) = 0) : At L (k + (8 + (cT (L.drop k)).length)) (ts ++ [str (cT (L.drop k))]) := by
  obtain ⟨h1, h2, h3⟩ := h
  have hz := cE_zero hc
  have hl := cT_len hc
  have hd : (L.drop k).length = L.length - k := List.length_drop
  refine ⟨by omega, by simp; omega, ?_⟩
  rw [h3, sc_step hc, cR_eq hc, List.drop_drop]
  simp [Nat.add_assoc]
theorem At.done {L : List UInt8} {k : Nat} {ts : List ByteArray} (h : At L k ts) (hk : ¬ k < L.length) : sc L = (ts, k, 0) := by
  obtain ⟨h1, h2, h3⟩ := h
  rw [h3, List.drop_of_length_le (by omega), sc_nil]
  simp
theorem At.wrong {L : List UInt8} {k : Nat} {ts : List ByteArray} (h : At L k ts) (hk : k < L.length) (hc : cE (L.drop k) ≠ 0) : sc L = (ts, k, cE (L.drop k)) := by
  obtain ⟨h1, h2, h3⟩ := h
  rw [h3, sc_wrong (by rw [List.length_drop]; omega) hc]
  simp

/-- Frames, one behind the other. -/
def frs (ts : List ByteArray) : List UInt8 := ts.flatMap fun t => fr t.data.toList
theorem frs_cons (t : ByteArray) (ts : List ByteArray) : frs (t :: ts) = fr t.data.toList ++ frs ts := List.flatMap_cons
theorem frs_snoc (ts : List ByteArray) (i : Nat) (h : i < ts.length) : frs (ts.take (i + 1)) = frs (ts.take i) ++ fr ts[i].data.toList := by
  rw [List.take_succ_eq_append_getElem h, frs, List.flatMap_append]; simp [frs]
theorem frs_le (ts : List ByteArray) (i : Nat) : (frs (ts.take i)).length ≤ (frs ts).length := by
  have e : frs ts = frs (ts.take i) ++ frs (ts.drop i) := by rw [frs, frs, frs, ← List.flatMap_append, List.take_append_drop]
  rw [e, List.length_append]; omega

theorem sc_frs : ∀ (ts : List ByteArray), (∀ t ∈ ts, t.size ≤ 1048576) → sc (frs ts) = (ts, (frs ts).length, 0)
  | [], _ => rfl
  | t :: ts, h => by
    have ht : t.data.toList.length ≤ 1048576 := by have := h t (by simp); rw [size_len] at this; exact this
    have ih := sc_frs ts (fun u hu => h u (List.mem_cons_of_mem _ hu))
    rw [frs_cons, sc_step (cE_fr _ _ ht), cT_fr _ _ ht, cR_fr _ _ ht, ih, str_of, List.length_append, fr_len]
/-- .. of what is cut off anywhere, just the whole ones. -/
theorem sc_cut : ∀ (ts : List ByteArray), (∀ t ∈ ts, t.size ≤ 1048576) → ∀ (k j : Nat), k ≤ (frs ts).length → j ≤ ts.length → (frs (ts.take j)).length ≤ k → (j < ts.length → k < (frs (ts.take (j + 1))).length) →
    sc ((frs ts).take k) = (ts.take j, (frs (ts.take j)).length, if (frs (ts.take j)).length = k then 0 else 20)
  | [], _, k, j, hk, hj, _, _ => by
    have : k = 0 := by simpa [frs] using hk
    subst this
    simp [frs, sc_nil]
  | t :: ts, h, k, j, hk, hj, h1, h2 => by
    have ht : t.data.toList.length ≤ 1048576 := by have := h t (by simp); rw [size_len] at this; exact this
    cases j with
    | zero =>
      have hk2 : k < (fr t.data.toList).length := by
        have := h2 (by simp)
        simpa [frs] using this
      have e : (frs (t :: ts)).take k = (fr t.data.toList).take k := by rw [frs_cons, List.take_append_of_le_length (by omega)]
      rw [e]
      by_cases h0 : k = 0
      · subst h0
        simp [frs, sc_nil]
      · have hc := cE_cut _ ht k hk2
        rw [sc_wrong (by rw [List.length_take]; omega) (by rw [hc]; decide), hc]
        simp [frs, Ne.symm h0]
    | succ j =>
      have hl : (fr t.data.toList).length ≤ k := by
        rw [List.take_succ_cons, frs_cons, List.length_append] at h1
        omega
      have e : (frs (t :: ts)).take k = fr t.data.toList ++ (frs ts).take (k - (fr t.data.toList).length) := by
        rw [frs_cons, List.take_append, List.take_of_length_le hl]
      have hf : (frs ((t :: ts).take (j + 1))).length = (fr t.data.toList).length + (frs (ts.take j)).length := by rw [List.take_succ_cons, frs_cons, List.length_append]
      have ih := sc_cut ts (fun u hu => h u (List.mem_cons_of_mem _ hu)) (k - (fr t.data.toList).length) j (by rw [frs_cons, List.length_append] at hk; omega) (by simpa using hj) (by omega) (fun hjl => by
        have := h2 (by simpa using hjl)
        rw [List.take_succ_cons, frs_cons, List.length_append] at this
        omega)
      rw [e, sc_step (cE_fr _ _ ht), cT_fr _ _ ht, cR_fr _ _ ht, ih, str_of, hf, List.take_succ_cons, ← fr_len]
      congr 2
      by_cases hq : (frs (ts.take j)).length = k - (fr t.data.toList).length
      · rw [if_pos hq, if_pos (by omega)]
      · rw [if_neg hq, if_neg (by omega)]

end Go.Proofs.YtikbokbmaihdbaaGreatDoor

namespace Go.Proofs.YtikbokbmaihdbaaGreatDoor

def tot (c : Nat) (ss : List ByteArray) : Nat := (ss.map fun s => c + s.size).sum
theorem tot_snoc (c : Nat) (ss : List ByteArray) (i : Nat) (h : i < ss.length) : tot c (ss.take (i + 1)) = tot c (ss.take i) + (c + ss[i].size) := by
  rw [List.take_succ_eq_append_getElem h, tot, List.map_append, List.sum_append]; simp [tot]
theorem tot_le (c : Nat) (ss : List ByteArray) (i : Nat) : tot c (ss.take i) ≤ tot c ss := by
  have e : tot c ss = tot c (ss.take i) + tot c (ss.drop i) := by rw [tot, tot, tot, ← List.sum_append, ← List.map_append, List.take_append_drop]
  omega
theorem tot_mem {c : Nat} : ∀ {ss : List ByteArray} {s : ByteArray}, s ∈ ss → s.size ≤ tot c ss
  | t :: ss, s, h => by
    simp only [tot, List.map_cons, List.sum_cons]
    rcases List.mem_cons.1 h with rfl | h
    · omega
    · have := tot_mem (c := c) h
      rw [tot] at this
      omega
theorem tot_most {c m : Nat} : ∀ {ss : List ByteArray}, (∀ s ∈ ss, s.size ≤ m) → tot c ss ≤ ss.length * (c + m)
  | [], _ => by simp [tot]
  | t :: ss, h => by
    have h1 := h t (by simp)
    have h2 := tot_most (c := c) (fun s hs => h s (List.mem_cons_of_mem _ hs))
    simp only [tot, List.map_cons, List.sum_cons, List.length_cons] at h2 ⊢
    rw [Nat.add_mul]
    omega
theorem frs_tot (c : Nat) (hc : c ≤ 8) : ∀ (ss : List ByteArray), (frs ss).length = tot c ss + (8 - c) * ss.length
  | [] => by simp [frs, tot]
  | t :: ss => by
    have h := frs_tot c hc ss
    rw [frs_cons, List.length_append, fr_len, h, ← size_len]
    simp only [tot, List.map_cons, List.sum_cons, List.length_cons]
    rw [Nat.mul_add]
    omega

end Go.Proofs.YtikbokbmaihdbaaGreatDoor
