/-
  LogKeeps, plain mathematics: what a disk holds of what was appended, round by round.
-/
import Derived.Test.YtikbokbmaihdbaaDoorLWorks
import Derived.Test.YtikbokbmaihdbaaDoorFWhole
namespace Go.Proofs.YtikbokbmaihdbaaDoor.logKeeps

/-- Behind a crash: a beginning of the records' frames, with all that were sure. -/
def Rest (σ : Dsk) (P : List ByteArray) (s : Nat) : Prop :=
  σ.room = 65536 ∧ s ≤ P.length ∧ ((σ.fs = [] ∧ P = []) ∨ ∃ m, σ.fs = [(rA, ⟨str ((frs P).take m), 0, false⟩)] ∧ m ≤ (frs P).length ∧ endAt P s ≤ m)
/-- At any time: the same, and what is loose is not sure. -/
def Any (σ : Dsk) (P : List ByteArray) (s : Nat) : Prop :=
  σ.room = 65536 ∧ s ≤ P.length ∧ ((σ.fs = [] ∧ P = []) ∨ ∃ m lo fr, σ.fs = [(rA, ⟨str ((frs P).take m), lo, fr⟩)] ∧ m ≤ (frs P).length ∧ lo ≤ m ∧ endAt P s ≤ m - lo ∧ (fr = true → P = []))
/-- While a log is open. -/
def Live (σ : Dsk) (P : List ByteArray) (s : Nat) : Prop :=
  σ.room = 65536 ∧ s ≤ P.length ∧ ∃ lo, σ.fs = [(rA, ⟨str (frs P), lo, false⟩)] ∧ lo ≤ (frs P).length ∧ endAt P s ≤ (frs P).length - lo

theorem Rest.any {σ : Dsk} {P : List ByteArray} {s : Nat} (h : Rest σ P s) : Any σ P s := by
  obtain ⟨h1, h2, h3⟩ := h
  refine ⟨h1, h2, ?_⟩
  rcases h3 with h3 | ⟨m, e, hm, hs⟩
  · exact Or.inl h3
  · exact Or.inr ⟨m, 0, false, e, hm, Nat.zero_le _, hs, fun h => by cases h⟩
theorem Live.any {σ : Dsk} {P : List ByteArray} {s : Nat} (h : Live σ P s) : Any σ P s := by
  obtain ⟨h1, h2, lo, e, hl, hs⟩ := h
  refine ⟨h1, h2, Or.inr ⟨(frs P).length, lo, false, ?_, Nat.le_refl _, hl, hs, fun h => by cases h⟩⟩
  rw [List.take_of_length_le (Nat.le_refl _)]
  exact e
theorem Rest.start : Rest ⟨65536, none, []⟩ [] 0 := ⟨rfl, Nat.le_refl _, Or.inl ⟨rfl, rfl⟩⟩
theorem Rest.fused {σ : Dsk} {P : List ByteArray} {s : Nat} (h : Rest σ P s) (z : Option Nat) : Rest ⟨σ.room, z, σ.fs⟩ P s := h
theorem str_extract (l : List UInt8) (k : Nat) : (str l).extract 0 k = str (l.take k) := by
  apply ByteArray.ext
  apply Array.toList_inj.1
  simp [str]
theorem Any.crash {σ : Dsk} {P : List ByteArray} {s : Nat} (h : Any σ P s) (ks : List Int) : Rest (crash σ ks).1 P s := by
  obtain ⟨h1, h2, h3⟩ := h
  refine ⟨h1, h2, ?_⟩
  unfold Proofs.YtikbokbmaihdbaaDoor.crash
  dsimp only
  rcases h3 with ⟨e, hP⟩ | ⟨m, lo, fr, e, hm, hlo, hs, hf⟩
  · rw [e]
    exact Or.inl ⟨rfl, hP⟩
  · rw [e]
    have hsz : (str ((frs P).take m)).size = m := by rw [str_size, List.length_take]; omega
    unfold crs
    split
    · rename_i hc
      obtain ⟨rfl, rfl⟩ : lo = 0 ∧ fr = false := hc
      exact Or.inr ⟨m, rfl, hm, hs⟩
    · split
      · rename_i hc
        exact Or.inl ⟨rfl, hf hc.1⟩
      · refine Or.inr ⟨m - lo + min (ks.headD (-1)).toNat lo, ?_, by omega, by omega⟩
        unfold kept
        dsimp only
        rw [hsz, str_extract, List.take_take]
        have : min (m - lo + min (ks.headD (-1)).toNat lo) m = m - lo + min (ks.headD (-1)).toNat lo := by omega
        rw [this]
        rfl
theorem endAt_mono (P : List ByteArray) {i j : Nat} (h : i ≤ j) : endAt P i ≤ endAt P j := endAt_le P i j h
theorem lopen_bad1 {σ σ1 : Dsk} {n : ByteArray} {e : Nat} (h1 : made σ n = (σ1, e)) (he : e ≠ 0) : lopen σ n = (σ1, e, []) := by
  simp only [lopen, h1, ne_eq, he, not_false_eq_true, if_true]
theorem lopen_bad2 {σ σ1 σ2 : Dsk} {n : ByteArray} {e : Nat} (h1 : made σ n = (σ1, 0)) (h2 : fit σ1 n (get σ.fs n).isNone = (σ2, e)) (he : e ≠ 0) : lopen σ n = (σ2, e, []) := by
  simp only [lopen, h1, h2, ne_eq, he, not_true_eq_false, not_false_eq_true, if_false, if_true]
theorem frs_take (P : List ByteArray) (j : Nat) : (frs P).take (endAt P j) = frs (P.take j) := by
  unfold endAt
  conv => lhs; rw [← List.take_append_drop j P]
  rw [frs_append, List.take_left']
  rw [List.take_append_drop]
theorem endAt_self (P : List ByteArray) (j : Nat) : endAt (P.take j) j = endAt P j := by
  unfold endAt
  rw [List.take_take, Nat.min_self]
theorem endAt_more (P R : List ByteArray) {s : Nat} (hs : s ≤ P.length) : endAt (P ++ R) s = endAt P s := by
  unfold endAt
  rw [List.take_append_of_le_length hs]
theorem endAt_all (P : List ByteArray) : endAt P P.length = (frs P).length := by
  unfold endAt
  rw [List.take_of_length_le (Nat.le_refl _)]
theorem str_nil : str [] = (⟨#[]⟩ : ByteArray) := rfl
/-- What Open makes of it. -/
theorem Rest.opens {σ : Dsk} {P : List ByteArray} {s : Nat} (h : Rest σ P s) (hP : ∀ t ∈ P, t.size ≤ 1048576) :
    ((lopen σ rA).2.1 = 70 ∧ Any (lopen σ rA).1 P s) ∨ ∃ j, s ≤ j ∧ j ≤ P.length ∧ (lopen σ rA).2.1 = 0 ∧ (lopen σ rA).2.2 = P.take j ∧ Live (lopen σ rA).1 (P.take j) j := by
  have hany := h.any
  obtain ⟨h1, h2, h3⟩ := h
  rcases h3 with ⟨e, hPn⟩ | ⟨m, e, hm, hs⟩
  · subst hPn
    have hg : get σ.fs rA = none := by rw [e]; rfl
    by_cases hz : σ.fuse = some 0
    · have hmk : made σ rA = (σ, 70) := by
        unfold made create
        rw [hg, if_neg (by simp), if_neg (by decide), if_pos hz]
      rw [lopen_bad1 hmk (by decide)]
      exact Or.inl ⟨rfl, hany⟩
    · have hmk : made σ rA = (⟨σ.room, burn σ, [(rA, ⟨⟨#[]⟩, 0, true⟩)]⟩, 0) := by
        unfold made create
        rw [hg, if_neg (by simp), if_neg (by decide), if_neg hz, if_neg (by simp), e]
        rfl
      have hnil : str ((frs ([] : List ByteArray)).take 0) = (⟨#[]⟩ : ByteArray) := rfl
      by_cases hz2 : burn σ = some 0
      · have hft : fit ⟨σ.room, burn σ, [(rA, ⟨⟨#[]⟩, 0, true⟩)]⟩ rA (get σ.fs rA).isNone = (⟨σ.room, burn σ, [(rA, ⟨⟨#[]⟩, 0, true⟩)]⟩, 70) := by
          have hgn : get ([(rA, ⟨⟨#[]⟩, 0, true⟩)] : List (ByteArray × Fil)) rA = some ⟨⟨#[]⟩, 0, true⟩ := rfl
          have hno : (get σ.fs rA).isNone = true := by rw [hg]; rfl
          unfold fit
          dsimp only
          rw [hgn]
          dsimp only
          rw [if_neg (show ¬ _ < (⟨#[]⟩ : ByteArray).size from Nat.not_lt_zero _), if_pos (Or.inl hno)]
          unfold Proofs.YtikbokbmaihdbaaDoor.sync
          dsimp only
          rw [if_pos hz2]
        rw [lopen_bad2 hmk hft (by decide)]
        refine Or.inl ⟨rfl, h1, h2, Or.inr ⟨0, 0, true, by rw [hnil], Nat.zero_le _, Nat.le_refl _, ?_, fun _ => rfl⟩⟩
        simp [endAt, frs]
      · have hft : fit ⟨σ.room, burn σ, [(rA, ⟨⟨#[]⟩, 0, true⟩)]⟩ rA (get σ.fs rA).isNone = (⟨σ.room, (burn σ).map (· - 1), [(rA, ⟨⟨#[]⟩, 0, false⟩)]⟩, 0) := by
          have hgn : get ([(rA, ⟨⟨#[]⟩, 0, true⟩)] : List (ByteArray × Fil)) rA = some ⟨⟨#[]⟩, 0, true⟩ := rfl
          have hno : (get σ.fs rA).isNone = true := by rw [hg]; rfl
          unfold fit
          dsimp only
          rw [hgn]
          dsimp only
          rw [if_neg (show ¬ _ < (⟨#[]⟩ : ByteArray).size from Nat.not_lt_zero _), if_pos (Or.inl hno)]
          unfold Proofs.YtikbokbmaihdbaaDoor.sync
          dsimp only
          rw [if_neg hz2]
          rfl
        rw [lopen_eq hmk hft]
        refine Or.inr ⟨0, h2, Nat.le_refl _, rfl, rfl, h1, Nat.le_refl _, 0, rfl, Nat.zero_le _, ?_⟩
        simp [endAt, frs]
  · have hg : get σ.fs rA = some ⟨str ((frs P).take m), 0, false⟩ := by rw [e]; rfl
    have hsz : (str ((frs P).take m)).size = m := by rw [str_size, List.length_take]; omega
    have hmk : made σ rA = (σ, 0) := by unfold made; rw [hg]; rfl
    obtain ⟨j, hj, hj1, hj2⟩ := whole P m
    have hsc : scanOf ⟨str ((frs P).take m), 0, false⟩ = (P.take j, endAt P j, if endAt P j = m then 0 else 20) := by
      unfold scanOf
      exact sc_cut P hP m j hm hj hj1 hj2
    have hsj : s ≤ j := by
      rcases Nat.lt_or_ge j s with h4 | h4
      · have h5 := hj2 (by omega)
        have h6 := endAt_mono P (show j + 1 ≤ s by omega)
        omega
      · exact h4
    have hrec : recsOf σ rA = P.take j := by unfold recsOf; rw [hg]; dsimp only; rw [hsc]
    have hlive : ∀ z, Live ⟨σ.room, z, [(rA, ⟨str (frs (P.take j)), 0, false⟩)]⟩ (P.take j) j := fun z =>
      ⟨h1, by rw [List.length_take]; omega, 0, rfl, Nat.zero_le _, by rw [endAt_self]; exact Nat.le_refl _⟩
    by_cases hlt : endAt P j < m
    · by_cases hz : σ.fuse = some 0
      · have hft : fit σ rA (get σ.fs rA).isNone = (σ, 70) := by
          unfold fit
          rw [hg]
          dsimp only
          rw [hsc, hsz, if_pos hlt]
          unfold cut
          rw [if_pos hz]
        rw [lopen_bad2 hmk hft (by decide)]
        exact Or.inl ⟨rfl, hany⟩
      · have hft : fit σ rA (get σ.fs rA).isNone = (⟨σ.room, burn σ, [(rA, ⟨str (frs (P.take j)), 0, false⟩)]⟩, 0) := by
          unfold fit
          rw [hg]
          dsimp only
          rw [hsc, hsz, if_pos hlt]
          unfold cut
          rw [if_neg hz, hg]
          dsimp only
          rw [hsz, if_neg (by omega), Int.toNat_natCast, str_extract, List.take_take, Nat.min_eq_left (by omega), frs_take, e]
          rfl
        rw [lopen_eq hmk hft, hrec]
        exact Or.inr ⟨j, hsj, hj, rfl, rfl, hlive _⟩
    · have hmj : m = endAt P j := by omega
      have hft : fit σ rA (get σ.fs rA).isNone = (σ, 0) := by
        unfold fit
        rw [hg]
        dsimp only
        rw [hsc, hsz, if_neg hlt, if_neg (by simp)]
      rw [lopen_eq hmk hft, hrec]
      refine Or.inr ⟨j, hsj, hj, rfl, rfl, ?_⟩
      have hl := hlive σ.fuse
      have e2 : (⟨σ.room, σ.fuse, [(rA, ⟨str (frs (P.take j)), 0, false⟩)]⟩ : Dsk) = σ := by
        rw [← frs_take, ← hmj, ← e]
      rw [e2] at hl
      exact hl
theorem Live.used {σ : Dsk} {Q : List ByteArray} {s : Nat} (h : Live σ Q s) : used σ.fs = (frs Q).length := by
  obtain ⟨_, _, lo, e, _⟩ := h
  rw [e]
  simp [Proofs.YtikbokbmaihdbaaDoor.used, str_size]
/-- What Append makes of it. -/
theorem Live.append {σ : Dsk} {Q : List ByteArray} {s : Nat} (h : Live σ Q s) (br : Bool) (x : ByteArray) (hx : x.size ≤ 1048576) (hr : (frs Q).length + (8 + x.size) ≤ 65536) :
    ((lappend σ rA ⟨Q, s, br⟩ [x]).2.2 = 0 ∧ (lappend σ rA ⟨Q, s, br⟩ [x]).2.1 = ⟨Q ++ [x], s, false⟩ ∧ Live (lappend σ rA ⟨Q, s, br⟩ [x]).1 (Q ++ [x]) s) ∨
    ((lappend σ rA ⟨Q, s, br⟩ [x]).2.2 ≠ 0 ∧ ∃ b, (lappend σ rA ⟨Q, s, br⟩ [x]).2.1 = ⟨Q, s, b⟩ ∧ Live (lappend σ rA ⟨Q, s, br⟩ [x]).1 Q s) := by
  have hl : (frs [x]).length = 8 + x.size := by simp [frs, fr_len]
  have hu := h.used
  have h0 := h
  obtain ⟨h1, h2, lo, e, h3, h4⟩ := h
  have hg : get σ.fs rA = some ⟨str (frs Q), lo, false⟩ := by rw [e]; rfl
  cases br with
  | true =>
    have hq : lappend σ rA ⟨Q, s, true⟩ [x] = (σ, ⟨Q, s, true⟩, 3) := by unfold lappend; rw [if_pos rfl]
    rw [hq]
    exact Or.inr ⟨show (3 : Nat) ≠ 0 by decide, true, rfl, h0⟩
  | false =>
    have hany : ([x].any fun r => decide (1048576 < r.size)) = false := short_any (by intro r hr; simp at hr; subst hr; exact hx)
    by_cases hz : σ.fuse = some 0
    · have ha : Proofs.YtikbokbmaihdbaaDoor.append σ rA (str (frs [x])) = (σ, 70) := by unfold Proofs.YtikbokbmaihdbaaDoor.append; rw [if_pos hz]
      have hq : lappend σ rA ⟨Q, s, false⟩ [x] = (σ, ⟨Q, s, true⟩, 70) := by
        unfold lappend
        rw [if_neg (by simp), if_neg (by rw [hany]; simp), if_neg (by simp), ha]
        rfl
      rw [hq]
      exact Or.inr ⟨show (70 : Nat) ≠ 0 by decide, true, rfl, h0⟩
    · have ha : Proofs.YtikbokbmaihdbaaDoor.append σ rA (str (frs [x])) = (⟨σ.room, burn σ, [(rA, ⟨str (frs (Q ++ [x])), lo + (8 + x.size), false⟩)]⟩, 0) := by
        unfold Proofs.YtikbokbmaihdbaaDoor.append
        rw [if_neg hz, hg]
        dsimp only
        rw [str_size, hl, hu, h1, if_neg (by omega), str_append, ← frs_append, e]
        rfl
      have hq : lappend σ rA ⟨Q, s, false⟩ [x] = (⟨σ.room, burn σ, [(rA, ⟨str (frs (Q ++ [x])), lo + (8 + x.size), false⟩)]⟩, ⟨Q ++ [x], s, false⟩, 0) := by
        unfold lappend
        rw [if_neg (by simp), if_neg (by rw [hany]; simp), if_neg (by simp), ha]
        rfl
      rw [hq]
      have hlen : (frs (Q ++ [x])).length = (frs Q).length + (8 + x.size) := by rw [frs_append, List.length_append, hl]
      refine Or.inl ⟨rfl, rfl, h1, by simp; omega, lo + (8 + x.size), rfl, by omega, ?_⟩
      rw [endAt_more Q [x] h2]
      omega
/-- What Sync makes of it. -/
theorem Live.sync {σ : Dsk} {Q : List ByteArray} {s : Nat} (h : Live σ Q s) (br : Bool) :
    ((lsync σ rA ⟨Q, s, br⟩).2.2 = 0 ∧ (lsync σ rA ⟨Q, s, br⟩).2.1 = ⟨Q, Q.length, false⟩ ∧ Live (lsync σ rA ⟨Q, s, br⟩).1 Q Q.length) ∨
    ((lsync σ rA ⟨Q, s, br⟩).2.2 ≠ 0 ∧ ∃ b, (lsync σ rA ⟨Q, s, br⟩).2.1 = ⟨Q, s, b⟩ ∧ Live (lsync σ rA ⟨Q, s, br⟩).1 Q s) := by
  have h0 := h
  obtain ⟨h1, h2, lo, e, h3, h4⟩ := h
  have hg : get σ.fs rA = some ⟨str (frs Q), lo, false⟩ := by rw [e]; rfl
  cases br with
  | true =>
    have hq : lsync σ rA ⟨Q, s, true⟩ = (σ, ⟨Q, s, true⟩, 3) := by unfold lsync; rw [if_pos rfl]
    rw [hq]
    exact Or.inr ⟨show (3 : Nat) ≠ 0 by decide, true, rfl, h0⟩
  | false =>
    by_cases hz : σ.fuse = some 0
    · have ha : Proofs.YtikbokbmaihdbaaDoor.sync σ rA = (σ, 70) := by unfold Proofs.YtikbokbmaihdbaaDoor.sync; rw [if_pos hz]
      have hq : lsync σ rA ⟨Q, s, false⟩ = (σ, ⟨Q, s, true⟩, 70) := by
        unfold lsync
        rw [if_neg (by simp), ha]
        rfl
      rw [hq]
      exact Or.inr ⟨show (70 : Nat) ≠ 0 by decide, true, rfl, h0⟩
    · have ha : Proofs.YtikbokbmaihdbaaDoor.sync σ rA = (⟨σ.room, burn σ, [(rA, ⟨str (frs Q), 0, false⟩)]⟩, 0) := by
        unfold Proofs.YtikbokbmaihdbaaDoor.sync
        rw [if_neg hz, hg]
        dsimp only
        rw [e]
        rfl
      have hq : lsync σ rA ⟨Q, s, false⟩ = (⟨σ.room, burn σ, [(rA, ⟨str (frs Q), 0, false⟩)]⟩, ⟨Q, Q.length, false⟩, 0) := by
        unfold lsync
        rw [if_neg (by simp), ha]
        rfl
      rw [hq]
      exact Or.inl ⟨rfl, rfl, h1, Nat.le_refl _, 0, rfl, Nat.zero_le _, by rw [endAt_all]; exact Nat.le_refl _⟩

end Go.Proofs.YtikbokbmaihdbaaDoor.logKeeps
