/-
  Contracts of the document's answers: Compare, Cut.
-/
import Derived.Test.YtjlnlidbdngbpaaWalkE
import Derived.Deep.QuietTactic
import Derived.BigQuiet
import Derived.WalkSmall
namespace Go.Proofs.Ytjlnlidbdngbpaa
open Go.RowKit

theorem cb_step {A B : List UInt8} {k : Nat} (ha : k < A.length) (hb : k < B.length) :
    Lib.compareBytes (A.drop k) (B.drop k) = if at8 A k < at8 B k then -1 else if at8 B k < at8 A k then 1 else Lib.compareBytes (A.drop (k + 1)) (B.drop (k + 1)) := by
  rw [List.drop_eq_getElem_cons ha, List.drop_eq_getElem_cons hb]
  have e1 : at8 A k = A[k].toNat := by unfold at8; rw [List.getElem?_eq_getElem ha]; rfl
  have e2 : at8 B k = B[k].toNat := by unfold at8; rw [List.getElem?_eq_getElem hb]; rfl
  rw [e1, e2]
  simp only [Lib.compareBytes, UInt8.lt_iff_toNat_lt]

theorem cb_left {A B : List UInt8} {k : Nat} (ha : A.length ≤ k) (hb : k < B.length) : Lib.compareBytes (A.drop k) (B.drop k) = -1 := by
  rw [List.drop_of_length_le ha, List.drop_eq_getElem_cons hb]; rfl
theorem cb_right {A B : List UInt8} {k : Nat} (ha : k < A.length) (hb : B.length ≤ k) : Lib.compareBytes (A.drop k) (B.drop k) = 1 := by
  rw [List.drop_of_length_le hb, List.drop_eq_getElem_cons ha]; rfl
theorem cb_both {A B : List UInt8} {k : Nat} (ha : A.length ≤ k) (hb : B.length ≤ k) : Lib.compareBytes (A.drop k) (B.drop k) = 0 := by
  rw [List.drop_of_length_le ha, List.drop_of_length_le hb]; rfl

set_option maxHeartbeats 2000000 in
theorem RefCompare_any (a b : ByteArray) (w : World) (ha : a.size ≤ 1048576) :
    Calls Try.prog 18 #[.string a, .string b] w fun e w' => e = .returned (.int .i64 (Lib.compareBytes a.data.toList b.data.toList)) ∧ Below w.heap.size w w' := by
  have HA : Hid (a.data.toList.length = a.size) := (Lib.size_eq a).symm
  have HB : Hid (b.data.toList.length = b.size) := (Lib.size_eq b).symm
  go_enter Try.func18, Try.ntmps18
  go_wp2_with fail
  go_loopw [5] (fun i wr => ∃ k : Nat, k ≤ a.size ∧ k ≤ b.size ∧ i = .int .i64 (k : Nat) ∧ Hid (Lib.compareBytes a.data.toList b.data.toList = Lib.compareBytes (a.data.toList.drop k) (b.data.toList.drop k)) ∧ Below w.heap.size w wr) (fun i _ => a.size - (intOf i).toNat)
  case atStart => exact ⟨0, Nat.zero_le _, Nat.zero_le _, rfl, rfl, Below.refl _ _⟩
  case round =>
    obtain ⟨k, hka, hkb, rfl, hcb, hbw⟩ := hrel
    by_cases h1 : k < a.size
    · by_cases h2 : k < b.size
      · have hs := cb_step (A := a.data.toList) (B := b.data.toList) (k := k) (by rw [HA.out]; exact h1) (by rw [HB.out]; exact h2)
        rw [at8_get a k h1, at8_get b k h2] at hs
        by_cases c1 : (a[k]'h1).toNat < (b[k]'h2).toNat
        · have HC : Hid (Lib.compareBytes a.data.toList b.data.toList = -1) := by show _ = _; rw [hcb.out, hs, if_pos c1]
          have d1 : decide ((a[k]'h1).toNat < (b[k]'h2).toNat) = true := by simp; exact c1
          clear hs c1
          go_wp2_with fail
          go_quiet (fail)
          go_wp2_with fail
          go_ret
          exact ⟨ret_int HC.out.symm, by first | exact below_drewN hbw _ | exact below_drewN (below_drewN hbw _) _⟩
        · by_cases c2 : (b[k]'h2).toNat < (a[k]'h1).toNat
          · have HC : Hid (Lib.compareBytes a.data.toList b.data.toList = 1) := by show _ = _; rw [hcb.out, hs, if_neg c1, if_pos c2]
            have d1 : decide ((a[k]'h1).toNat < (b[k]'h2).toNat) = false := by simp; omega
            have d2 : decide ((b[k]'h2).toNat < (a[k]'h1).toNat) = true := by simp; exact c2
            clear hs c1 c2
            go_wp2_with fail
            go_quiet (fail)
            go_wp2_with fail
            go_quiet (fail)
            go_wp2_with fail
            go_ret
            exact ⟨ret_int HC.out.symm, by first | exact below_drewN hbw _ | exact below_drewN (below_drewN hbw _) _⟩
          · have HC : Hid (Lib.compareBytes a.data.toList b.data.toList = Lib.compareBytes (a.data.toList.drop (k + 1)) (b.data.toList.drop (k + 1))) := by show _ = _; rw [hcb.out, hs, if_neg c1, if_neg c2]
            have d1 : decide ((a[k]'h1).toNat < (b[k]'h2).toNat) = false := by simp; omega
            have d2 : decide ((b[k]'h2).toNat < (a[k]'h1).toNat) = false := by simp; omega
            clear hs c1 c2
            go_wp2_with fail
            go_quiet (fail)
            go_wp2_with fail
            go_quiet (fail)
            go_wp2_with fail
            go_roundw
            case rel => exact ⟨k + 1, by omega, by omega, by go_num, HC, by first | exact below_drewN hbw _ | exact below_drewN (below_drewN hbw _) _⟩
            case measure => simp [intOf]; omega
      · have HC : Hid (Lib.compareBytes a.data.toList b.data.toList = 1) := by show _ = _; rw [hcb.out, cb_right (by rw [HA.out]; exact h1) (by rw [HB.out]; omega)]
        have d1 : decide ((a.size : Int) < (b.size : Int)) = false := by simp; omega
        go_wp2_with fail
        go_ret
        exact ⟨ret_int HC.out.symm, hbw⟩
    · by_cases h2 : k < b.size
      · have HC : Hid (Lib.compareBytes a.data.toList b.data.toList = -1) := by show _ = _; rw [hcb.out, cb_left (by rw [HA.out]; omega) (by rw [HB.out]; exact h2)]
        go_wp2_with fail
        go_ret
        exact ⟨ret_int HC.out.symm, hbw⟩
      · have HC : Hid (Lib.compareBytes a.data.toList b.data.toList = 0) := by show _ = _; rw [hcb.out, cb_both (by rw [HA.out]; omega) (by rw [HB.out]; omega)]
        go_wp2_with fail
        go_ret
        exact ⟨ret_int HC.out.symm, hbw⟩

/-- Where the document's Cut stands. -/
theorem refcut_stop {s : ByteArray} {pos : Nat} {xs ys : List Nat} {N : Int} (h : Met s pos xs) (hy : runes s.data.toList = some ys) (h1 : ¬ ((xs.length : Nat) : Int) < N ∨ ¬ pos < s.size) (h2 : xs.length ≤ N.toNat) :
    s.extract 0 pos = str (cut s.data.toList N) := by
  by_cases hp : pos < s.size
  · exact cut_stop h hy h2 (by omega)
  · have e := cut_end h hp hy h2
    have : pos = s.size := by have := h.1; omega
    rw [← e, this, Lib.extract_eq, List.drop_zero, Nat.sub_zero, List.take_of_length_le (by rw [Lib.size_eq]; exact Nat.le_refl _)]

set_option maxHeartbeats 2000000 in
theorem RefCut_any (s : ByteArray) (N : Int) (w : World) (hs : s.size ≤ 1048576) (hn1 : -9223372036854775808 ≤ N) (hn2 : N ≤ 9223372036854775807) :
    Calls Try.prog 20 #[.string s, .int .i64 N] w fun e w' => e = .returned (.string (str (cut s.data.toList N))) ∧ Below w.heap.size w w' := by
  cases hy : runes s.data.toList with
  | none =>
    have HB : Hid (cnt s.data.toList = -1) := cnt_none hy
    have HC : Hid (cut s.data.toList N = []) := cut_none hy
    clear hy
    go_enter Try.func20, Try.ntmps20
    go_wp2_with (go_at_call 11; refine (Count_any s _ hs).mono ?_; rw [HB.out]; rintro e w1 ⟨rfl, hb⟩)
    go_ret
    exact ⟨ret_str (by rw [HC.out]; rfl), hb⟩
  | some ys =>
    have HB : Hid (cnt s.data.toList = ys.length) := cnt_some hy
    have HY : Hid (runes s.data.toList = some ys) := hy
    clear hy
    go_enter Try.func20, Try.ntmps20
    go_wp2_with (go_at_call 11; refine (Count_any s _ hs).mono ?_; rw [HB.out]; rintro e w1 ⟨rfl, hb⟩)
    go_loop [5, 6] (fun t i => ∃ (pos : Nat) (xs : List Nat), Hid (Met s pos xs) ∧ pos ≤ s.size ∧ xs.length ≤ pos ∧ xs.length ≤ N.toNat ∧ t = .int .i64 (pos : Nat) ∧ i = .int .i64 (xs.length : Nat)) (fun t _ => s.size - (intOf t).toNat)
    case atStart => exact ⟨0, [], Met.start s, Nat.zero_le _, Nat.le_refl _, Nat.zero_le _, rfl, rfl⟩
    case round =>
      obtain ⟨pos, xs, hmet, hle, hxl, hxn, rfl, rfl⟩ := hrel
      by_cases c1 : ((xs.length : Nat) : Int) < N
      · by_cases c2 : pos < s.size
        · have h0 := (hmet.out.next c2 HY.out).1
          have HM := Lib.hid (hmet.out.good c2 h0)
          have hrl := rd_le (s.data.toList.drop pos)
          rw [List.length_drop, ← Lib.size_eq] at hrl
          obtain ⟨x, n, hxn2⟩ : ∃ x n, rd (s.data.toList.drop pos) = (x, n) := ⟨_, _, rfl⟩
          have HM2 : Hid (Met s (pos + n) (xs ++ [x])) := by have := HM.out; rw [hxn2] at this; exact this
          have hn1 : 1 ≤ n := by rw [hxn2] at h0; exact Nat.one_le_iff_ne_zero.2 h0
          have hn2 : pos + n ≤ s.size := by rw [hxn2] at hrl; have : n ≤ s.size - pos := hrl; omega
          have HR : Hid (rd (s.extract pos s.size).data.toList = (x, n)) := by
            show _ = _
            rw [Lib.extract_data, List.take_of_length_le (by rw [List.length_drop, Lib.size_eq]; exact Nat.le_refl _)]; exact hxn2
          have hrm : (s.extract pos s.size).size ≤ maxLen := by rw [ByteArray.size_extract]; unfold maxLen; omega
          clear HM h0 hrl hxn2 hmet
          go_wp2_with (go_at_call 26; refine (Read_at _ _ hrm x n HR).mono ?_; rintro e w' ⟨rfl, rfl⟩)
          go_round
          case rel => exact ⟨pos + n, xs ++ [x], HM2, hn2, by simp; omega, by simp; omega, by go_num, by simp⟩
          case measure => simp [intOf]; omega
        · have HE : Hid (s.extract 0 pos = str (cut s.data.toList N)) := refcut_stop hmet.out HY.out (Or.inr c2) hxn
          clear hmet
          go_wp2_with fail
          go_ret
          exact ⟨ret_str HE.out, hb⟩
      · have HE : Hid (s.extract 0 pos = str (cut s.data.toList N)) := refcut_stop hmet.out HY.out (Or.inl c1) hxn
        clear hmet
        go_wp2_with fail
        go_ret
        exact ⟨ret_str HE.out, hb⟩

end Go.Proofs.Ytjlnlidbdngbpaa
