/-
  The walk of the law TextCuts.
-/
import Derived.Test.YtjlnlidbdngbpaaAlive
import Derived.Test.YtjlnlidbdngbpaaConv
namespace Go.Proofs.Ytjlnlidbdngbpaa.textCuts
open Go.RowKit

set_option maxHeartbeats 1000000 in
set_option maxRecDepth 100000 in
theorem walk_zero (s : ByteArray) (n m : Int) (hs : s.size ≤ 4096) (hn : -32768 ≤ n ∧ n ≤ 32767) (hm : -32768 ≤ m ∧ m ≤ 32767) (ys : List Nat) (hy : runes s.data.toList = some ys) (hz : ys.length = 0) (w : World) :
    Calls Try.prog 8 #[.string s, .int .i16 n, .int .i16 m] w fun e w' => e = .returned (.bool true) ∧ Below w.heap.size w w' := by
  have HB : Below w.heap.size w w := Below.refl _ _
  have HY := Lib.hid hy
  have HL : Hid (decide (0 ≤ cnt s.data.toList) = true) := by show _ = _; rw [cnt_eq hy]; simp
  obtain ⟨A, hA⟩ : ∃ A, A = str (cut s.data.toList n) := ⟨_, rfl⟩
  have HA : Hid (str (cut s.data.toList n) = A) := hA.symm
  have hsm : s.size ≤ maxLen := by unfold maxLen; omega
  have hs2 : s.size ≤ 281474976710656 := by omega
  have hAd : A.data.toList = cut s.data.toList n := by rw [hA]; rfl
  have hAs : A.size ≤ 4096 := by rw [Lib.size_eq, hAd]; exact Nat.le_trans (cut_len hy n) (by rw [← Lib.size_eq]; exact hs)
  have hAm : A.size ≤ maxLen := by unfold maxLen; omega
  have hA2 : A.size ≤ 281474976710656 := by omega
  obtain ⟨C, hC⟩ : ∃ C, C = str (cut A.data.toList m) := ⟨_, rfl⟩
  have HC : Hid (str (cut A.data.toList m) = C) := hC.symm
  have HC2 : Hid (str (cut s.data.toList (min n m)) = C) := by show _ = _; rw [hC, hAd, cut_cut hy]
  have hk : ys.length ≤ 4096 := by have := length_le_encs ys; rw [← (runes_sound hy).2, ← Lib.size_eq] at this; omega
  have HS : Hid (str (cut s.data.toList (ys.length : Nat)) = s) := by show _ = _; rw [cut_all hy]; exact str_of s
  have HR : Hid (cnt A.data.toList = max 0 (min n (ys.length : Int))) := by show _ = _; rw [hAd, cnt_cut hy]; omega
  obtain ⟨c, hc, hc0⟩ : ∃ c, Lib.compareBytes A.data.toList s.data.toList = c ∧ c ≤ 0 := ⟨_, rfl, by rw [hAd, cb_cut hy]; split <;> omega⟩
  have HCC : Hid (Lib.compareBytes A.data.toList s.data.toList = c) := hc
  obtain ⟨D, hD⟩ : ∃ D, D = str (cut s.data.toList ((ys.length : Int) - 1)) := ⟨_, rfl⟩
  have d0 : ((ys.length : Int) == 0) = true := by simp; exact List.length_eq_zero_iff.1 hz
  clear hy hA hAd hC hc hD hz
  go_enter Try.func8, Try.ntmps8
  go_wp2_with fail
  refine (Valid_at s _ hsm _ HL).mono ?_
  rintro e w' ⟨rfl, hb⟩
  replace HB := HB.trans (hb.mono HB.size)
  clear hb
  go_wp2_with fail
  refine (Cut_at s n _ hs2 (by omega) (by omega) A HA).mono ?_
  rintro e w' ⟨rfl, hb⟩
  replace HB := HB.trans (hb.mono HB.size)
  clear hb
  go_wp2_with fail
  refine (Runes_at s _ hsm (ys.length : Nat) (cnt_eq HY.out)).mono ?_
  rintro e w' ⟨rfl, hb⟩
  replace HB := HB.trans (hb.mono HB.size)
  clear hb
  go_wp2_with fail
  refine (Cut_at A m _ hA2 (by omega) (by omega) C HC).mono ?_
  rintro e w' ⟨rfl, hb⟩
  replace HB := HB.trans (hb.mono HB.size)
  clear hb
  go_wp2_with fail
  refine (Cut_at s (min n m) _ hs2 (by omega) (by omega) C HC2).mono ?_
  rintro e w' ⟨rfl, hb⟩
  replace HB := HB.trans (hb.mono HB.size)
  clear hb
  go_wp2_with fail
  refine (Cut_at s (ys.length : Nat) _ hs2 (by omega) (by omega) s HS).mono ?_
  rintro e w' ⟨rfl, hb⟩
  replace HB := HB.trans (hb.mono HB.size)
  clear hb
  go_wp2_with fail
  refine (Runes_at A _ hAm _ HR).mono ?_
  rintro e w' ⟨rfl, hb⟩
  replace HB := HB.trans (hb.mono HB.size)
  clear hb
  go_wp2_with fail
  refine (Compare_at A s _ _ HCC).mono ?_
  rintro e w' ⟨rfl, rfl⟩
  go_wp2_with fail
  refine (alive_any _).mono ?_
  rintro e w' ⟨rfl, hb⟩
  replace HB := HB.trans (hb.mono HB.size)
  clear hb
  go_wp2_with fail
  go_ret
  exact ⟨rfl, HB⟩

set_option maxHeartbeats 1000000 in
set_option maxRecDepth 100000 in
theorem walk_more (s : ByteArray) (n m : Int) (hs : s.size ≤ 4096) (hn : -32768 ≤ n ∧ n ≤ 32767) (hm : -32768 ≤ m ∧ m ≤ 32767) (ys : List Nat) (hy : runes s.data.toList = some ys) (hz : 1 ≤ ys.length) (w : World) :
    Calls Try.prog 8 #[.string s, .int .i16 n, .int .i16 m] w fun e w' => e = .returned (.bool true) ∧ Below w.heap.size w w' := by
  have HB : Below w.heap.size w w := Below.refl _ _
  have HY := Lib.hid hy
  have HL : Hid (decide (0 ≤ cnt s.data.toList) = true) := by show _ = _; rw [cnt_eq hy]; simp
  obtain ⟨A, hA⟩ : ∃ A, A = str (cut s.data.toList n) := ⟨_, rfl⟩
  have HA : Hid (str (cut s.data.toList n) = A) := hA.symm
  have hsm : s.size ≤ maxLen := by unfold maxLen; omega
  have hs2 : s.size ≤ 281474976710656 := by omega
  have hAd : A.data.toList = cut s.data.toList n := by rw [hA]; rfl
  have hAs : A.size ≤ 4096 := by rw [Lib.size_eq, hAd]; exact Nat.le_trans (cut_len hy n) (by rw [← Lib.size_eq]; exact hs)
  have hAm : A.size ≤ maxLen := by unfold maxLen; omega
  have hA2 : A.size ≤ 281474976710656 := by omega
  obtain ⟨C, hC⟩ : ∃ C, C = str (cut A.data.toList m) := ⟨_, rfl⟩
  have HC : Hid (str (cut A.data.toList m) = C) := hC.symm
  have HC2 : Hid (str (cut s.data.toList (min n m)) = C) := by show _ = _; rw [hC, hAd, cut_cut hy]
  have hk : ys.length ≤ 4096 := by have := length_le_encs ys; rw [← (runes_sound hy).2, ← Lib.size_eq] at this; omega
  have HS : Hid (str (cut s.data.toList (ys.length : Nat)) = s) := by show _ = _; rw [cut_all hy]; exact str_of s
  have HR : Hid (cnt A.data.toList = max 0 (min n (ys.length : Int))) := by show _ = _; rw [hAd, cnt_cut hy]; omega
  obtain ⟨c, hc, hc0⟩ : ∃ c, Lib.compareBytes A.data.toList s.data.toList = c ∧ c ≤ 0 := ⟨_, rfl, by rw [hAd, cb_cut hy]; split <;> omega⟩
  have HCC : Hid (Lib.compareBytes A.data.toList s.data.toList = c) := hc
  obtain ⟨D, hD⟩ : ∃ D, D = str (cut s.data.toList ((ys.length : Int) - 1)) := ⟨_, rfl⟩
  have HD : Hid (str (cut s.data.toList ((ys.length : Int) - 1)) = D) := hD.symm
  have HDD : Hid (Lib.compareBytes D.data.toList s.data.toList = -1) := by
    have e : D.data.toList = cut s.data.toList ((ys.length : Int) - 1) := by rw [hD]; rfl
    show _ = _
    rw [e, cb_cut hy, if_neg (by omega)]
  have d0 : ((ys.length : Int) == 0) = false := by simp; intro e; rw [e] at hz; simp at hz
  clear hy hA hAd hC hc hD
  go_enter Try.func8, Try.ntmps8
  go_wp2_with fail
  refine (Valid_at s _ hsm _ HL).mono ?_
  rintro e w' ⟨rfl, hb⟩
  replace HB := HB.trans (hb.mono HB.size)
  clear hb
  go_wp2_with fail
  refine (Cut_at s n _ hs2 (by omega) (by omega) A HA).mono ?_
  rintro e w' ⟨rfl, hb⟩
  replace HB := HB.trans (hb.mono HB.size)
  clear hb
  go_wp2_with fail
  refine (Runes_at s _ hsm (ys.length : Nat) (cnt_eq HY.out)).mono ?_
  rintro e w' ⟨rfl, hb⟩
  replace HB := HB.trans (hb.mono HB.size)
  clear hb
  go_wp2_with fail
  refine (Cut_at A m _ hA2 (by omega) (by omega) C HC).mono ?_
  rintro e w' ⟨rfl, hb⟩
  replace HB := HB.trans (hb.mono HB.size)
  clear hb
  go_wp2_with fail
  refine (Cut_at s (min n m) _ hs2 (by omega) (by omega) C HC2).mono ?_
  rintro e w' ⟨rfl, hb⟩
  replace HB := HB.trans (hb.mono HB.size)
  clear hb
  go_wp2_with fail
  refine (Cut_at s (ys.length : Nat) _ hs2 (by omega) (by omega) s HS).mono ?_
  rintro e w' ⟨rfl, hb⟩
  replace HB := HB.trans (hb.mono HB.size)
  clear hb
  go_wp2_with fail
  refine (Runes_at A _ hAm _ HR).mono ?_
  rintro e w' ⟨rfl, hb⟩
  replace HB := HB.trans (hb.mono HB.size)
  clear hb
  go_wp2_with fail
  refine (Cut_at s ((ys.length : Int) - 1) _ hs2 (by omega) (by omega) D HD).mono ?_
  rintro e w' ⟨rfl, hb⟩
  replace HB := HB.trans (hb.mono HB.size)
  clear hb
  go_wp2_with fail
  refine (Compare_at D s _ _ HDD).mono ?_
  rintro e w' ⟨rfl, rfl⟩
  go_wp2_with fail
  refine (Compare_at A s _ _ HCC).mono ?_
  rintro e w' ⟨rfl, rfl⟩
  go_wp2_with fail
  refine (alive_any _).mono ?_
  rintro e w' ⟨rfl, hb⟩
  replace HB := HB.trans (hb.mono HB.size)
  clear hb
  go_wp2_with fail
  go_ret
  exact ⟨rfl, HB⟩

set_option maxHeartbeats 1000000 in
set_option maxRecDepth 100000 in
theorem walk (s : ByteArray) (n m : Int) (hs : s.size ≤ maxLen) (hn : (Lit.int .i16 n).wf = true) (hm : (Lit.int .i16 m).wf = true) (w : World) :
    Calls Try.prog 8 #[.string s, .int .i16 n, .int .i16 m] w fun e w' => e = .returned (.bool true) ∧ Below w.heap.size w w' := by
  have hnb := bounds_i16 hn
  have hmb := bounds_i16 hm
  clear hn hm
  have hs1 := hs
  unfold maxLen at hs1
  have HB : Below w.heap.size w w := Below.refl _ _
  by_cases h1 : 4096 < s.size
  · go_enter Try.func8, Try.ntmps8
    go_wp2_with (go_at_call 10; refine (alive_any _).mono ?_; rintro e w' ⟨rfl, hb⟩; replace HB := HB.trans (hb.mono HB.size); clear hb)
    go_ret
    exact ⟨rfl, HB⟩
  cases hy : runes s.data.toList with
  | none =>
    have HL : Hid (decide (0 ≤ cnt s.data.toList) = false) := by show _ = _; unfold cnt; rw [hy]; rfl
    clear hy
    go_enter Try.func8, Try.ntmps8
    go_wp2_with (first
      | (go_at_call 10; refine (alive_any _).mono ?_; rintro e w' ⟨rfl, hb⟩; replace HB := HB.trans (hb.mono HB.size); clear hb)
      | (go_at_call 13; refine (Valid_at s _ hs _ HL).mono ?_; rintro e w' ⟨rfl, hb⟩; replace HB := HB.trans (hb.mono HB.size); clear hb))
    go_ret
    exact ⟨rfl, HB⟩
  | some ys =>
    by_cases hz : ys.length = 0
    · exact walk_zero s n m (by omega) hnb hmb ys hy hz w
    · exact walk_more s n m (by omega) hnb hmb ys hy (by omega) w

end Go.Proofs.Ytjlnlidbdngbpaa.textCuts
