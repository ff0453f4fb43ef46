/-
  Layer 5: the document's own Up, Nums, Texts, Bool.
-/
import Derived.Test.YteomgaaemlchfaaWTexts
import Derived.BigQuiet
import Derived.Laws.AppendOwnNone
import Derived.Test.YteomgaaemlchfaaSQTail
namespace Go.Proofs.Yteomgaaemlchfaa
open Go.RowKit Go.Sort

set_option maxRecDepth 100000 in
set_option maxHeartbeats 1000000 in
theorem rUp_any (N : Nat) (w : World) (h : N ≤ 18446744073709551615) (X : ByteArray) (hX : Hid (str (ub N) = X)) :
    Calls Try.prog 26 #[.int .u64 N] w fun e w' => e = .returned (.string X) ∧ Below w.heap.size w w' := by
  rw [← hX.out]
  clear hX
  obtain ⟨i0, hi, hz0, hz1, hz2⟩ := info_parts info8
  go_enter Try.func26, Try.ntmps26
  go_wp2_with fail
  go_loopw [0, 3] (fun n v wr => ∃ (m : Nat) (L : List UInt8), Below w.heap.size w wr ∧ n = .int .u64 m ∧ Hid (Upp N L m) ∧ L.length ≤ 9 ∧ m ≤ 18446744073709551615 ∧ wr.ownsRow w.heap.size 5 1 v L.length (cel L)) (fun n _ _ => (intOf n).toNat)
  case atStart =>
    exact ⟨N, [], Below.refl _ w, rfl, Upp.start N h, by simp, h, World.ownsRow_nil _ _ _ _⟩
  case round =>
    obtain ⟨m, L, hbw, rfl, hU, hL, hm, hown⟩ := hrel
    have hzr := hbw.size
    by_cases h1 : 128 ≤ m
    · have hn : wr.heap.size ≤ (wr.alloc (.cells #[.int .u8 ((m : Int) % 128 + 128)] 5)).heap.size := by simp
      go_wp2_with (at_builtin; refine wpList_append_own _ rfl _ _ 47 rfl w.heap.size 5 i0 (.int .u8 0) 1 1 Try.underlying47 hi hz0 hz1 hz2 rfl (by decide) _ _ _ rfl (hown.alloc _) ⟨wr.heap.size, 0, none⟩ 1 1 [.int .u8 ((m : Int) % 128 + 128)] rfl rfl (one_cell _ _ _) (one_one _) (by unfold maxLen; omega) (by omega) (by simp; omega) ?_; intro v' w1 hown' hgrow hiff; clear hiff)
      have R := up_round hU.out h1 hown' hgrow hbw (hown.alloc _)
      clear hown' hgrow hown hU
      go_wp2_with fail
      go_roundw
      case rel => exact ⟨m / 128, L ++ [UInt8.ofNat (m % 128 + 128)], R.1, by go_num, R.2.1, R.2.1.2.1, by omega, R.2.2⟩
      case measure => simp [intOf]; omega
    · go_wp2_with (at_builtin; refine wpList_append_own _ rfl _ _ 47 rfl w.heap.size 5 i0 (.int .u8 0) 1 1 Try.underlying47 hi hz0 hz1 hz2 rfl (by decide) _ _ _ rfl (hown.alloc _) ⟨wr.heap.size, 0, none⟩ 1 1 [.int .u8 (m : Int)] rfl rfl (one_cell _ _ _) (one_one _) (by unfold maxLen; omega) (by omega) (by simp; omega) ?_; intro v' w1 hown' hgrow hiff; clear hiff)
      obtain ⟨a, cap, rfl, hb, hcv⟩ := up_done hU.out (by omega) hown' hgrow hbw (hown.alloc _)
      clear hown' hgrow hown hU
      go_wp2_with (simp only [hcv])
      go_ret
      exact ⟨rfl, hb⟩

theorem str_app (a b : List UInt8) : str a ++ str b = str (a ++ b) := by
  apply ByteArray.ext
  simp [str]

theorem rBool_any (t : Bool) (w : World) : Calls Try.prog 14 #[.bool t] w fun e w' => e = .returned (.string (str [if t then 1 else 0])) ∧ w = w' := by
  cases t with
  | true =>
    go_enter Try.func14, Try.ntmps14
    go_wp2_with fail
    go_ret
    exact ⟨rfl, rfl⟩
  | false =>
    go_enter Try.func14, Try.ntmps14
    go_wp2_with fail
    go_ret
    exact ⟨rfl, rfl⟩

set_option maxRecDepth 100000 in
set_option maxHeartbeats 1000000 in
theorem rNums_any (A : Option Addr) (n cap : Nat) (N : List Nat) (hn : n ≤ 1000000) (w : World) (hS : Hid (Ints w A n N)) (hN : Hid (∀ x ∈ N, x ≤ 18446744073709551615)) :
    Calls Try.prog 10 #[.slice A n cap] w fun e w' => e = .returned (.string (str (cat N))) ∧ Below w.heap.size w w' := by
  have HL := Lib.hid hS.out.len
  go_enter Try.func10, Try.ntmps10
  go_wp2_with fail
  go_loopw [3, 4] (fun sv iv wr => ∃ (i : Nat) (S : ByteArray), i ≤ n ∧ iv = .int .i64 i ∧ sv = .string S ∧ S.size ≤ 10 * i ∧ Hid (S = str (cat (N.take i))) ∧ Below w.heap.size w wr) (fun _ iv _ => n - (intOf iv).toNat)
  case atStart => exact ⟨0, ⟨#[]⟩, Nat.zero_le _, rfl, rfl, Nat.le_refl _, by show _ = _; rfl, Below.refl _ _⟩
  case round =>
    obtain ⟨i, S, hi, rfl, rfl, hSz, HS, hbw⟩ := hrel
    by_cases hlt : i < n
    · have hil : i < N.length := by rw [HL.out]; exact hlt
      obtain ⟨b, off, rfl, hbl, hc⟩ := hS.out.cell i hil
      obtain ⟨x, hx⟩ : ∃ x, N[i] = x := ⟨_, rfl⟩
      have hcw : wr.cell? ⟨b, off + i, none⟩ = some (.int .u64 (x : Nat)) := by rw [← hx]; exact (hbw.cell (p := ⟨b, off + i, none⟩) hbl).trans hc
      have hxm : x ≤ 18446744073709551615 := by rw [← hx]; exact hN.out _ (List.getElem_mem hil)
      obtain ⟨X, hX⟩ : ∃ X, X = str (ub x) := ⟨_, rfl⟩
      have HX : Hid (str (ub x) = X) := hX.symm
      have HE : Hid (S ++ X = str (cat (N.take (i + 1)))) := by show _ = _; rw [cat_snoc N i hil, hx, hX, HS.out, str_app]
      have hle : X.size ≤ 10 := by rw [hX]; exact ub_le x
      clear hc hx hX HS
      go_wp2_with fail
      refine (rUp_any x _ hxm X HX).mono ?_
      rintro e w1 ⟨rfl, hb1⟩
      have hb2 : Below w.heap.size w w1 := hbw.trans (hb1.mono hbw.size)
      clear hcw hbw hb1
      go_wp2_with fail
      go_roundw
      case rel => exact ⟨i + 1, S ++ X, by omega, by go_num, rfl, by rw [ByteArray.size_append]; omega, HE, hb2⟩
      case measure => simp [intOf]; omega
    · go_wp2_with fail
      go_ret
      refine ⟨?_, hbw⟩
      rw [HS.out, List.take_of_length_le (by rw [HL.out]; omega)]
      rfl

set_option maxRecDepth 100000 in
set_option maxHeartbeats 1000000 in
theorem rTexts_any (A : Option Addr) (n cap : Nat) (ss : List ByteArray) (hn : n ≤ 1000000) (hl : (txs ss).length ≤ 1099511627776) (w : World) (hS : Hid (Strs w A n ss)) :
    Calls Try.prog 12 #[.slice A n cap] w fun e w' => e = .returned (.string (str (txs ss))) ∧ Below w.heap.size w w' := by
  have HL := Lib.hid hS.out.len
  go_enter Try.func12, Try.ntmps12
  go_wp2_with fail
  go_loopw [3, 4] (fun sv iv wr => ∃ (i : Nat) (S : ByteArray), i ≤ n ∧ iv = .int .i64 i ∧ sv = .string S ∧ S.size ≤ 1099511627776 ∧ Hid (S = str (txs (ss.take i))) ∧ Below w.heap.size w wr) (fun _ iv _ => n - (intOf iv).toNat)
  case atStart => exact ⟨0, ⟨#[]⟩, Nat.zero_le _, rfl, rfl, by decide, by show _ = _; rfl, Below.refl _ _⟩
  case round =>
    obtain ⟨i, S, hi, rfl, rfl, hSz, HS, hbw⟩ := hrel
    have hsz := hbw.size
    by_cases hlt : i < n
    · have hil : i < ss.length := by rw [HL.out]; exact hlt
      obtain ⟨b, off, rfl, hbl, hc⟩ := hS.out.cell i hil
      obtain ⟨s, hs⟩ : ∃ s, ss[i] = s := ⟨_, rfl⟩
      have hcw : wr.cell? ⟨b, off + i, none⟩ = some (.string s) := by rw [← hs]; exact (hbw.cell (p := ⟨b, off + i, none⟩) hbl).trans hc
      obtain ⟨X, hX⟩ : ∃ X, X = str (ub s.size) := ⟨_, rfl⟩
      have HX : Hid (str (ub s.size) = X) := hX.symm
      have HE : Hid (S ++ X ++ s = str (txs (ss.take (i + 1)))) := by
        show _ = _
        rw [txs_snoc ss i hil, hs, hX, HS.out, str_app]
        apply ByteArray.ext
        simp [str]
      have hXs : X.size ≤ 10 := by rw [hX]; exact ub_le _
      have hle : S.size + X.size + s.size ≤ 1099511627776 := by
        have h1 := txs_le ss (i + 1)
        have h2 := congrArg ByteArray.size HE.out
        rw [ByteArray.size_append, ByteArray.size_append] at h2
        have h3 : (str (txs (ss.take (i + 1)))).size = (txs (ss.take (i + 1))).length := rfl
        omega
      have hle1 : S.size + X.size ≤ 1099511627776 := by omega
      have hss : s.size ≤ 1099511627776 := by omega
      have hu : IntKind.u64.wrap (s.size : Int) = s.size := by rw [IntKind.wrap_u64]; omega
      clear hc hs hX HS
      have K := Lib.hid (fun W => rUp_any s.size W (by omega) X HX)
      have hcw2 := fun d os => cell_regrown (w := wr) (a := ⟨b, off + i, none⟩) hcw d os
      go_wp2_with fail
      refine wp_region_quiet_below (by kernel_rfl) (by kernel_rfl) ?_
      repeat (go_big_quiet_step ((go_at_call 26; exact Calls.regrown_of (K.out _))))
      refine wpQuiet_nil ?_
      rintro _ ⟨⟨dq, osq⟩, rfl⟩
      have hb2 : Hid (Below w.heap.size w (grow (redrawn wr dq) osq)) := hbw.trans ((below_regrown wr dq osq).mono hsz)
      generalize grow (redrawn wr dq) osq = w5 at *
      go_wp2_with fail
      go_roundw
      case rel => exact ⟨i + 1, S ++ X ++ s, by omega, by go_num, rfl, by rw [ByteArray.size_append, ByteArray.size_append]; omega, HE, hb2⟩
      case measure => simp [intOf]; omega
    · go_wp2_with fail
      go_ret
      refine ⟨?_, hbw⟩
      rw [HS.out, List.take_of_length_le (by rw [HL.out]; omega)]
      rfl

end Go.Proofs.Yteomgaaemlchfaa
