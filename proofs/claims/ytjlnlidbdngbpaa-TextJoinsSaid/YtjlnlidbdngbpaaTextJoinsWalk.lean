/-
  The walk of the law TextJoins.
-/
import Derived.Test.YtjlnlidbdngbpaaAlive
import Derived.Test.YtjlnlidbdngbpaaConv
import Derived.Test.YtjlnlidbdngbpaaWalkF
import Derived.Lib.QuietBelow
import Derived.Deep.QuietTactic
import Derived.BigQuiet
import Derived.WalkSmall
namespace Go.Proofs.Ytjlnlidbdngbpaa.textJoins
open Go.RowKit

theorem RefRunes_at (s : ByteArray) (w : World) (hs : s.size ≤ 1048576) (xs : List Nat) (h : Hid (runes s.data.toList = some xs)) :
    Calls Try.prog 21 #[.string s] w fun e w' => ∃ (a0 : Option Addr) (cap : Nat), e = .returned (.tuple #[.slice a0 xs.length cap, .bool true]) ∧ w'.ownsRow w.heap.size 3 1 (.slice a0 xs.length cap) xs.length (ints xs) ∧ Below w.heap.size w w' := by
  refine (RefRunes_any s w hs).mono ?_
  rintro e w' ⟨ha, hb⟩
  unfold RunesAns at ha
  rw [h.out] at ha
  obtain ⟨a0, cap, h1, h2⟩ := ha
  exact ⟨a0, cap, h1, h2, hb⟩

theorem Compare_below (a b : ByteArray) (w : World) (c : Int) (h : Hid (Lib.compareBytes a.data.toList b.data.toList = c)) :
    Calls Try.prog 17 #[.string a, .string b] w fun e w' => e = .returned (.int .i64 c) ∧ Below w.heap.size w w' := by
  refine (Compare_at a b w c h).mono ?_
  rintro e w' ⟨he, rfl⟩
  exact ⟨he, Below.refl _ _⟩

theorem Compare_le (a b : List UInt8) (xs ys : List Nat) (ha : runes a = some xs) (hb : runes b = some ys) (h : ∀ i, i < xs.length → i < ys.length → xs[i]? = ys[i]?) :
    Lib.compareBytes a b = if xs.length = ys.length then 0 else if xs.length < ys.length then -1 else 1 := by
  rw [(runes_sound ha).2, (runes_sound hb).2]; exact cb_encs_same xs ys h
theorem Compare_diff (a b : List UInt8) (xs ys : List Nat) (ha : runes a = some xs) (hb : runes b = some ys) (k : Nat) (h1 : k < xs.length) (h2 : k < ys.length) (h : ∀ i, i < k → xs[i]? = ys[i]?) (hne : xs[k]?.getD 0 ≠ ys[k]?.getD 0) :
    Lib.compareBytes a b = if xs[k]?.getD 0 < ys[k]?.getD 0 then -1 else 1 := by
  rw [(runes_sound ha).2, (runes_sound hb).2]; exact cb_encs_diff k xs ys (runes_sound ha).1 (runes_sound hb).1 h1 h2 h hne

set_option maxHeartbeats 4000000 in
set_option maxRecDepth 100000 in
theorem walk_main (a b : ByteArray) (n : Int) (ha : a.size ≤ 4096) (hb : b.size ≤ 4096) (hn : 0 ≤ n ∧ n ≤ 255) (xs ys : List Nat) (hx : runes a.data.toList = some xs) (hy : runes b.data.toList = some ys) (w : World) :
    Calls Try.prog 5 #[.string a, .string b, .int .u8 n] w fun e w' => e = .returned (.bool true) ∧ Below w.heap.size w w' := by
  have HB : Below w.heap.size w w := Below.refl _ _
  have HX := Lib.hid hx
  have HY := Lib.hid hy
  have ham : a.size ≤ maxLen := by unfold maxLen; omega
  have hbm : b.size ≤ maxLen := by unfold maxLen; omega
  have ha2 : a.size ≤ 281474976710656 := by omega
  have ha3 : a.size ≤ 1048576 := by omega
  have hb3 : b.size ≤ 1048576 := by omega
  have hxl : xs.length ≤ 4096 := by have := length_le_encs xs; rw [← (runes_sound hx).2, ← Lib.size_eq] at this; omega
  have hyl : ys.length ≤ 4096 := by have := length_le_encs ys; rw [← (runes_sound hy).2, ← Lib.size_eq] at this; omega
  have HVa : Hid (decide (0 ≤ cnt a.data.toList) = true) := by show _ = _; rw [cnt_eq hx]; simp
  have HVb : Hid (decide (0 ≤ cnt b.data.toList) = true) := by show _ = _; rw [cnt_eq hy]; simp
  have HRa : Hid (cnt a.data.toList = (xs.length : Nat)) := cnt_eq hx
  have HRb : Hid (cnt b.data.toList = (ys.length : Nat)) := cnt_eq hy
  have htd : (a ++ b).data.toList = a.data.toList ++ b.data.toList := by rw [ByteArray.data_append, Array.toList_append]
  have htr : runes (a ++ b).data.toList = some (xs ++ ys) := by rw [htd, runes_append hx, hy]; rfl
  have htm : (a ++ b).size ≤ maxLen := by rw [ByteArray.size_append]; unfold maxLen; omega
  have cR := Lib.hid (fun W => Runes_at (a ++ b) W htm ((xs.length : Int) + (ys.length : Int)) (by show _ = _; rw [cnt_eq htr]; simp))
  have cV := Lib.hid (fun W => Valid_at (a ++ b) W htm true (by show _ = _; rw [cnt_eq htr]; exact decide_eq_true (Int.natCast_nonneg _)))
  obtain ⟨C, hC⟩ : ∃ C, C = str (cut a.data.toList n) := ⟨_, rfl⟩
  have HC : Hid (str (cut a.data.toList n) = C) := hC.symm
  have hCd : C.data.toList = cut a.data.toList n := by rw [hC]; rfl
  have hCl : C.size = (cut a.data.toList n).length := by rw [Lib.size_eq, hCd]
  have hCs : C.size ≤ a.size := by rw [Lib.size_eq, Lib.size_eq, hCd]; exact cut_len hx n
  have hCm : C.size ≤ maxLen := by unfold maxLen; omega
  have hE : a.extract 0 C.size = C := by
    rw [Lib.extract_eq, List.drop_zero, Nat.sub_zero, hCl, take_cut hx n]; exact hC.symm
  have hDd : (a.extract C.size a.size).data.toList = encs (xs.drop n.toNat) := by
    rw [Lib.extract_data, List.take_of_length_le (by rw [List.length_drop, ← Lib.size_eq]; exact Nat.le_refl _), hCl, drop_cut hx n]
  have hDm : (a.extract C.size a.size).size ≤ maxLen := by rw [ByteArray.size_extract]; unfold maxLen; omega
  have cD := Lib.hid (fun W => Valid_at (a.extract C.size a.size) W hDm true (by show _ = _; rw [hDd, cnt_eq (runes_encs _ (drop_runes (runes_sound hx).1 _))]; simp))
  have HVC : Hid (decide (0 ≤ cnt C.data.toList) = true) := by show _ = _; rw [hCd, cnt_eq (runes_cut hx n)]; simp
  have HRC : Hid (cnt C.data.toList = min n (xs.length : Int)) := by show _ = _; rw [hCd, cnt_cut hx n]; omega
  have d1 : decide (a.size < C.size) = false := by simp; omega
  have d2 : decide ((a.size : Int) < (C.size : Int)) = false := by simp; omega
  clear hx hy htd htr htm hC hCd hCl hDd hDm
  go_enter Try.func5, Try.ntmps5
  go_wp2_with fail
  refine (Valid_at a _ ham _ HVa).mono ?_
  rintro e w' ⟨rfl, hb⟩
  replace HB := HB.trans (hb.mono HB.size)
  clear hb
  go_wp2_with fail
  refine (Valid_at b _ hbm _ HVb).mono ?_
  rintro e w' ⟨rfl, hb⟩
  replace HB := HB.trans (hb.mono HB.size)
  clear hb
  go_wp2_with fail
  refine (cR.out _).mono ?_
  rintro e w' ⟨rfl, hb⟩
  replace HB := HB.trans (hb.mono HB.size)
  clear hb
  go_wp2_with fail
  refine (Runes_at a _ ham _ HRa).mono ?_
  rintro e w' ⟨rfl, hb⟩
  replace HB := HB.trans (hb.mono HB.size)
  clear hb
  go_wp2_with fail
  refine (Runes_at b _ hbm _ HRb).mono ?_
  rintro e w' ⟨rfl, hb⟩
  replace HB := HB.trans (hb.mono HB.size)
  clear hb
  go_wp2_with fail
  refine (Valid_at a _ ham _ HVa).mono ?_
  rintro e w' ⟨rfl, hb⟩
  replace HB := HB.trans (hb.mono HB.size)
  clear hb
  go_wp2_with fail
  refine (cV.out _).mono ?_
  rintro e w' ⟨rfl, hb⟩
  replace HB := HB.trans (hb.mono HB.size)
  clear hb
  go_wp2_with fail
  refine (Valid_at b _ hbm _ HVb).mono ?_
  rintro e w' ⟨rfl, hb⟩
  replace HB := HB.trans (hb.mono HB.size)
  clear hb
  go_wp2_with fail
  refine (Valid_at a _ ham _ HVa).mono ?_
  rintro e w' ⟨rfl, hb⟩
  replace HB := HB.trans (hb.mono HB.size)
  clear hb
  go_wp2_with fail
  refine (Valid_at b _ hbm _ HVb).mono ?_
  rintro e w' ⟨rfl, hb⟩
  replace HB := HB.trans (hb.mono HB.size)
  clear hb
  go_wp2_with fail
  refine (Cut_at a n _ ha2 (by omega) (by omega) C HC).mono ?_
  rintro e w' ⟨rfl, hb⟩
  replace HB := HB.trans (hb.mono HB.size)
  clear hb
  go_wp2_with fail
  refine (Valid_at C _ hCm _ HVC).mono ?_
  rintro e w' ⟨rfl, hb⟩
  replace HB := HB.trans (hb.mono HB.size)
  clear hb
  go_wp2_with fail
  refine (cD.out _).mono ?_
  rintro e w' ⟨rfl, hb⟩
  replace HB := HB.trans (hb.mono HB.size)
  clear hb
  go_wp2_with fail
  refine (Runes_at C _ hCm _ HRC).mono ?_
  rintro e w' ⟨rfl, hb⟩
  replace HB := HB.trans (hb.mono HB.size)
  clear hb
  go_wp2_with fail
  refine (Runes_at a _ ham _ HRa).mono ?_
  rintro e w' ⟨rfl, hb⟩
  replace HB := HB.trans (hb.mono HB.size)
  clear hb
  go_wp2_with fail
  refine (RefRunes_at a _ ha3 xs HX).mono ?_
  rintro e w1 ⟨ax, capx, rfl, hox, hb⟩
  replace HB := HB.trans (hb.mono HB.size)
  clear hb cR cV cD hE d1 d2 HC HVC HRC
  go_wp2_with fail
  refine (RefRunes_at b _ hb3 ys HY).mono ?_
  rintro e w2 ⟨ay, capy, rfl, hoy, hb⟩
  replace HB := HB.trans (hb.mono HB.size)
  have HOX := Lib.hid hox
  have HOY := Lib.hid hoy
  have HBB := Lib.hid hb
  clear hb hox hoy
  go_wp2_with fail
  go_loopw [12] (fun i wr => ∃ k : Nat, k ≤ xs.length ∧ k ≤ ys.length ∧ i = .int .i64 (k : Nat) ∧ Hid (∀ j, j < k → xs[j]? = ys[j]?) ∧ Below w2.heap.size w2 wr) (fun i _ => xs.length - (intOf i).toNat)
  case atStart => exact ⟨0, Nat.zero_le _, Nat.zero_le _, rfl, fun j hj => absurd hj (Nat.not_lt_zero j), Below.refl _ _⟩
  case round =>
    obtain ⟨k, hkx, hky, rfl, heq, hbw⟩ := hrel
    have HBW := Lib.hid (HB.trans (hbw.mono HB.size))
    by_cases h1 : k < xs.length
    · by_cases h2 : k < ys.length
      · obtain ⟨gx, rfl, gx1, gx2, hcx⟩ := owns_cells HOX.out (by omega)
        obtain ⟨gy, rfl, gy1, gy2, hcy⟩ := owns_cells HOY.out (by omega)
        have hcx1 := (hbw.cell (p := ⟨gx, k, none⟩) (Nat.lt_of_lt_of_le gx2 HBB.out.size)).trans ((HBB.out.cell (p := ⟨gx, k, none⟩) gx2).trans (hcx k h1))
        have hcy1 := (hbw.cell (p := ⟨gy, k, none⟩) gy2).trans (hcy k h2)
        have hxb := mem_lt HX.out k
        have hyb := mem_lt HY.out k
        obtain ⟨X, hX⟩ : ∃ X, X = xs[k]?.getD 0 := ⟨_, rfl⟩
        obtain ⟨Y, hY⟩ : ∃ Y, Y = ys[k]?.getD 0 := ⟨_, rfl⟩
        rw [← hX] at hcx1 hxb
        rw [← hY] at hcy1 hyb
        clear hcx hcy
        by_cases hne : X = Y
        · have HQ : Hid (∀ j, j < k + 1 → xs[j]? = ys[j]?) := by
            intro j hj
            by_cases e : j = k
            · subst e
              rw [List.getElem?_eq_getElem h1, List.getElem?_eq_getElem h2] at *
              have : xs[j] = ys[j] := by simpa using (hX.symm.trans (hne.trans hY))
              rw [this]
            · exact heq.out j (by omega)
          clear hX hY
          subst hne
          go_wp2_with fail
          go_quiet (fail)
          go_wp2_with fail
          go_roundw
          case rel => exact ⟨k + 1, by omega, by omega, by go_num, HQ, by first | exact below_drewN hbw _ | exact below_drewN (below_drewN hbw _) _⟩
          case measure => simp [intOf]; omega
        · have hcmp := Compare_diff a.data.toList b.data.toList xs ys HX.out HY.out k h1 h2 heq.out (by rw [← hX, ← hY]; exact hne)
          rw [← hX, ← hY] at hcmp
          have n1 : ((X : Int) != (Y : Int)) = true := by simp; omega
          have n2 : ((X : Int) == (Y : Int)) = false := by simp; omega
          clear hX hY
          by_cases hlt : X < Y
          · skip
            have cC := Lib.hid (fun W => Compare_below a b W (-1) (by show _ = _; rw [hcmp, if_pos hlt]))
            have n3 : decide (X < Y) = true := by simp; omega
            clear hcmp hne hlt
            go_wp2_with fail
            go_quiet (fail)
            go_wp2_with fail
            have hcx2 := fun d os => cell_regrown (w := wr.drewN nq) (a := ⟨gx, k, none⟩) hcx1 d os
            have hcy2 := fun d os => cell_regrown (w := wr.drewN nq) (a := ⟨gy, k, none⟩) hcy1 d os
            refine wp_region_quiet_below (by kernel_rfl) (by kernel_rfl) ?_
            repeat (go_big_quiet_step (first | (go_at_call 17; exact Calls.regrown_of (cC.out _)) | (go_at_call 10; exact Calls.regrown_of (alive_any _))))
            refine wpQuiet_nil ?_
            intro _ hw'
            obtain ⟨⟨dq, osq⟩, hw''⟩ := hw'
            subst hw''
            go_wp2_with fail
            go_ret
            exact ⟨rfl, (below_drewN HBW.out _).trans ((below_regrown (wr.drewN nq) dq osq).mono (below_drewN HBW.out _).size)⟩
          · skip
            have cC := Lib.hid (fun W => Compare_below a b W (1) (by show _ = _; rw [hcmp, if_neg hlt]))
            have n3 : decide (X < Y) = false := by simp; omega
            clear hcmp hne hlt
            go_wp2_with fail
            go_quiet (fail)
            go_wp2_with fail
            have hcx2 := fun d os => cell_regrown (w := wr.drewN nq) (a := ⟨gx, k, none⟩) hcx1 d os
            have hcy2 := fun d os => cell_regrown (w := wr.drewN nq) (a := ⟨gy, k, none⟩) hcy1 d os
            refine wp_region_quiet_below (by kernel_rfl) (by kernel_rfl) ?_
            repeat (go_big_quiet_step (first | (go_at_call 17; exact Calls.regrown_of (cC.out _)) | (go_at_call 10; exact Calls.regrown_of (alive_any _))))
            refine wpQuiet_nil ?_
            intro _ hw'
            obtain ⟨⟨dq, osq⟩, hw''⟩ := hw'
            subst hw''
            go_wp2_with fail
            go_ret
            exact ⟨rfl, (below_drewN HBW.out _).trans ((below_regrown (wr.drewN nq) dq osq).mono (below_drewN HBW.out _).size)⟩
      · have hcmp := Compare_le a.data.toList b.data.toList xs ys HX.out HY.out (fun j hj1 hj2 => heq.out j (by omega))
        by_cases e1 : xs.length = ys.length
        · have cC := Lib.hid (fun W => Compare_below a b W 0 (by show _ = _; rw [hcmp, if_pos e1]))
          have n1 : ((xs.length : Int) == (ys.length : Int)) = true := by simp; omega
          have n2 : decide (xs.length < ys.length) = false := by simp; omega
          clear hcmp e1
          have HB2 := HBW.out
          clear HB
          go_wp2_with (first
            | (go_at_call 17; refine (cC.out _).mono ?_; rintro e w' ⟨rfl, hb⟩; replace HB2 := HB2.trans (hb.mono HB2.size); clear hb)
            | (go_at_call 10; refine (alive_any _).mono ?_; rintro e w' ⟨rfl, hb⟩; replace HB2 := HB2.trans (hb.mono HB2.size); clear hb))
          go_ret
          exact ⟨rfl, HB2⟩
        · by_cases e2 : xs.length < ys.length
          · have cC := Lib.hid (fun W => Compare_below a b W (-1) (by show _ = _; rw [hcmp, if_neg e1, if_pos e2]))
            have n1 : ((xs.length : Int) == (ys.length : Int)) = false := by simp; omega
            have n2 : decide (xs.length < ys.length) = true := by simp; omega
            clear hcmp e1 e2
            have HB2 := HBW.out
            clear HB
            go_wp2_with (first
              | (go_at_call 17; refine (cC.out _).mono ?_; rintro e w' ⟨rfl, hb⟩; replace HB2 := HB2.trans (hb.mono HB2.size); clear hb)
              | (go_at_call 10; refine (alive_any _).mono ?_; rintro e w' ⟨rfl, hb⟩; replace HB2 := HB2.trans (hb.mono HB2.size); clear hb))
            go_ret
            exact ⟨rfl, HB2⟩
          · have cC := Lib.hid (fun W => Compare_below a b W 1 (by show _ = _; rw [hcmp, if_neg e1, if_neg e2]))
            have n1 : ((xs.length : Int) == (ys.length : Int)) = false := by simp; omega
            have n2 : decide (xs.length < ys.length) = false := by simp; omega
            clear hcmp e1 e2
            have HB2 := HBW.out
            clear HB
            go_wp2_with (first
              | (go_at_call 17; refine (cC.out _).mono ?_; rintro e w' ⟨rfl, hb⟩; replace HB2 := HB2.trans (hb.mono HB2.size); clear hb)
              | (go_at_call 10; refine (alive_any _).mono ?_; rintro e w' ⟨rfl, hb⟩; replace HB2 := HB2.trans (hb.mono HB2.size); clear hb))
            go_ret
            exact ⟨rfl, HB2⟩
    · have hcmp := Compare_le a.data.toList b.data.toList xs ys HX.out HY.out (fun j hj1 hj2 => heq.out j (by omega))
      by_cases e1 : xs.length = ys.length
      · have cC := Lib.hid (fun W => Compare_below a b W 0 (by show _ = _; rw [hcmp, if_pos e1]))
        have n1 : ((xs.length : Int) == (ys.length : Int)) = true := by simp; omega
        have n2 : decide (xs.length < ys.length) = false := by simp; omega
        clear hcmp e1
        have HB2 := HBW.out
        clear HB
        go_wp2_with (first
          | (go_at_call 17; refine (cC.out _).mono ?_; rintro e w' ⟨rfl, hb⟩; replace HB2 := HB2.trans (hb.mono HB2.size); clear hb)
          | (go_at_call 10; refine (alive_any _).mono ?_; rintro e w' ⟨rfl, hb⟩; replace HB2 := HB2.trans (hb.mono HB2.size); clear hb))
        go_ret
        exact ⟨rfl, HB2⟩
      · by_cases e2 : xs.length < ys.length
        · have cC := Lib.hid (fun W => Compare_below a b W (-1) (by show _ = _; rw [hcmp, if_neg e1, if_pos e2]))
          have n1 : ((xs.length : Int) == (ys.length : Int)) = false := by simp; omega
          have n2 : decide (xs.length < ys.length) = true := by simp; omega
          clear hcmp e1 e2
          have HB2 := HBW.out
          clear HB
          go_wp2_with (first
            | (go_at_call 17; refine (cC.out _).mono ?_; rintro e w' ⟨rfl, hb⟩; replace HB2 := HB2.trans (hb.mono HB2.size); clear hb)
            | (go_at_call 10; refine (alive_any _).mono ?_; rintro e w' ⟨rfl, hb⟩; replace HB2 := HB2.trans (hb.mono HB2.size); clear hb))
          go_ret
          exact ⟨rfl, HB2⟩
        · have cC := Lib.hid (fun W => Compare_below a b W 1 (by show _ = _; rw [hcmp, if_neg e1, if_neg e2]))
          have n1 : ((xs.length : Int) == (ys.length : Int)) = false := by simp; omega
          have n2 : decide (xs.length < ys.length) = false := by simp; omega
          clear hcmp e1 e2
          have HB2 := HBW.out
          clear HB
          go_wp2_with (first
            | (go_at_call 17; refine (cC.out _).mono ?_; rintro e w' ⟨rfl, hb⟩; replace HB2 := HB2.trans (hb.mono HB2.size); clear hb)
            | (go_at_call 10; refine (alive_any _).mono ?_; rintro e w' ⟨rfl, hb⟩; replace HB2 := HB2.trans (hb.mono HB2.size); clear hb))
          go_ret
          exact ⟨rfl, HB2⟩


set_option maxHeartbeats 1000000 in
set_option maxRecDepth 100000 in
theorem walk (a b : ByteArray) (n : Int) (ha : a.size ≤ maxLen) (hb : b.size ≤ maxLen) (hn : (Lit.int .u8 n).wf = true) (w : World) :
    Calls Try.prog 5 #[.string a, .string b, .int .u8 n] w fun e w' => e = .returned (.bool true) ∧ Below w.heap.size w w' := by
  have hnb := bounds_u8 hn
  clear hn
  have ha1 := ha
  have hb1 := hb
  unfold maxLen at ha1 hb1
  have HB : Below w.heap.size w w := Below.refl _ _
  by_cases h1 : 4096 < a.size
  · go_enter Try.func5, Try.ntmps5
    go_wp2_with (go_at_call 10; refine (alive_any _).mono ?_; rintro e w' ⟨rfl, hb⟩; replace HB := HB.trans (hb.mono HB.size); clear hb)
    go_ret
    exact ⟨rfl, HB⟩
  by_cases h2 : 4096 < b.size
  · go_enter Try.func5, Try.ntmps5
    go_wp2_with (go_at_call 10; refine (alive_any _).mono ?_; rintro e w' ⟨rfl, hb⟩; replace HB := HB.trans (hb.mono HB.size); clear hb)
    go_ret
    exact ⟨rfl, HB⟩
  cases hx : runes a.data.toList with
  | none =>
    have HL : Hid (decide (0 ≤ cnt a.data.toList) = false) := by show _ = _; unfold cnt; rw [hx]; rfl
    clear hx
    go_enter Try.func5, Try.ntmps5
    go_wp2_with (first
      | (go_at_call 10; refine (alive_any _).mono ?_; rintro e w' ⟨rfl, hb⟩; replace HB := HB.trans (hb.mono HB.size); clear hb)
      | (go_at_call 13; refine (Valid_at a _ ha _ HL).mono ?_; rintro e w' ⟨rfl, hb⟩; replace HB := HB.trans (hb.mono HB.size); clear hb))
    go_ret
    exact ⟨rfl, HB⟩
  | some xs =>
    cases hy : runes b.data.toList with
    | none =>
      have HVa : Hid (decide (0 ≤ cnt a.data.toList) = true) := by show _ = _; rw [cnt_eq hx]; simp
      have HVb : Hid (decide (0 ≤ cnt b.data.toList) = false) := by show _ = _; unfold cnt; rw [hy]; rfl
      have htd : (a ++ b).data.toList = a.data.toList ++ b.data.toList := by rw [ByteArray.data_append, Array.toList_append]
      have htr : runes (a ++ b).data.toList = none := by rw [htd, runes_append hx, hy]; rfl
      have htm : (a ++ b).size ≤ maxLen := by rw [ByteArray.size_append]; unfold maxLen; omega
      have cV := Lib.hid (fun W => Valid_at (a ++ b) W htm false (by show _ = _; unfold cnt; rw [htr]; rfl))
      clear hx hy htd htr htm
      go_enter Try.func5, Try.ntmps5
      go_wp2_with fail
      refine (Valid_at a _ ha _ HVa).mono ?_
      rintro e w' ⟨rfl, hb⟩
      replace HB := HB.trans (hb.mono HB.size)
      clear hb
      go_wp2_with fail
      refine (Valid_at b _ hb _ HVb).mono ?_
      rintro e w' ⟨rfl, hb⟩
      replace HB := HB.trans (hb.mono HB.size)
      clear hb
      go_wp2_with fail
      refine (Valid_at a _ ha _ HVa).mono ?_
      rintro e w' ⟨rfl, hb⟩
      replace HB := HB.trans (hb.mono HB.size)
      clear hb
      go_wp2_with fail
      refine (cV.out _).mono ?_
      rintro e w' ⟨rfl, hb⟩
      replace HB := HB.trans (hb.mono HB.size)
      clear hb
      go_wp2_with fail
      refine (Valid_at b _ hb _ HVb).mono ?_
      rintro e w' ⟨rfl, hb⟩
      replace HB := HB.trans (hb.mono HB.size)
      clear hb
      go_wp2_with fail
      refine (Valid_at a _ ha _ HVa).mono ?_
      rintro e w' ⟨rfl, hb⟩
      replace HB := HB.trans (hb.mono HB.size)
      clear hb
      go_wp2_with fail
      refine (Valid_at b _ hb _ HVb).mono ?_
      rintro e w' ⟨rfl, hb⟩
      replace HB := HB.trans (hb.mono HB.size)
      clear hb
      go_wp2_with fail
      refine (alive_any _).mono ?_
      rintro e w' ⟨rfl, hb⟩
      replace HB := HB.trans (hb.mono HB.size)
      clear hb
      go_wp2_with fail
      go_ret
      exact ⟨rfl, HB⟩
    | some ys => exact walk_main a b n (by omega) (by omega) hnb xs ys hx hy w

end Go.Proofs.Ytjlnlidbdngbpaa.textJoins
