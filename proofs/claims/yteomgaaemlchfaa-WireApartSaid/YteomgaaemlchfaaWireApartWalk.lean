/-
  The walk of the law WireApart. (Written by gen_wa.py.)
-/
import Derived.Test.YteomgaaemlchfaaWAlive
import Derived.Test.YteomgaaemlchfaaWApart
import Derived.BigQuiet
namespace Go.Proofs.Yteomgaaemlchfaa.wireApart
open Go.RowKit

theorem below_drewN {B : Nat} {w w' : World} (h : Below B w w') (n : Nat) : Below B w (w'.drewN n) := h.trans ⟨rfl, rfl, rfl, Nat.le_refl _, fun _ _ => rfl⟩

theorem take_next {α : Type} {N M : List α} {i : Nat} (h1 : i < N.length) (h2 : i < M.length) (h : N.take i = M.take i) : N.take (i + 1) = M.take (i + 1) ↔ N[i] = M[i] := by
  rw [List.take_succ_eq_append_getElem h1, List.take_succ_eq_append_getElem h2, h]
  exact ⟨fun e => by injection List.append_cancel_left e, fun e => by rw [e]⟩
/-- The flag tells it (hidden from the walk's own simplifying). -/
def Tells (b : Bool) (p : Prop) : Prop := b = true ↔ p

theorem _root_.Go.Proofs.Yteomgaaemlchfaa.Strs.below' {W w : World} {A : Option Addr} {n : Nat} {ss : List ByteArray} (h : Strs W A n ss) (hb : Below W.heap.size W w) : Strs w A n ss := h.below hb
theorem _root_.Go.Proofs.Yteomgaaemlchfaa.Ints.below' {W w : World} {A : Option Addr} {n : Nat} {ns : List Nat} (h : Ints W A n ns) (hb : Below W.heap.size W w) : Ints w A n ns := h.below hb

set_option maxRecDepth 100000 in
set_option maxHeartbeats 8000000 in
theorem walk0 (A : Option Addr) (n1 c1 : Nat) (N : List Nat) (B : Option Addr) (n2 c2 : Nat) (M : List Nat) (C : Option Addr) (m1 c3 : Nat) (ss : List ByteArray) (D : Option Addr) (m2 c4 : Nat) (tt : List ByteArray) (W : World)
    (HA : Hid (Ints W A n1 N)) (HN : Hid (∀ x ∈ N, x ≤ 18446744073709551615)) (HE : Hid (Ints W B n2 M)) (HM : Hid (∀ x ∈ M, x ≤ 18446744073709551615))
    (HS : Hid (Strs W C m1 ss)) (Hs : Hid (∀ s ∈ ss, s.size ≤ 140737488351232)) (hm1 : m1 ≤ 8796093021952) (HT : Hid (Strs W D m2 tt)) (Ht : Hid (∀ s ∈ tt, s.size ≤ 140737488351232)) (hm2 : m2 ≤ 8796093021952) :
    Calls Try.prog 6 #[.slice A n1 c1, .slice B n2 c2, .slice C m1 c3, .slice D m2 c4] W fun e w' => e = .returned (.bool true) ∧ Below W.heap.size W w' := by
  have HLS := Lib.hid HS.out.len
  have HLT := Lib.hid HT.out.len
  have HLN := Lib.hid HA.out.len
  have HLM := Lib.hid HE.out.len
  go_enter Try.func6, Try.ntmps6
  go_wp2_with fail
  go_loop [9, 10] (fun nv iv => ∃ (i c : Nat), i ≤ m1 + m2 ∧ iv = .int .i64 i ∧ nv = .int .i64 c ∧ c ≤ 140737488400000 ∧ Hid (c = tot ((ss ++ tt).take i))) (fun _ iv => m1 + m2 - (intOf iv).toNat)
  case atStart => exact ⟨0, 0, Nat.zero_le _, rfl, rfl, by decide, by show _ = _; rfl⟩
  case round =>
    obtain ⟨i, c, hi, rfl, rfl, hc, HC⟩ := hrel
    by_cases hlt : i < m1 + m2
    · by_cases hcl : c < 8192
      · have hil : i < (ss ++ tt).length := by rw [List.length_append, HLS.out, HLT.out]; exact hlt
        by_cases h1 : i < m1
        · have hil' : i < ss.length := by rw [HLS.out]; exact h1
          obtain ⟨b, off, rfl, hbl, hcell⟩ := HS.out.cell i hil'
          obtain ⟨s, hse⟩ : ∃ s, ss[i] = s := ⟨_, rfl⟩
          rw [hse] at hcell
          have hsz : s.size ≤ 140737488351232 := by rw [← hse]; exact Hs.out _ (List.getElem_mem hil')
          have HX : Hid (c + 1 + s.size = tot ((ss ++ tt).take (i + 1))) := by show _ = _; rw [tot_snoc (ss ++ tt) i hil, List.getElem_append_left hil', hse, HC.out]
          clear hse HC
          go_wp2_with fail
          go_round
          case rel => exact ⟨i + 1, c + 1 + s.size, by omega, by go_num, by go_num, by omega, HX⟩
          case measure => simp [intOf]; omega
        · have hjl : i - m1 < tt.length := by rw [HLT.out]; omega
          obtain ⟨b, off, rfl, hbl, hcell⟩ := HT.out.cell (i - m1) hjl
          obtain ⟨s, hse⟩ : ∃ s, tt[i - m1] = s := ⟨_, rfl⟩
          rw [hse] at hcell
          have hsz : s.size ≤ 140737488351232 := by rw [← hse]; exact Ht.out _ (List.getElem_mem hjl)
          have HX : Hid (c + 1 + s.size = tot ((ss ++ tt).take (i + 1))) := by
            show _ = _
            rw [tot_snoc (ss ++ tt) i hil, List.getElem_append_right (by rw [HLS.out]; omega), ← HC.out]
            simp only [HLS.out, hse]
          have hsub : ((i : Int) - (m1 : Int)) = ((i - m1 : Nat) : Int) := by omega
          have hjm : i - m1 < m2 := by omega
          clear hse HC
          go_wp2_with fail
          go_round
          case rel => exact ⟨i + 1, c + 1 + s.size, by omega, by go_num, by go_num, by omega, HX⟩
          case measure => simp [intOf]; omega
      · have HB : Below W.heap.size W W := Below.refl _ _
        by_cases hn1 : 200 < n1
        · skip
          go_wp2_with (go_at_call 8; refine (alive_any _).mono ?_; rintro e w' ⟨rfl, hb⟩; replace HB := HB.trans (hb.mono HB.size); clear hb)
          go_ret
          exact ⟨rfl, HB⟩
        · by_cases hn2 : 200 < n2
          all_goals
            go_wp2_with (go_at_call 8; refine (alive_any _).mono ?_; rintro e w' ⟨rfl, hb⟩; replace HB := HB.trans (hb.mono HB.size); clear hb)
            go_ret
            exact ⟨rfl, HB⟩
    · by_cases hcl : c < 8192
      · have HB : Below W.heap.size W W := Below.refl _ _
        by_cases hn1 : 200 < n1
        · skip
          go_wp2_with (go_at_call 8; refine (alive_any _).mono ?_; rintro e w' ⟨rfl, hb⟩; replace HB := HB.trans (hb.mono HB.size); clear hb)
          go_ret
          exact ⟨rfl, HB⟩
        · by_cases hn2 : 200 < n2
          · skip
            go_wp2_with (go_at_call 8; refine (alive_any _).mono ?_; rintro e w' ⟨rfl, hb⟩; replace HB := HB.trans (hb.mono HB.size); clear hb)
            go_ret
            exact ⟨rfl, HB⟩
          · have HC' : Hid (c = tot ss + tot tt) := by
              have h := HC.out
              rw [List.take_of_length_le (by rw [List.length_append, HLS.out, HLT.out]; omega), tot_app] at h
              exact h
            have HK : Hid (n1 ≤ 200 ∧ n2 ≤ 200 ∧ m1 ≤ 8192 ∧ m2 ≤ 8192) := by
              have h1 := tot_len ss
              have h2 := tot_len tt
              have h3 := HC'.out
              rw [HLS.out] at h1
              rw [HLT.out] at h2
              exact ⟨by omega, by omega, by omega, by omega⟩
            have HZ : Hid ((txs ss).length ≤ 81920 ∧ (txs tt).length ≤ 81920) := by
              have h1 := txs_tot ss
              have h2 := txs_tot tt
              have h3 := HC'.out
              exact ⟨by omega, by omega⟩
            have HU : Hid (∀ s ∈ ss, s.size < 8192) := fun s hs => by
              have h1 := tot_mem hs
              have h3 := HC'.out
              omega
            have HV : Hid (∀ s ∈ tt, s.size < 8192) := fun s hs => by
              have h1 := tot_mem hs
              have h3 := HC'.out
              omega
            have HB1 := Lib.hid HB
            clear HC HC' HB
            go_wp2_with fail
            go_loopw [11, 12] (fun sv iv wv => ∃ (i : Nat) (sm : Bool), i ≤ n1 ∧ iv = .int .i64 i ∧ sv = .bool sm ∧ Hid (Tells sm (n1 = n2 ∧ N.take i = M.take i)) ∧ Hid (Below W.heap.size W wv)) (fun _ iv _ => n1 - (intOf iv).toNat)
            case atStart => exact ⟨0, decide (n1 = n2), Nat.zero_le _, rfl, congrArg Value.bool (by first | (rw [Bool.eq_iff_iff]; done) | (rw [Bool.eq_iff_iff]; simp; done) | (rw [Bool.eq_iff_iff]; simp; omega)), by show _ ↔ _; simp, HB1⟩
            case round =>
              clear HB1
              obtain ⟨i, sm, hi, rfl, rfl, HF, HB⟩ := hrel
              by_cases hlt : i < n1
              · cases sm with
                | true =>
                  obtain ⟨hle, htk⟩ := HF.out.1 rfl
                  have hil : i < N.length := by rw [HLN.out]; exact hlt
                  have hjl : i < M.length := by rw [HLM.out]; omega
                  obtain ⟨b1, o1, rfl, hb1, hc1⟩ := HA.out.cell i hil
                  obtain ⟨b2, o2, rfl, hb2, hc2⟩ := HE.out.cell i hjl
                  have HX := Lib.hid (take_next hil hjl htk)
                  obtain ⟨x, hx⟩ : ∃ x, N[i] = x := ⟨_, rfl⟩
                  obtain ⟨y, hy⟩ : ∃ y, M[i] = y := ⟨_, rfl⟩
                  rw [hx] at hc1
                  rw [hy] at hc2
                  rw [hx, hy] at HX
                  have hw1 := (HB.out.cell (p := ⟨b1, o1 + i, none⟩) hb1).trans hc1
                  have hw2 := (HB.out.cell (p := ⟨b2, o2 + i, none⟩) hb2).trans hc2
                  have him : i < n2 := by omega
                  have HLE := Lib.hid hle
                  clear hx hy hc1 hc2 hb1 hb2 htk HF hle
                  by_cases he : x = y
                  · have HF2 : Hid (Tells true (n1 = n2 ∧ N.take (i + 1) = M.take (i + 1))) := iff_of_true rfl ⟨HLE.out, HX.out.2 he⟩
                    clear HX
                    subst he
                    go_wp2_with fail
                    go_quiet (fail)
                    have HB2 : Hid (Below W.heap.size W (wr.drewN nq)) := below_drewN HB.out _
                    clear HB
                    go_wp2_with fail
                    go_roundw
                    case rel => exact ⟨i + 1, true, by omega, by go_num, rfl, HF2, HB2⟩
                    case measure => simp [intOf]; omega
                  · have q1 : ((x : Int) == (y : Int)) = false := by rw [beq_eq_false_iff_ne]; omega
                    have q2 : (x == y) = false := by rw [beq_eq_false_iff_ne]; exact he
                    have HF2 : Hid (Tells false (n1 = n2 ∧ N.take (i + 1) = M.take (i + 1))) := iff_of_false (by decide) (fun h => he (HX.out.1 h.2))
                    clear he HX
                    go_wp2_with fail
                    go_quiet (fail)
                    have HB2 : Hid (Below W.heap.size W (wr.drewN nq)) := below_drewN HB.out _
                    clear HB
                    go_wp2_with fail
                    go_roundw
                    case rel => exact ⟨i + 1, false, by omega, by go_num, rfl, HF2, HB2⟩
                    case measure => simp [intOf]; omega
                | false =>
                  have HSM : Hid (Tells false (N = M)) := by
                    refine iff_of_false (by decide) ?_
                    intro h
                    exact absurd (HF.out.2 ⟨by rw [← HLN.out, ← HLM.out, h], by rw [h]⟩) (by decide)
                  clear HF
                  go_wp2_with fail
                  clear hlt hi
                  go_loopw [13, 14] (fun sv iv wv => ∃ (i : Nat) (fm : Bool), i ≤ m1 ∧ iv = .int .i64 i ∧ sv = .bool fm ∧ Hid (Tells fm (m1 ≤ m2 ∧ ss.take i = tt.take i)) ∧ Hid (Below W.heap.size W wv)) (fun _ iv _ => m1 - (intOf iv).toNat)
                  case atStart => exact ⟨0, decide (m1 ≤ m2), Nat.zero_le _, rfl, congrArg Value.bool (by first | (rw [Bool.eq_iff_iff]; done) | (rw [Bool.eq_iff_iff]; simp; done) | (rw [Bool.eq_iff_iff]; simp; omega)), by show _ ↔ _; simp, HB⟩
                  case round =>
                    clear HB
                    obtain ⟨i, fm, hi, rfl, rfl, HF, HB⟩ := hrel
                    by_cases hlt : i < m1
                    · cases fm with
                      | true =>
                        obtain ⟨hle, htk⟩ := HF.out.1 rfl
                        have hil : i < ss.length := by rw [HLS.out]; exact hlt
                        have hjl : i < tt.length := by rw [HLT.out]; omega
                        obtain ⟨b1, o1, rfl, hb1, hc1⟩ := HS.out.cell i hil
                        obtain ⟨b2, o2, rfl, hb2, hc2⟩ := HT.out.cell i hjl
                        have HN := Lib.hid (take_next hil hjl htk)
                        obtain ⟨x, hx⟩ : ∃ x, ss[i] = x := ⟨_, rfl⟩
                        obtain ⟨y, hy⟩ : ∃ y, tt[i] = y := ⟨_, rfl⟩
                        rw [hx] at hc1
                        rw [hy] at hc2
                        rw [hx, hy] at HN
                        have hw1 := (HB.out.cell (p := ⟨b1, o1 + i, none⟩) hb1).trans hc1
                        have hw2 := (HB.out.cell (p := ⟨b2, o2 + i, none⟩) hb2).trans hc2
                        have him : i < m2 := by omega
                        clear hx hy hc1 hc2 hb1 hb2 htk HF
                        by_cases he : x = y
                        · have q : (x.toList == y.toList) = true := by rw [he]; exact beq_self_eq_true _
                          have HF2 : Hid (Tells true (m1 ≤ m2 ∧ ss.take (i + 1) = tt.take (i + 1))) := iff_of_true rfl ⟨hle, HN.out.2 he⟩
                          clear he HN hle
                          go_wp2_with fail
                          go_quiet (fail)
                          have HB2 : Hid (Below W.heap.size W (wr.drewN nq)) := below_drewN HB.out _
                          clear HB
                          go_wp2_with fail
                          go_roundw
                          case rel => exact ⟨i + 1, true, by omega, by go_num, rfl, HF2, HB2⟩
                          case measure => simp [intOf]; omega
                        · have q : (x.toList == y.toList) = false := by
                            rw [beq_eq_false_iff_ne]
                            intro e
                            rw [Lib.toList_data, Lib.toList_data] at e
                            exact he (bytes_inj e)
                          have HF2 : Hid (Tells false (m1 ≤ m2 ∧ ss.take (i + 1) = tt.take (i + 1))) := iff_of_false (by decide) (fun h => he (HN.out.1 h.2))
                          clear he HN hle
                          go_wp2_with fail
                          go_quiet (fail)
                          have HB2 : Hid (Below W.heap.size W (wr.drewN nq)) := below_drewN HB.out _
                          clear HB
                          go_wp2_with fail
                          go_roundw
                          case rel => exact ⟨i + 1, false, by omega, by go_num, rfl, HF2, HB2⟩
                          case measure => simp [intOf]; omega
                      | false =>
                        have HFM : Hid (Tells false (ss.length ≤ tt.length ∧ ss = tt.take ss.length)) := by
                          refine iff_of_false (by decide) ?_
                          rintro ⟨h1, h2⟩
                          refine absurd (HF.out.2 ⟨by rw [← HLS.out, ← HLT.out]; exact h1, ?_⟩) (by decide)
                          conv => lhs; rw [h2]
                          rw [List.take_take, Nat.min_eq_left (by rw [HLS.out]; omega)]
                        clear HF
                        obtain ⟨Y1, hY1⟩ : ∃ X, str (txs ss) = X := ⟨_, rfl⟩
                        obtain ⟨Y2, hY2⟩ : ∃ X, str (txs tt) = X := ⟨_, rfl⟩
                        obtain ⟨X1, hX1⟩ : ∃ X, str (cat N) = X := ⟨_, rfl⟩
                        obtain ⟨X2, hX2⟩ : ∃ X, str (cat M) = X := ⟨_, rfl⟩
                        have p1 := apart_nums N M HN.out HM.out X1 X2 hX1 hX2 _ HSM.out
                        obtain ⟨q1, q2, q3⟩ := apart_pre ss tt HU.out HV.out Y1 Y2 hY1 hY2 _ HFM.out
                        have hz1 : Y1.size ≤ 81920 := by rw [← hY1, str_size]; exact HZ.out.1
                        have hz2 : Y2.size ≤ 81920 := by rw [← hY2, str_size]; exact HZ.out.2
                        have HY1 := Lib.hid hY1
                        have HY2 := Lib.hid hY2
                        have HX1 := Lib.hid hX1
                        have HX2 := Lib.hid hX2
                        have P1 := Lib.hid p1
                        have Q1 := Lib.hid q1
                        have Q2 := Lib.hid q2
                        have Q3 := Lib.hid q3
                        clear hX1 hX2 hY1 hY2 p1 q1 q2 q3 HSM HFM
                        go_wp2_with fail
                        refine (Texts_at C m1 c3 ss (by have := HK.out; omega) (by have := HZ.out; omega) _ (HS.out.below' HB.out) Y1 HY1).mono ?_
                        rintro e w1 ⟨rfl, hb1⟩
                        have HB1 := Lib.hid (HB.out.trans (hb1.mono HB.out.size))
                        clear hb1 HB
                        go_wp2_with fail
                        refine (Texts_at D m2 c4 tt (by have := HK.out; omega) (by have := HZ.out; omega) _ (HT.out.below' HB1.out) Y2 HY2).mono ?_
                        rintro e w2 ⟨rfl, hb2⟩
                        have HB2 := Lib.hid (HB1.out.trans (hb2.mono HB1.out.size))
                        clear hb2 HB1
                        go_wp2_with fail
                        refine (Nums_at A n1 c1 N (by have := HK.out; omega) _ (HA.out.below' HB2.out) HN X1 HX1).mono ?_
                        rintro e w3 ⟨rfl, hb3⟩
                        have HB3 := Lib.hid (HB2.out.trans (hb3.mono HB2.out.size))
                        clear hb3 HB2
                        go_wp2_with fail
                        refine (Nums_at B n2 c2 M (by have := HK.out; omega) _ (HE.out.below' HB3.out) HM X2 HX2).mono ?_
                        rintro e w4 ⟨rfl, hb4⟩
                        have HB4 := Lib.hid (HB3.out.trans (hb4.mono HB3.out.size))
                        clear hb4 HB3
                        have p1 := P1.out
                        by_cases hz : Y1.size ≤ Y2.size
                        · have p2 := Q2.out hz
                          have p3 : (Y1.toList == Y2.toList) = false := Q3.out
                          clear Q1 Q2 Q3 P1 HY1 HY2 HX1 HX2
                          go_wp2_with fail
                          refine (alive_any _).mono ?_
                          rintro e w5 ⟨rfl, hb5⟩
                          have HB5 := HB4.out.trans (hb5.mono HB4.out.size)
                          clear hb5 HB4
                          go_wp2_with fail
                          go_ret
                          exact ⟨rfl, HB5⟩
                        · have p3 : (Y1.toList == Y2.toList) = false := Q3.out
                          clear Q1 Q2 Q3 P1 HY1 HY2 HX1 HX2
                          go_wp2_with fail
                          refine (alive_any _).mono ?_
                          rintro e w5 ⟨rfl, hb5⟩
                          have HB5 := HB4.out.trans (hb5.mono HB4.out.size)
                          clear hb5 HB4
                          go_wp2_with fail
                          go_ret
                          exact ⟨rfl, HB5⟩
                    · have HF2 : Hid (Tells fm (ss.length ≤ tt.length ∧ ss = tt.take ss.length)) := by
                        refine HF.out.trans ?_
                        rw [HLS.out, HLT.out, List.take_of_length_le (by rw [HLS.out]; omega), show i = m1 by omega]
                      clear HF
                      cases fm with
                      | true =>
                        have HFM := HF2
                        clear HF2
                        obtain ⟨Y1, hY1⟩ : ∃ X, str (txs ss) = X := ⟨_, rfl⟩
                        obtain ⟨Y2, hY2⟩ : ∃ X, str (txs tt) = X := ⟨_, rfl⟩
                        obtain ⟨X1, hX1⟩ : ∃ X, str (cat N) = X := ⟨_, rfl⟩
                        obtain ⟨X2, hX2⟩ : ∃ X, str (cat M) = X := ⟨_, rfl⟩
                        have p1 := apart_nums N M HN.out HM.out X1 X2 hX1 hX2 _ HSM.out
                        obtain ⟨q1, q2, q3⟩ := apart_pre ss tt HU.out HV.out Y1 Y2 hY1 hY2 _ HFM.out
                        have hz1 : Y1.size ≤ 81920 := by rw [← hY1, str_size]; exact HZ.out.1
                        have hz2 : Y2.size ≤ 81920 := by rw [← hY2, str_size]; exact HZ.out.2
                        have HY1 := Lib.hid hY1
                        have HY2 := Lib.hid hY2
                        have HX1 := Lib.hid hX1
                        have HX2 := Lib.hid hX2
                        have P1 := Lib.hid p1
                        have Q1 := Lib.hid q1
                        have Q2 := Lib.hid q2
                        have Q3 := Lib.hid q3
                        clear hX1 hX2 hY1 hY2 p1 q1 q2 q3 HSM HFM
                        go_wp2_with fail
                        refine (Texts_at C m1 c3 ss (by have := HK.out; omega) (by have := HZ.out; omega) _ (HS.out.below' HB.out) Y1 HY1).mono ?_
                        rintro e w1 ⟨rfl, hb1⟩
                        have HB1 := Lib.hid (HB.out.trans (hb1.mono HB.out.size))
                        clear hb1 HB
                        go_wp2_with fail
                        refine (Texts_at D m2 c4 tt (by have := HK.out; omega) (by have := HZ.out; omega) _ (HT.out.below' HB1.out) Y2 HY2).mono ?_
                        rintro e w2 ⟨rfl, hb2⟩
                        have HB2 := Lib.hid (HB1.out.trans (hb2.mono HB1.out.size))
                        clear hb2 HB1
                        go_wp2_with fail
                        refine (Nums_at A n1 c1 N (by have := HK.out; omega) _ (HA.out.below' HB2.out) HN X1 HX1).mono ?_
                        rintro e w3 ⟨rfl, hb3⟩
                        have HB3 := Lib.hid (HB2.out.trans (hb3.mono HB2.out.size))
                        clear hb3 HB2
                        go_wp2_with fail
                        refine (Nums_at B n2 c2 M (by have := HK.out; omega) _ (HE.out.below' HB3.out) HM X2 HX2).mono ?_
                        rintro e w4 ⟨rfl, hb4⟩
                        have HB4 := Lib.hid (HB3.out.trans (hb4.mono HB3.out.size))
                        clear hb4 HB3
                        have p1 := P1.out
                        by_cases hz : Y1.size ≤ Y2.size
                        · have p2 := Q2.out hz
                          have p3 : (Y1.toList == Y2.toList) = ((m1 : Int) == (m2 : Int)) := by rw [Q3.out, Bool.true_and, Bool.eq_iff_iff, decide_eq_true_iff, beq_iff_eq]; have := HLS.out; have := HLT.out; omega
                          clear Q1 Q2 Q3 P1 HY1 HY2 HX1 HX2
                          go_wp2_with fail
                          refine (alive_any _).mono ?_
                          rintro e w5 ⟨rfl, hb5⟩
                          have HB5 := HB4.out.trans (hb5.mono HB4.out.size)
                          clear hb5 HB4
                          go_wp2_with fail
                          go_ret
                          exact ⟨rfl, HB5⟩
                        · first | exact absurd (Q1.out rfl) hz | exact absurd (Q1.out trivial) hz
                      | false =>
                        have HFM := HF2
                        clear HF2
                        obtain ⟨Y1, hY1⟩ : ∃ X, str (txs ss) = X := ⟨_, rfl⟩
                        obtain ⟨Y2, hY2⟩ : ∃ X, str (txs tt) = X := ⟨_, rfl⟩
                        obtain ⟨X1, hX1⟩ : ∃ X, str (cat N) = X := ⟨_, rfl⟩
                        obtain ⟨X2, hX2⟩ : ∃ X, str (cat M) = X := ⟨_, rfl⟩
                        have p1 := apart_nums N M HN.out HM.out X1 X2 hX1 hX2 _ HSM.out
                        obtain ⟨q1, q2, q3⟩ := apart_pre ss tt HU.out HV.out Y1 Y2 hY1 hY2 _ HFM.out
                        have hz1 : Y1.size ≤ 81920 := by rw [← hY1, str_size]; exact HZ.out.1
                        have hz2 : Y2.size ≤ 81920 := by rw [← hY2, str_size]; exact HZ.out.2
                        have HY1 := Lib.hid hY1
                        have HY2 := Lib.hid hY2
                        have HX1 := Lib.hid hX1
                        have HX2 := Lib.hid hX2
                        have P1 := Lib.hid p1
                        have Q1 := Lib.hid q1
                        have Q2 := Lib.hid q2
                        have Q3 := Lib.hid q3
                        clear hX1 hX2 hY1 hY2 p1 q1 q2 q3 HSM HFM
                        go_wp2_with fail
                        refine (Texts_at C m1 c3 ss (by have := HK.out; omega) (by have := HZ.out; omega) _ (HS.out.below' HB.out) Y1 HY1).mono ?_
                        rintro e w1 ⟨rfl, hb1⟩
                        have HB1 := Lib.hid (HB.out.trans (hb1.mono HB.out.size))
                        clear hb1 HB
                        go_wp2_with fail
                        refine (Texts_at D m2 c4 tt (by have := HK.out; omega) (by have := HZ.out; omega) _ (HT.out.below' HB1.out) Y2 HY2).mono ?_
                        rintro e w2 ⟨rfl, hb2⟩
                        have HB2 := Lib.hid (HB1.out.trans (hb2.mono HB1.out.size))
                        clear hb2 HB1
                        go_wp2_with fail
                        refine (Nums_at A n1 c1 N (by have := HK.out; omega) _ (HA.out.below' HB2.out) HN X1 HX1).mono ?_
                        rintro e w3 ⟨rfl, hb3⟩
                        have HB3 := Lib.hid (HB2.out.trans (hb3.mono HB2.out.size))
                        clear hb3 HB2
                        go_wp2_with fail
                        refine (Nums_at B n2 c2 M (by have := HK.out; omega) _ (HE.out.below' HB3.out) HM X2 HX2).mono ?_
                        rintro e w4 ⟨rfl, hb4⟩
                        have HB4 := Lib.hid (HB3.out.trans (hb4.mono HB3.out.size))
                        clear hb4 HB3
                        have p1 := P1.out
                        by_cases hz : Y1.size ≤ Y2.size
                        · have p2 := Q2.out hz
                          have p3 : (Y1.toList == Y2.toList) = false := Q3.out
                          clear Q1 Q2 Q3 P1 HY1 HY2 HX1 HX2
                          go_wp2_with fail
                          refine (alive_any _).mono ?_
                          rintro e w5 ⟨rfl, hb5⟩
                          have HB5 := HB4.out.trans (hb5.mono HB4.out.size)
                          clear hb5 HB4
                          go_wp2_with fail
                          go_ret
                          exact ⟨rfl, HB5⟩
                        · have p3 : (Y1.toList == Y2.toList) = false := Q3.out
                          clear Q1 Q2 Q3 P1 HY1 HY2 HX1 HX2
                          go_wp2_with fail
                          refine (alive_any _).mono ?_
                          rintro e w5 ⟨rfl, hb5⟩
                          have HB5 := HB4.out.trans (hb5.mono HB4.out.size)
                          clear hb5 HB4
                          go_wp2_with fail
                          go_ret
                          exact ⟨rfl, HB5⟩
              · have HSM : Hid (Tells sm (N = M)) := by
                  refine HF.out.trans ?_
                  rw [List.take_of_length_le (l := N) (by rw [HLN.out]; omega)]
                  constructor
                  · rintro ⟨h1, h2⟩
                    rw [List.take_of_length_le (by rw [HLM.out]; omega)] at h2
                    exact h2
                  · intro h
                    have h1 : n1 = n2 := by rw [← HLN.out, ← HLM.out, h]
                    exact ⟨h1, by rw [List.take_of_length_le (by rw [HLM.out]; omega)]; exact h⟩
                clear HF
                go_wp2_with fail
                clear hlt hi
                go_loopw [13, 14] (fun sv iv wv => ∃ (i : Nat) (fm : Bool), i ≤ m1 ∧ iv = .int .i64 i ∧ sv = .bool fm ∧ Hid (Tells fm (m1 ≤ m2 ∧ ss.take i = tt.take i)) ∧ Hid (Below W.heap.size W wv)) (fun _ iv _ => m1 - (intOf iv).toNat)
                case atStart => exact ⟨0, decide (m1 ≤ m2), Nat.zero_le _, rfl, congrArg Value.bool (by first | (rw [Bool.eq_iff_iff]; done) | (rw [Bool.eq_iff_iff]; simp; done) | (rw [Bool.eq_iff_iff]; simp; omega)), by show _ ↔ _; simp, HB⟩
                case round =>
                  clear HB
                  obtain ⟨i, fm, hi, rfl, rfl, HF, HB⟩ := hrel
                  by_cases hlt : i < m1
                  · cases fm with
                    | true =>
                      obtain ⟨hle, htk⟩ := HF.out.1 rfl
                      have hil : i < ss.length := by rw [HLS.out]; exact hlt
                      have hjl : i < tt.length := by rw [HLT.out]; omega
                      obtain ⟨b1, o1, rfl, hb1, hc1⟩ := HS.out.cell i hil
                      obtain ⟨b2, o2, rfl, hb2, hc2⟩ := HT.out.cell i hjl
                      have HN := Lib.hid (take_next hil hjl htk)
                      obtain ⟨x, hx⟩ : ∃ x, ss[i] = x := ⟨_, rfl⟩
                      obtain ⟨y, hy⟩ : ∃ y, tt[i] = y := ⟨_, rfl⟩
                      rw [hx] at hc1
                      rw [hy] at hc2
                      rw [hx, hy] at HN
                      have hw1 := (HB.out.cell (p := ⟨b1, o1 + i, none⟩) hb1).trans hc1
                      have hw2 := (HB.out.cell (p := ⟨b2, o2 + i, none⟩) hb2).trans hc2
                      have him : i < m2 := by omega
                      clear hx hy hc1 hc2 hb1 hb2 htk HF
                      by_cases he : x = y
                      · have q : (x.toList == y.toList) = true := by rw [he]; exact beq_self_eq_true _
                        have HF2 : Hid (Tells true (m1 ≤ m2 ∧ ss.take (i + 1) = tt.take (i + 1))) := iff_of_true rfl ⟨hle, HN.out.2 he⟩
                        clear he HN hle
                        go_wp2_with fail
                        go_quiet (fail)
                        have HB2 : Hid (Below W.heap.size W (wr.drewN nq)) := below_drewN HB.out _
                        clear HB
                        go_wp2_with fail
                        go_roundw
                        case rel => exact ⟨i + 1, true, by omega, by go_num, rfl, HF2, HB2⟩
                        case measure => simp [intOf]; omega
                      · have q : (x.toList == y.toList) = false := by
                          rw [beq_eq_false_iff_ne]
                          intro e
                          rw [Lib.toList_data, Lib.toList_data] at e
                          exact he (bytes_inj e)
                        have HF2 : Hid (Tells false (m1 ≤ m2 ∧ ss.take (i + 1) = tt.take (i + 1))) := iff_of_false (by decide) (fun h => he (HN.out.1 h.2))
                        clear he HN hle
                        go_wp2_with fail
                        go_quiet (fail)
                        have HB2 : Hid (Below W.heap.size W (wr.drewN nq)) := below_drewN HB.out _
                        clear HB
                        go_wp2_with fail
                        go_roundw
                        case rel => exact ⟨i + 1, false, by omega, by go_num, rfl, HF2, HB2⟩
                        case measure => simp [intOf]; omega
                    | false =>
                      have HFM : Hid (Tells false (ss.length ≤ tt.length ∧ ss = tt.take ss.length)) := by
                        refine iff_of_false (by decide) ?_
                        rintro ⟨h1, h2⟩
                        refine absurd (HF.out.2 ⟨by rw [← HLS.out, ← HLT.out]; exact h1, ?_⟩) (by decide)
                        conv => lhs; rw [h2]
                        rw [List.take_take, Nat.min_eq_left (by rw [HLS.out]; omega)]
                      clear HF
                      obtain ⟨Y1, hY1⟩ : ∃ X, str (txs ss) = X := ⟨_, rfl⟩
                      obtain ⟨Y2, hY2⟩ : ∃ X, str (txs tt) = X := ⟨_, rfl⟩
                      obtain ⟨X1, hX1⟩ : ∃ X, str (cat N) = X := ⟨_, rfl⟩
                      obtain ⟨X2, hX2⟩ : ∃ X, str (cat M) = X := ⟨_, rfl⟩
                      have p1 := apart_nums N M HN.out HM.out X1 X2 hX1 hX2 _ HSM.out
                      obtain ⟨q1, q2, q3⟩ := apart_pre ss tt HU.out HV.out Y1 Y2 hY1 hY2 _ HFM.out
                      have hz1 : Y1.size ≤ 81920 := by rw [← hY1, str_size]; exact HZ.out.1
                      have hz2 : Y2.size ≤ 81920 := by rw [← hY2, str_size]; exact HZ.out.2
                      have HY1 := Lib.hid hY1
                      have HY2 := Lib.hid hY2
                      have HX1 := Lib.hid hX1
                      have HX2 := Lib.hid hX2
                      have P1 := Lib.hid p1
                      have Q1 := Lib.hid q1
                      have Q2 := Lib.hid q2
                      have Q3 := Lib.hid q3
                      clear hX1 hX2 hY1 hY2 p1 q1 q2 q3 HSM HFM
                      go_wp2_with fail
                      refine (Texts_at C m1 c3 ss (by have := HK.out; omega) (by have := HZ.out; omega) _ (HS.out.below' HB.out) Y1 HY1).mono ?_
                      rintro e w1 ⟨rfl, hb1⟩
                      have HB1 := Lib.hid (HB.out.trans (hb1.mono HB.out.size))
                      clear hb1 HB
                      go_wp2_with fail
                      refine (Texts_at D m2 c4 tt (by have := HK.out; omega) (by have := HZ.out; omega) _ (HT.out.below' HB1.out) Y2 HY2).mono ?_
                      rintro e w2 ⟨rfl, hb2⟩
                      have HB2 := Lib.hid (HB1.out.trans (hb2.mono HB1.out.size))
                      clear hb2 HB1
                      go_wp2_with fail
                      refine (Nums_at A n1 c1 N (by have := HK.out; omega) _ (HA.out.below' HB2.out) HN X1 HX1).mono ?_
                      rintro e w3 ⟨rfl, hb3⟩
                      have HB3 := Lib.hid (HB2.out.trans (hb3.mono HB2.out.size))
                      clear hb3 HB2
                      go_wp2_with fail
                      refine (Nums_at B n2 c2 M (by have := HK.out; omega) _ (HE.out.below' HB3.out) HM X2 HX2).mono ?_
                      rintro e w4 ⟨rfl, hb4⟩
                      have HB4 := Lib.hid (HB3.out.trans (hb4.mono HB3.out.size))
                      clear hb4 HB3
                      have p1 := P1.out
                      by_cases hz : Y1.size ≤ Y2.size
                      · have p2 := Q2.out hz
                        have p3 : (Y1.toList == Y2.toList) = false := Q3.out
                        clear Q1 Q2 Q3 P1 HY1 HY2 HX1 HX2
                        go_wp2_with fail
                        refine (alive_any _).mono ?_
                        rintro e w5 ⟨rfl, hb5⟩
                        have HB5 := HB4.out.trans (hb5.mono HB4.out.size)
                        clear hb5 HB4
                        go_wp2_with fail
                        go_ret
                        exact ⟨rfl, HB5⟩
                      · have p3 : (Y1.toList == Y2.toList) = false := Q3.out
                        clear Q1 Q2 Q3 P1 HY1 HY2 HX1 HX2
                        go_wp2_with fail
                        refine (alive_any _).mono ?_
                        rintro e w5 ⟨rfl, hb5⟩
                        have HB5 := HB4.out.trans (hb5.mono HB4.out.size)
                        clear hb5 HB4
                        go_wp2_with fail
                        go_ret
                        exact ⟨rfl, HB5⟩
                  · have HF2 : Hid (Tells fm (ss.length ≤ tt.length ∧ ss = tt.take ss.length)) := by
                      refine HF.out.trans ?_
                      rw [HLS.out, HLT.out, List.take_of_length_le (by rw [HLS.out]; omega), show i = m1 by omega]
                    clear HF
                    cases fm with
                    | true =>
                      have HFM := HF2
                      clear HF2
                      obtain ⟨Y1, hY1⟩ : ∃ X, str (txs ss) = X := ⟨_, rfl⟩
                      obtain ⟨Y2, hY2⟩ : ∃ X, str (txs tt) = X := ⟨_, rfl⟩
                      obtain ⟨X1, hX1⟩ : ∃ X, str (cat N) = X := ⟨_, rfl⟩
                      obtain ⟨X2, hX2⟩ : ∃ X, str (cat M) = X := ⟨_, rfl⟩
                      have p1 := apart_nums N M HN.out HM.out X1 X2 hX1 hX2 _ HSM.out
                      obtain ⟨q1, q2, q3⟩ := apart_pre ss tt HU.out HV.out Y1 Y2 hY1 hY2 _ HFM.out
                      have hz1 : Y1.size ≤ 81920 := by rw [← hY1, str_size]; exact HZ.out.1
                      have hz2 : Y2.size ≤ 81920 := by rw [← hY2, str_size]; exact HZ.out.2
                      have HY1 := Lib.hid hY1
                      have HY2 := Lib.hid hY2
                      have HX1 := Lib.hid hX1
                      have HX2 := Lib.hid hX2
                      have P1 := Lib.hid p1
                      have Q1 := Lib.hid q1
                      have Q2 := Lib.hid q2
                      have Q3 := Lib.hid q3
                      clear hX1 hX2 hY1 hY2 p1 q1 q2 q3 HSM HFM
                      go_wp2_with fail
                      refine (Texts_at C m1 c3 ss (by have := HK.out; omega) (by have := HZ.out; omega) _ (HS.out.below' HB.out) Y1 HY1).mono ?_
                      rintro e w1 ⟨rfl, hb1⟩
                      have HB1 := Lib.hid (HB.out.trans (hb1.mono HB.out.size))
                      clear hb1 HB
                      go_wp2_with fail
                      refine (Texts_at D m2 c4 tt (by have := HK.out; omega) (by have := HZ.out; omega) _ (HT.out.below' HB1.out) Y2 HY2).mono ?_
                      rintro e w2 ⟨rfl, hb2⟩
                      have HB2 := Lib.hid (HB1.out.trans (hb2.mono HB1.out.size))
                      clear hb2 HB1
                      go_wp2_with fail
                      refine (Nums_at A n1 c1 N (by have := HK.out; omega) _ (HA.out.below' HB2.out) HN X1 HX1).mono ?_
                      rintro e w3 ⟨rfl, hb3⟩
                      have HB3 := Lib.hid (HB2.out.trans (hb3.mono HB2.out.size))
                      clear hb3 HB2
                      go_wp2_with fail
                      refine (Nums_at B n2 c2 M (by have := HK.out; omega) _ (HE.out.below' HB3.out) HM X2 HX2).mono ?_
                      rintro e w4 ⟨rfl, hb4⟩
                      have HB4 := Lib.hid (HB3.out.trans (hb4.mono HB3.out.size))
                      clear hb4 HB3
                      have p1 := P1.out
                      by_cases hz : Y1.size ≤ Y2.size
                      · have p2 := Q2.out hz
                        have p3 : (Y1.toList == Y2.toList) = ((m1 : Int) == (m2 : Int)) := by rw [Q3.out, Bool.true_and, Bool.eq_iff_iff, decide_eq_true_iff, beq_iff_eq]; have := HLS.out; have := HLT.out; omega
                        clear Q1 Q2 Q3 P1 HY1 HY2 HX1 HX2
                        go_wp2_with fail
                        refine (alive_any _).mono ?_
                        rintro e w5 ⟨rfl, hb5⟩
                        have HB5 := HB4.out.trans (hb5.mono HB4.out.size)
                        clear hb5 HB4
                        go_wp2_with fail
                        go_ret
                        exact ⟨rfl, HB5⟩
                      · first | exact absurd (Q1.out rfl) hz | exact absurd (Q1.out trivial) hz
                    | false =>
                      have HFM := HF2
                      clear HF2
                      obtain ⟨Y1, hY1⟩ : ∃ X, str (txs ss) = X := ⟨_, rfl⟩
                      obtain ⟨Y2, hY2⟩ : ∃ X, str (txs tt) = X := ⟨_, rfl⟩
                      obtain ⟨X1, hX1⟩ : ∃ X, str (cat N) = X := ⟨_, rfl⟩
                      obtain ⟨X2, hX2⟩ : ∃ X, str (cat M) = X := ⟨_, rfl⟩
                      have p1 := apart_nums N M HN.out HM.out X1 X2 hX1 hX2 _ HSM.out
                      obtain ⟨q1, q2, q3⟩ := apart_pre ss tt HU.out HV.out Y1 Y2 hY1 hY2 _ HFM.out
                      have hz1 : Y1.size ≤ 81920 := by rw [← hY1, str_size]; exact HZ.out.1
                      have hz2 : Y2.size ≤ 81920 := by rw [← hY2, str_size]; exact HZ.out.2
                      have HY1 := Lib.hid hY1
                      have HY2 := Lib.hid hY2
                      have HX1 := Lib.hid hX1
                      have HX2 := Lib.hid hX2
                      have P1 := Lib.hid p1
                      have Q1 := Lib.hid q1
                      have Q2 := Lib.hid q2
                      have Q3 := Lib.hid q3
                      clear hX1 hX2 hY1 hY2 p1 q1 q2 q3 HSM HFM
                      go_wp2_with fail
                      refine (Texts_at C m1 c3 ss (by have := HK.out; omega) (by have := HZ.out; omega) _ (HS.out.below' HB.out) Y1 HY1).mono ?_
                      rintro e w1 ⟨rfl, hb1⟩
                      have HB1 := Lib.hid (HB.out.trans (hb1.mono HB.out.size))
                      clear hb1 HB
                      go_wp2_with fail
                      refine (Texts_at D m2 c4 tt (by have := HK.out; omega) (by have := HZ.out; omega) _ (HT.out.below' HB1.out) Y2 HY2).mono ?_
                      rintro e w2 ⟨rfl, hb2⟩
                      have HB2 := Lib.hid (HB1.out.trans (hb2.mono HB1.out.size))
                      clear hb2 HB1
                      go_wp2_with fail
                      refine (Nums_at A n1 c1 N (by have := HK.out; omega) _ (HA.out.below' HB2.out) HN X1 HX1).mono ?_
                      rintro e w3 ⟨rfl, hb3⟩
                      have HB3 := Lib.hid (HB2.out.trans (hb3.mono HB2.out.size))
                      clear hb3 HB2
                      go_wp2_with fail
                      refine (Nums_at B n2 c2 M (by have := HK.out; omega) _ (HE.out.below' HB3.out) HM X2 HX2).mono ?_
                      rintro e w4 ⟨rfl, hb4⟩
                      have HB4 := Lib.hid (HB3.out.trans (hb4.mono HB3.out.size))
                      clear hb4 HB3
                      have p1 := P1.out
                      by_cases hz : Y1.size ≤ Y2.size
                      · have p2 := Q2.out hz
                        have p3 : (Y1.toList == Y2.toList) = false := Q3.out
                        clear Q1 Q2 Q3 P1 HY1 HY2 HX1 HX2
                        go_wp2_with fail
                        refine (alive_any _).mono ?_
                        rintro e w5 ⟨rfl, hb5⟩
                        have HB5 := HB4.out.trans (hb5.mono HB4.out.size)
                        clear hb5 HB4
                        go_wp2_with fail
                        go_ret
                        exact ⟨rfl, HB5⟩
                      · have p3 : (Y1.toList == Y2.toList) = false := Q3.out
                        clear Q1 Q2 Q3 P1 HY1 HY2 HX1 HX2
                        go_wp2_with fail
                        refine (alive_any _).mono ?_
                        rintro e w5 ⟨rfl, hb5⟩
                        have HB5 := HB4.out.trans (hb5.mono HB4.out.size)
                        clear hb5 HB4
                        go_wp2_with fail
                        go_ret
                        exact ⟨rfl, HB5⟩
      · have HB : Below W.heap.size W W := Below.refl _ _
        by_cases hn1 : 200 < n1
        · skip
          go_wp2_with (go_at_call 8; refine (alive_any _).mono ?_; rintro e w' ⟨rfl, hb⟩; replace HB := HB.trans (hb.mono HB.size); clear hb)
          go_ret
          exact ⟨rfl, HB⟩
        · by_cases hn2 : 200 < n2
          all_goals
            go_wp2_with (go_at_call 8; refine (alive_any _).mono ?_; rintro e w' ⟨rfl, hb⟩; replace HB := HB.trans (hb.mono HB.size); clear hb)
            go_ret
            exact ⟨rfl, HB⟩

theorem walk (A : Option Addr) (n1 c1 : Nat) (Z1 : List Int) (B : Option Addr) (n2 c2 : Nat) (Z2 : List Int) (C : Option Addr) (m1 c3 : Nat) (ss : List ByteArray) (D : Option Addr) (m2 c4 : Nat) (tt : List ByteArray) (W : World)
    (h1 : SliceView W .u64 A n1 c1 Z1) (h2 : SliceView W .u64 B n2 c2 Z2) (k1 : StrsView W C m1 c3 ss) (k2 : StrsView W D m2 c4 tt) :
    Calls Try.prog 6 #[.slice A n1 c1, .slice B n2 c2, .slice C m1 c3, .slice D m2 c4] W fun e w' => e = .returned (.bool true) ∧ Below W.heap.size W w' := by
  obtain ⟨N, a1, a2⟩ := ints_of_view h1
  obtain ⟨M, b1, b2⟩ := ints_of_view h2
  exact walk0 A n1 c1 N B n2 c2 M C m1 c3 ss D m2 c4 tt W a1 a2 b1 b2 k1.row k1.short (by have := k1.few; omega) k2.row k2.short (by have := k2.few; omega)

end Go.Proofs.Yteomgaaemlchfaa.wireApart
