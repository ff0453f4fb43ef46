/-
  The walk of the law WireBack. (Written by gen_wb.py.)
-/
import Derived.Test.YteomgaaemlchfaaWAlive
import Derived.Test.YteomgaaemlchfaaWArgs
import Derived.Test.YteomgaaemlchfaaWBack
import Derived.Test.YteomgaaemlchfaaSQTail
import Derived.Orders
import Derived.RegionTactic
namespace Go.Proofs.Yteomgaaemlchfaa.wireBack
open Go.RowKit Go.Sort

theorem tot_mem {ss : List ByteArray} {s : ByteArray} (h : s ∈ ss) : 1 + s.size ≤ tot ss := by
  induction ss with
  | nil => cases h
  | cons a t ih =>
    simp only [tot, List.map_cons, List.sum_cons]
    rcases List.mem_cons.1 h with rfl | h
    · omega
    · have := ih h
      simp only [tot] at this
      omega
theorem below_drewN {B : Nat} {w w' : World} (h : Below B w w') (n : Nat) : Below B w (w'.drewN n) := h.trans ⟨rfl, rfl, rfl, Nat.le_refl _, fun _ _ => rfl⟩

set_option maxRecDepth 100000 in
set_option maxHeartbeats 4000000 in
theorem walk0 (A : Option Addr) (n cap : Nat) (N : List Nat) (B : Option Addr) (m cap' : Nat) (ss : List ByteArray) (t : Bool) (behind : ByteArray) (a : Nat) (W : World) (HS : Hid (Ints W A n N)) (HN : Hid (∀ x ∈ N, x ≤ 18446744073709551615))
    (HT : Hid (Strs W B m ss)) (hs : Hid (∀ s ∈ ss, s.size ≤ 140737488351232)) (hm : m ≤ 140737488351232) (ha : a ≤ 65535) :
    Calls Try.prog 4 #[.slice A n cap, .slice B m cap', .bool t, .string behind, .int .u16 a] W fun e w' => e = .returned (.bool true) ∧ Below W.heap.size W w' := by
  have HL := Lib.hid HT.out.len
  have HLN := Lib.hid HS.out.len
  go_enter Try.func4, Try.ntmps4
  go_wp2_with fail
  go_loop [11, 12] (fun nv iv => ∃ (i c : Nat), i ≤ m ∧ iv = .int .i64 i ∧ nv = .int .i64 c ∧ c ≤ 140737488400000 ∧ Hid (c = tot (ss.take i))) (fun _ iv => m - (intOf iv).toNat)
  case atStart => exact ⟨0, 0, Nat.zero_le _, rfl, rfl, by decide, by show _ = _; rfl⟩
  case round =>
    obtain ⟨i, c, hi, rfl, rfl, hc, HC⟩ := hrel
    by_cases hlt : i < m
    · by_cases hcl : c < 8192
      · have hil : i < ss.length := by rw [HL.out]; exact hlt
        obtain ⟨b, off, rfl, hbl, hcell⟩ := HT.out.cell i hil
        obtain ⟨s, hse⟩ : ∃ s, ss[i] = s := ⟨_, rfl⟩
        rw [hse] at hcell
        have hsz : s.size ≤ 140737488351232 := by rw [← hse]; exact hs.out _ (List.getElem_mem hil)
        have HE : Hid (c + 1 + s.size = tot (ss.take (i + 1))) := by show _ = _; rw [tot_snoc ss i hil, hse, HC.out]
        clear hse HC
        go_wp2_with fail
        go_round
        case rel => exact ⟨i + 1, c + 1 + s.size, by omega, by go_num, by go_num, by omega, HE⟩
        case measure => simp [intOf]; omega
      · have HB : Below W.heap.size W W := Below.refl _ _
        by_cases hn : 200 < n
        all_goals
          go_wp2_with (go_at_call 8; refine (alive_any _).mono ?_; rintro e w' ⟨rfl, hb⟩; replace HB := HB.trans (hb.mono HB.size); clear hb)
          go_ret
          exact ⟨rfl, HB⟩
    · by_cases hcl : c < 8192
      · have HB : Below W.heap.size W W := Below.refl _ _
        by_cases hn : 200 < n
        · skip
          go_wp2_with (go_at_call 8; refine (alive_any _).mono ?_; rintro e w' ⟨rfl, hb⟩; replace HB := HB.trans (hb.mono HB.size); clear hb)
          go_ret
          exact ⟨rfl, HB⟩
        · by_cases hbs : 1024 < behind.size
          · skip
            go_wp2_with (go_at_call 8; refine (alive_any _).mono ?_; rintro e w' ⟨rfl, hb⟩; replace HB := HB.trans (hb.mono HB.size); clear hb)
            go_ret
            exact ⟨rfl, HB⟩
          · have HC' : Hid (c = tot ss) := by
              have h := HC.out
              rw [List.take_of_length_le (by rw [HL.out]; omega)] at h
              exact h
            have hml : m ≤ 8192 := by
              have h1 := tot_len ss
              rw [HL.out, ← HC'.out] at h1
              omega
            have htl : (txs ss).length ≤ 81920 := by
              have h1 := txs_tot ss
              rw [← HC'.out] at h1
              omega
            have hnl : (cat N).length ≤ 2000 := by
              have h1 := cat_len N n
              rw [List.take_of_length_le (by rw [HLN.out]; omega)] at h1
              omega
            have HTot : Hid (∀ s ∈ ss, s.size < 8192) := fun s hs => by
              have h1 := tot_mem hs
              rw [← HC'.out] at h1
              omega
            have HTL := Lib.hid htl
            obtain ⟨X1, hX1⟩ : ∃ X, str (cat N) = X := ⟨_, rfl⟩
            obtain ⟨X2, hX2⟩ : ∃ X, str (txs ss) = X := ⟨_, rfl⟩
            obtain ⟨X3, hX3⟩ : ∃ X, str [if t then 1 else 0] = X := ⟨_, rfl⟩
            have z1 : X1.size ≤ 2000 := by rw [← hX1]; exact hnl
            have z2 : X2.size ≤ 81920 := by rw [← hX2]; exact htl
            have z3 : X3.size = 1 := by rw [← hX3]; rfl
            have HX1 := Lib.hid hX1
            have HX2 := Lib.hid hX2
            have HX3 := Lib.hid hX3
            have HSS : Hid (X1 ++ X2 ++ X3 = str (cat N ++ (txs ss ++ [if t then 1 else 0]))) := by
              show _ = _
              rw [← hX1, ← hX2, ← hX3]
              apply ByteArray.ext
              simp [str]
            clear hX1 hX2 hX3 HC HC' htl hnl
            go_wp2_with fail
            refine (Nums_at A n cap N (by omega) _ HS HN X1 HX1).mono ?_
            rintro e w1 ⟨rfl, hb1⟩
            go_wp2_with fail
            refine (Texts_at B m cap' ss (by omega) (by have := HTL.out; omega) _ (HT.out.below hb1) X2 HX2).mono ?_
            rintro e w2 ⟨rfl, hb2⟩
            have HB2 := hb1.trans (hb2.mono hb1.size)
            clear hb1 hb2 HB
            have z12 : X1.size + X2.size ≤ 83920 := by omega
            have z123 : (X1 ++ X2).size + X3.size ≤ 83921 := by rw [ByteArray.size_append]; omega
            go_wp2_with fail
            refine (Bool_of t _ X3 HX3).mono ?_
            rintro e w3 ⟨rfl, rfl⟩
            go_wp2_with fail
            obtain ⟨S, hS⟩ : ∃ S, X1 ++ X2 ++ X3 = S := ⟨_, rfl⟩
            have hSz : S.size ≤ 83921 := by rw [← hS, ByteArray.size_append, ByteArray.size_append]; omega
            simp only [hS] at HSS ⊢
            have HB2' := Lib.hid HB2
            clear hS z1 z2 z3 z12 z123 HX1 HX2 HX3 HB2 HTL hlt hi hc hcl
            go_loopw [14] (fun yv wv => ∃ y : Nat, y ≤ 2 ∧ yv = .int .i64 y ∧ Hid (Below W.heap.size W wv)) (fun yv _ => 2 - (intOf yv).toNat)
            case atStart => exact ⟨0, by decide, rfl, HB2'⟩
            case round =>
              clear HB2'
              obtain ⟨y, hy, rfl, HB⟩ := hrel
              by_cases h0 : y = 0
              · subst h0
                have hcat : S.size + behind.size ≤ 84945 := by omega
                obtain ⟨Y, hYY⟩ : ∃ Y, Y = behind.data.toList := ⟨_, rfl⟩
                have HYB := Lib.hid hYY
                obtain ⟨d, hd⟩ : ∃ d, d = 0 := ⟨_, rfl⟩
                have HD := Lib.hid hd
                have HY : Hid (d = 0 ∨ Y = []) := Or.inl hd
                obtain ⟨L, hLL⟩ : ∃ L, L = (cat N ++ (txs ss ++ [if t then 1 else 0])) ++ Y := ⟨_, rfl⟩
                have HLL : Hid (str L = S ++ behind) := by
                  show _ = _
                  rw [hLL, HSS.out, hYY]
                  apply ByteArray.ext
                  simp [str]
                have hLn : L.length ≤ 1000000 := by
                  have h1 := congrArg ByteArray.size HLL.out
                  rw [str_size, ByteArray.size_append] at h1
                  omega
                have HJ : Hid (Jst (cat (N.drop 0) ++ (txs ss ++ [if t then 1 else 0])) d Y 0 L) := Or.inl ⟨rfl, by omega, by rw [hd, Nat.sub_zero, List.drop_zero, List.take_length]; exact hLL, hLn⟩
                clear hd hYY hLL hLn
                go_wp2_with fail
                refine (New_of L _ HLL _).mono ?_
                rintro e w4 ⟨g, rfl, hg, hr, hb⟩
                have HG : Hid (W.heap.size ≤ g) := Nat.le_trans HB.out.size hg
                have HR := Lib.hid hr
                have HB1 : Hid (Below W.heap.size W w4) := HB.out.trans (hb.mono HB.out.size)
                clear hg hr hb HB hcat
                have HB := HB1
                clear HB1
                generalize S ++ behind = T at *
                clear HLL
                go_wp2_with fail
                go_loopw [17, 18] (fun sv iv wv => ∃ (i : Nat) (sm : Bool) (er : Nat) (l : List UInt8), i ≤ n ∧ iv = .int .i64 i ∧ sv = .bool sm ∧ Hid (RD g l (er : Nat) wv) ∧ Hid (Jst (cat (N.drop i) ++ (txs ss ++ [if t then 1 else 0])) d Y er l) ∧ Hid (d = 0 → sm = true) ∧ Hid (Below W.heap.size W wv)) (fun _ iv _ => n - (intOf iv).toNat)
                case atStart => exact ⟨0, true, 0, _, Nat.zero_le _, rfl, rfl, HR, HJ, (fun _ => rfl), HB⟩
                case round =>
                  clear HR HJ HB
                  obtain ⟨i, sm, er, l, hi, rfl, rfl, HR, HJ, HSM, HB⟩ := hrel
                  by_cases hlt : i < n
                  ·
                    have hil : i < N.length := by rw [HLN.out]; exact hlt
                    obtain ⟨b, off, rfl, hbl, hc⟩ := HS.out.cell i hil
                    obtain ⟨x, hxe⟩ : ∃ x, N[i] = x := ⟨_, rfl⟩
                    rw [hxe] at hc
                    have hx : x < 18446744073709551616 := by have := HN.out _ (List.getElem_mem hil); rw [hxe] at this; omega
                    obtain ⟨X, hX⟩ : ∃ X, X = cat (N.drop (i + 1)) ++ (txs ss ++ [if t then 1 else 0]) := ⟨_, rfl⟩
                    have HJ2 : Hid (Jst (ub x ++ X) d Y er l) := by
                      have h := HJ.out
                      rw [cat_cons N i hil, hxe, List.append_assoc, ← hX] at h
                      exact h
                    have HXE := Lib.hid hX
                    have HBL := Lib.hid hbl
                    have HC3 : Hid (wr.drew.cell? ⟨b, off + i, none⟩ = some (.int .u64 (x : Nat))) := (HB.out.cell (p := ⟨b, off + i, none⟩) hbl).trans hc
                    have HR3 : Hid (RD g l (er : Nat) wr.drew) := HR.out
                    have HJ3 := HJ2
                    have HB3 : Hid (Below W.heap.size W wr.drew) := HB.out.drew
                    clear hxe hbl hc hX HJ2 HJ HR HB
                    go_wp2_with fail
                    refine wp_region_any (by kernel_rfl) ?_
                    change wpAny _ _ _ _ _ _ _ (World.drew _)
                    generalize wr.drew = w3 at *
                    clear wr
                    refine wpAny_take (i := 0) (v := .pointer (some ⟨g, 0, none⟩)) rfl (by kernel_rfl) (by kernel_rfl) (by kernel_rfl) (fun _ _ _ h => h) (Or.inl ⟨by kernel_rfl, ?_⟩) ?_
                    · intro w; go_simp
                    refine wpAny_take (i := 2) (v := .slice (some ⟨b, off, none⟩) n cap) rfl (by kernel_rfl) (by kernel_rfl) (by kernel_rfl) (fun _ _ _ h => h) (Or.inl ⟨by kernel_rfl, ?_⟩) ?_
                    · intro w; go_simp
                    refine wpAny_take (i := 3) (v := .int .i64 (i : Nat)) rfl (by kernel_rfl) (by kernel_rfl) (by kernel_rfl) (fun _ _ _ h => h) (Or.inl ⟨by kernel_rfl, ?_⟩) ?_
                    · intro w; go_simp
                    refine wpAny_take (i := 4) (v := .pointer (some ⟨b, off + i, none⟩)) rfl (by kernel_rfl) (by kernel_rfl) (by kernel_rfl) (fun _ _ _ h => h) (Or.inl ⟨by kernel_rfl, ?_⟩) ?_
                    · intro w; go_simp
                    refine wpAny_ready (rs := [1, 5]) (by kernel_rfl) (by simp) ?_
                    refine AllReady.cons rfl (fun K hK => ?_) (AllReady.cons rfl (fun K hK => ?_) AllReady.nil)
                    ·
                      go_simp
                      refine (Num_step g l er w3 HR3 x hx X d Y HY HJ3).mono ?_
                      rintro e w4 ⟨v, er', l', rfl, h4, h5, h6, hb⟩
                      have HR4 := Lib.hid h4
                      have HJ4 := Lib.hid h5
                      have HV := Lib.hid h6
                      have HB4 : Hid (Below W.heap.size W w4) := HB3.out.trans (hb.mono (Nat.le_of_lt_succ (by have := HG.out; omega)))
                      have hc4 : ∀ nn, (w4.drewN nn).cell? ⟨b, off + i, none⟩ = some (.int .u64 (x : Nat)) := fun nn => (hb.cell (p := ⟨b, off + i, none⟩) (show b < g by have := HG.out; have := HBL.out; omega)).trans HC3.out
                      clear h4 h5 h6 hb HR3 HJ3 HB3 HC3
                      refine hK _ _ ?_
                      clear hK K
                      by_cases hv : v = x
                      · subst hv
                        refine wpAny_quiet_tail (C := fun w' => ∃ n, w' = w4.drewN n) 5 10 (by rfl) (by kernel_rfl) ⟨0, rfl⟩ ?_
                        simp only [List.take_succ_cons, List.take_zero, List.drop_succ_cons, List.drop_zero]
                        go_simp
                        repeat (go_big_quiet_step (fail))
                        refine wpQuiet_nil ?_
                        intro nn
                        have HR5 : Hid (RD g l' (er' : Nat) (w4.drewN nn)) := HR4
                        have HB5 : Hid (Below W.heap.size W (w4.drewN nn)) := below_drewN HB4.out _
                        clear HR4 HB4 hc4
                        generalize w4.drewN nn = w5 at *
                        go_wp2_with fail
                        go_roundw
                        case rel => exact ⟨i + 1, sm, er', l', by omega, by go_num, rfl, HR5, (by rw [← HXE.out]; exact HJ4), HSM, HB5⟩
                        case measure => simp [intOf]; omega
                      · have q1 : ((v : Int) == (x : Int)) = false := by rw [beq_eq_false_iff_ne]; omega
                        have q2 : decide ((v : Int) = (x : Int)) = false := by rw [decide_eq_false_iff_not]; omega
                        have q3 : (v == x) = false := by rw [beq_eq_false_iff_ne]; exact hv
                        refine wpAny_quiet_tail (C := fun w' => ∃ n, w' = w4.drewN n) 5 10 (by rfl) (by kernel_rfl) ⟨0, rfl⟩ ?_
                        simp only [List.take_succ_cons, List.take_zero, List.drop_succ_cons, List.drop_zero]
                        go_simp
                        repeat (go_big_quiet_step (fail))
                        refine wpQuiet_nil ?_
                        intro nn
                        have HR5 : Hid (RD g l' (er' : Nat) (w4.drewN nn)) := HR4
                        have HB5 : Hid (Below W.heap.size W (w4.drewN nn)) := below_drewN HB4.out _
                        clear HR4 HB4 hc4
                        generalize w4.drewN nn = w5 at *
                        go_wp2_with fail
                        go_roundw
                        case rel => exact ⟨i + 1, false, er', l', by omega, by go_num, rfl, HR5, (by rw [← HXE.out]; exact HJ4), (by show _ → _; intro h0; exact absurd (HV.out h0) hv), HB5⟩
                        case measure => simp [intOf]; omega
                    · have hc3 := HC3.out
                      go_simp
                      clear hc3
                      refine hK _ _ ?_
                      clear hK K
                      refine wpAny_ready (rs := [1]) (by kernel_rfl) (by simp) ?_
                      refine AllReady.cons rfl (fun K hK => ?_) AllReady.nil
                      go_simp
                      refine (Num_step g l er w3 HR3 x hx X d Y HY HJ3).mono ?_
                      rintro e w4 ⟨v, er', l', rfl, h4, h5, h6, hb⟩
                      have HR4 := Lib.hid h4
                      have HJ4 := Lib.hid h5
                      have HV := Lib.hid h6
                      have HB4 : Hid (Below W.heap.size W w4) := HB3.out.trans (hb.mono (Nat.le_of_lt_succ (by have := HG.out; omega)))
                      have hc4 : ∀ nn, (w4.drewN nn).cell? ⟨b, off + i, none⟩ = some (.int .u64 (x : Nat)) := fun nn => (hb.cell (p := ⟨b, off + i, none⟩) (show b < g by have := HG.out; have := HBL.out; omega)).trans HC3.out
                      clear h4 h5 h6 hb HR3 HJ3 HB3 HC3
                      refine hK _ _ ?_
                      clear hK K
                      by_cases hv : v = x
                      · subst hv
                        refine wpAny_quiet_tail (C := fun w' => ∃ n, w' = w4.drewN n) 6 10 (by rfl) (by kernel_rfl) ⟨0, rfl⟩ ?_
                        simp only [List.take_succ_cons, List.take_zero, List.drop_succ_cons, List.drop_zero]
                        go_simp
                        repeat (go_big_quiet_step (fail))
                        refine wpQuiet_nil ?_
                        intro nn
                        have HR5 : Hid (RD g l' (er' : Nat) (w4.drewN nn)) := HR4
                        have HB5 : Hid (Below W.heap.size W (w4.drewN nn)) := below_drewN HB4.out _
                        clear HR4 HB4 hc4
                        generalize w4.drewN nn = w5 at *
                        go_wp2_with fail
                        go_roundw
                        case rel => exact ⟨i + 1, sm, er', l', by omega, by go_num, rfl, HR5, (by rw [← HXE.out]; exact HJ4), HSM, HB5⟩
                        case measure => simp [intOf]; omega
                      · have q1 : ((v : Int) == (x : Int)) = false := by rw [beq_eq_false_iff_ne]; omega
                        have q2 : decide ((v : Int) = (x : Int)) = false := by rw [decide_eq_false_iff_not]; omega
                        have q3 : (v == x) = false := by rw [beq_eq_false_iff_ne]; exact hv
                        refine wpAny_quiet_tail (C := fun w' => ∃ n, w' = w4.drewN n) 6 10 (by rfl) (by kernel_rfl) ⟨0, rfl⟩ ?_
                        simp only [List.take_succ_cons, List.take_zero, List.drop_succ_cons, List.drop_zero]
                        go_simp
                        repeat (go_big_quiet_step (fail))
                        refine wpQuiet_nil ?_
                        intro nn
                        have HR5 : Hid (RD g l' (er' : Nat) (w4.drewN nn)) := HR4
                        have HB5 : Hid (Below W.heap.size W (w4.drewN nn)) := below_drewN HB4.out _
                        clear HR4 HB4 hc4
                        generalize w4.drewN nn = w5 at *
                        go_wp2_with fail
                        go_roundw
                        case rel => exact ⟨i + 1, false, er', l', by omega, by go_num, rfl, HR5, (by rw [← HXE.out]; exact HJ4), (by show _ → _; intro h0; exact absurd (HV.out h0) hv), HB5⟩
                        case measure => simp [intOf]; omega
                  · have HJ4 : Hid (Jst (txs (ss.drop 0) ++ [if t then 1 else 0]) d Y er l) := by
                      have h := HJ.out
                      rw [List.drop_of_length_le (by rw [HLN.out]; omega)] at h
                      exact h
                    clear HJ
                    go_wp2_with fail
                    go_loopw [17, 19] (fun sv iv wv => ∃ (i : Nat) (sm : Bool) (er : Nat) (l : List UInt8), i ≤ m ∧ iv = .int .i64 i ∧ sv = .bool sm ∧ Hid (RD g l (er : Nat) wv) ∧ Hid (Jst (txs (ss.drop i) ++ [if t then 1 else 0]) d Y er l) ∧ Hid (d = 0 → sm = true) ∧ Hid (Below W.heap.size W wv)) (fun _ iv _ => m - (intOf iv).toNat)
                    case atStart => exact ⟨0, sm, er, l, Nat.zero_le _, rfl, rfl, HR, HJ4, HSM, HB⟩
                    case round =>
                      clear HR HJ4 HB HSM hlt hi
                      obtain ⟨i, sm, er, l, hi, rfl, rfl, HR, HJ, HSM, HB⟩ := hrel
                      by_cases hlt : i < m
                      ·
                        have hil : i < ss.length := by rw [HL.out]; exact hlt
                        obtain ⟨b, off, rfl, hbl, hc⟩ := HT.out.cell i hil
                        obtain ⟨xs, hxe⟩ : ∃ xs, ss[i] = xs := ⟨_, rfl⟩
                        rw [hxe] at hc
                        obtain ⟨x, hxl⟩ : ∃ x, x = xs.data.toList := ⟨_, rfl⟩
                        have Hx := Lib.hid hxl
                        have hx : x.length ≤ 8192 := by
                          have h1 := HTot.out _ (List.getElem_mem hil)
                          rw [hxe] at h1
                          have h2 : x.length = xs.size := by rw [hxl]; simp
                          omega
                        obtain ⟨X, hX⟩ : ∃ X, X = txs (ss.drop (i + 1)) ++ [if t then 1 else 0] := ⟨_, rfl⟩
                        have HJ2 : Hid (Jst (txb x ++ X) d Y er l) := by
                          have h := HJ.out
                          rw [txs_cons ss i hil, hxe, List.append_assoc, ← hX, ← hxl] at h
                          exact h
                        clear hxl
                        have HXE := Lib.hid hX
                        have HBL := Lib.hid hbl
                        have HC3 : Hid (wr.drew.cell? ⟨b, off + i, none⟩ = some (.string xs)) := (HB.out.cell (p := ⟨b, off + i, none⟩) hbl).trans hc
                        have HR3 : Hid (RD g l (er : Nat) wr.drew) := HR.out
                        have HJ3 := HJ2
                        have HB3 : Hid (Below W.heap.size W wr.drew) := HB.out.drew
                        clear hxe hbl hc hX HJ2 HJ HR HB
                        go_wp2_with fail
                        refine wp_region_any (by kernel_rfl) ?_
                        change wpAny _ _ _ _ _ _ _ (World.drew _)
                        generalize wr.drew = w3 at *
                        clear wr
                        refine wpAny_take (i := 0) (v := .pointer (some ⟨g, 0, none⟩)) rfl (by kernel_rfl) (by kernel_rfl) (by kernel_rfl) (fun _ _ _ h => h) (Or.inl ⟨by kernel_rfl, ?_⟩) ?_
                        · intro w; go_simp
                        refine wpAny_take (i := 2) (v := .slice (some ⟨b, off, none⟩) m cap') rfl (by kernel_rfl) (by kernel_rfl) (by kernel_rfl) (fun _ _ _ h => h) (Or.inl ⟨by kernel_rfl, ?_⟩) ?_
                        · intro w; go_simp
                        refine wpAny_take (i := 3) (v := .int .i64 (i : Nat)) rfl (by kernel_rfl) (by kernel_rfl) (by kernel_rfl) (fun _ _ _ h => h) (Or.inl ⟨by kernel_rfl, ?_⟩) ?_
                        · intro w; go_simp
                        refine wpAny_take (i := 4) (v := .pointer (some ⟨b, off + i, none⟩)) rfl (by kernel_rfl) (by kernel_rfl) (by kernel_rfl) (fun _ _ _ h => h) (Or.inl ⟨by kernel_rfl, ?_⟩) ?_
                        · intro w; go_simp
                        refine wpAny_ready (rs := [1, 5]) (by kernel_rfl) (by simp) ?_
                        refine AllReady.cons rfl (fun K hK => ?_) (AllReady.cons rfl (fun K hK => ?_) AllReady.nil)
                        ·
                          go_simp
                          refine (Text_step g l er w3 HR3 x hx X d Y HY HJ3).mono ?_
                          rintro e w4 ⟨v, er', l', rfl, h4, h5, h6, hb⟩
                          have HR4 := Lib.hid h4
                          have HJ4 := Lib.hid h5
                          have HV := Lib.hid h6
                          have HB4 : Hid (Below W.heap.size W w4) := HB3.out.trans (hb.mono (Nat.le_of_lt_succ (by have := HG.out; omega)))
                          have hc4 : ∀ nn, (w4.drewN nn).cell? ⟨b, off + i, none⟩ = some (.string xs) := fun nn => (hb.cell (p := ⟨b, off + i, none⟩) (show b < g by have := HG.out; have := HBL.out; omega)).trans HC3.out
                          clear h4 h5 h6 hb HR3 HJ3 HB3 HC3
                          refine hK _ _ ?_
                          clear hK K
                          by_cases hv : v = x
                          · subst hv
                            have q1 : ((str v).toList == xs.toList) = true := by
                              rw [beq_iff_eq, Lib.toList_data, Lib.toList_data, ← Hx.out]; rfl
                            refine wpAny_quiet_tail (C := fun w' => ∃ n, w' = w4.drewN n) 5 10 (by rfl) (by kernel_rfl) ⟨0, rfl⟩ ?_
                            simp only [List.take_succ_cons, List.take_zero, List.drop_succ_cons, List.drop_zero]
                            go_simp
                            repeat (go_big_quiet_step (fail))
                            refine wpQuiet_nil ?_
                            intro nn
                            have HR5 : Hid (RD g l' (er' : Nat) (w4.drewN nn)) := HR4
                            have HB5 : Hid (Below W.heap.size W (w4.drewN nn)) := below_drewN HB4.out _
                            clear HR4 HB4 hc4
                            generalize w4.drewN nn = w5 at *
                            go_wp2_with fail
                            go_roundw
                            case rel => exact ⟨i + 1, sm, er', l', by omega, by go_num, rfl, HR5, (by rw [← HXE.out]; exact HJ4), HSM, HB5⟩
                            case measure => simp [intOf]; omega
                          · have q1 : ((str v).toList == xs.toList) = false := by
                              rw [beq_eq_false_iff_ne, Lib.toList_data, Lib.toList_data, ← Hx.out]; exact hv
                            refine wpAny_quiet_tail (C := fun w' => ∃ n, w' = w4.drewN n) 5 10 (by rfl) (by kernel_rfl) ⟨0, rfl⟩ ?_
                            simp only [List.take_succ_cons, List.take_zero, List.drop_succ_cons, List.drop_zero]
                            go_simp
                            repeat (go_big_quiet_step (fail))
                            refine wpQuiet_nil ?_
                            intro nn
                            have HR5 : Hid (RD g l' (er' : Nat) (w4.drewN nn)) := HR4
                            have HB5 : Hid (Below W.heap.size W (w4.drewN nn)) := below_drewN HB4.out _
                            clear HR4 HB4 hc4
                            generalize w4.drewN nn = w5 at *
                            go_wp2_with fail
                            go_roundw
                            case rel => exact ⟨i + 1, false, er', l', by omega, by go_num, rfl, HR5, (by rw [← HXE.out]; exact HJ4), (by show _ → _; intro h0; exact absurd (HV.out h0) hv), HB5⟩
                            case measure => simp [intOf]; omega
                        · have hc3 := HC3.out
                          go_simp
                          clear hc3
                          refine hK _ _ ?_
                          clear hK K
                          refine wpAny_ready (rs := [1]) (by kernel_rfl) (by simp) ?_
                          refine AllReady.cons rfl (fun K hK => ?_) AllReady.nil
                          go_simp
                          refine (Text_step g l er w3 HR3 x hx X d Y HY HJ3).mono ?_
                          rintro e w4 ⟨v, er', l', rfl, h4, h5, h6, hb⟩
                          have HR4 := Lib.hid h4
                          have HJ4 := Lib.hid h5
                          have HV := Lib.hid h6
                          have HB4 : Hid (Below W.heap.size W w4) := HB3.out.trans (hb.mono (Nat.le_of_lt_succ (by have := HG.out; omega)))
                          have hc4 : ∀ nn, (w4.drewN nn).cell? ⟨b, off + i, none⟩ = some (.string xs) := fun nn => (hb.cell (p := ⟨b, off + i, none⟩) (show b < g by have := HG.out; have := HBL.out; omega)).trans HC3.out
                          clear h4 h5 h6 hb HR3 HJ3 HB3 HC3
                          refine hK _ _ ?_
                          clear hK K
                          by_cases hv : v = x
                          · subst hv
                            have q1 : ((str v).toList == xs.toList) = true := by
                              rw [beq_iff_eq, Lib.toList_data, Lib.toList_data, ← Hx.out]; rfl
                            refine wpAny_quiet_tail (C := fun w' => ∃ n, w' = w4.drewN n) 6 10 (by rfl) (by kernel_rfl) ⟨0, rfl⟩ ?_
                            simp only [List.take_succ_cons, List.take_zero, List.drop_succ_cons, List.drop_zero]
                            go_simp
                            repeat (go_big_quiet_step (fail))
                            refine wpQuiet_nil ?_
                            intro nn
                            have HR5 : Hid (RD g l' (er' : Nat) (w4.drewN nn)) := HR4
                            have HB5 : Hid (Below W.heap.size W (w4.drewN nn)) := below_drewN HB4.out _
                            clear HR4 HB4 hc4
                            generalize w4.drewN nn = w5 at *
                            go_wp2_with fail
                            go_roundw
                            case rel => exact ⟨i + 1, sm, er', l', by omega, by go_num, rfl, HR5, (by rw [← HXE.out]; exact HJ4), HSM, HB5⟩
                            case measure => simp [intOf]; omega
                          · have q1 : ((str v).toList == xs.toList) = false := by
                              rw [beq_eq_false_iff_ne, Lib.toList_data, Lib.toList_data, ← Hx.out]; exact hv
                            refine wpAny_quiet_tail (C := fun w' => ∃ n, w' = w4.drewN n) 6 10 (by rfl) (by kernel_rfl) ⟨0, rfl⟩ ?_
                            simp only [List.take_succ_cons, List.take_zero, List.drop_succ_cons, List.drop_zero]
                            go_simp
                            repeat (go_big_quiet_step (fail))
                            refine wpQuiet_nil ?_
                            intro nn
                            have HR5 : Hid (RD g l' (er' : Nat) (w4.drewN nn)) := HR4
                            have HB5 : Hid (Below W.heap.size W (w4.drewN nn)) := below_drewN HB4.out _
                            clear HR4 HB4 hc4
                            generalize w4.drewN nn = w5 at *
                            go_wp2_with fail
                            go_roundw
                            case rel => exact ⟨i + 1, false, er', l', by omega, by go_num, rfl, HR5, (by rw [← HXE.out]; exact HJ4), (by show _ → _; intro h0; exact absurd (HV.out h0) hv), HB5⟩
                            case measure => simp [intOf]; omega
                      · have HJ4 : Hid (Jst [if t then 1 else 0] d Y er l) := by
                          have h := HJ.out
                          rw [List.drop_of_length_le (by rw [HL.out]; omega)] at h
                          exact h
                        clear HJ
                        go_wp2_with fail
                        refine (Bool_step g l er _ HR t d Y HY HJ4).mono ?_
                        rintro e w6 ⟨v, er, l, rfl, h4, h5, h6, hb⟩
                        have HB6 : Hid (Below W.heap.size W w6) := HB.out.trans (hb.mono (Nat.le_of_lt_succ (by have := HG.out; omega)))
                        clear HB HR HJ4
                        have HB := HB6
                        have HR := Lib.hid h4
                        have HJ := Lib.hid h5
                        have HSM6 : Hid (d = 0 → (if v = t then sm else false) = true) := fun h0 => by rw [if_pos (h6 h0)]; exact HSM.out h0
                        clear h4 h5 h6 hb HSM HB6 hlt hi
                        by_cases hv : v = t
                        · rw [if_pos hv] at HSM6
                          subst hv
                          have HSM := HSM6
                          clear HSM6
                          have hd0 := HD.out
                          have hsm : sm = true := HSM.out hd0
                          subst hsm
                          obtain ⟨rfl, hlY⟩ : er = 0 ∧ l = Y := by
                            rcases HJ.out with ⟨h1, _, h3, _⟩ | ⟨_, h⟩
                            · exact ⟨h1, by rw [h3]; simp⟩
                            · omega
                          subst hlY
                          go_wp2_with fail
                          refine (Err_at g _ _ _ HR.out).mono ?_
                          rintro e _ ⟨rfl, rfl⟩
                          go_wp2_with fail
                          by_cases hE : l = []
                          · have HE : Hid (endR l = 0) := if_pos hE
                            have hbe : behind.toList.isEmpty = true := by rw [Lib.toList_data, ← HYB.out, hE]; rfl
                            refine (End_at g l _ HR.out 0 HE).mono ?_
                            rintro e w7 ⟨rfl, _, hb⟩
                            have HB7 : Hid (Below W.heap.size W w7) := HB.out.trans (hb.mono (Nat.le_of_lt_succ (by have := HG.out; omega)))
                            clear hb HB HR
                            go_wp2_with fail
                            go_roundw
                            case rel => exact ⟨1, by decide, by go_num, HB7⟩
                            case measure => simp [intOf]
                          · have HE : Hid (endR l = 8) := if_neg hE
                            have hbe : behind.toList.isEmpty = false := by
                              rw [Lib.toList_data, ← HYB.out]
                              cases l with
                              | nil => exact absurd rfl hE
                              | cons _ _ => rfl
                            refine (End_at g l _ HR.out 8 HE).mono ?_
                            rintro e w7 ⟨rfl, _, hb⟩
                            have HB7 : Hid (Below W.heap.size W w7) := HB.out.trans (hb.mono (Nat.le_of_lt_succ (by have := HG.out; omega)))
                            clear hb HB HR
                            go_wp2_with fail
                            go_roundw
                            case rel => exact ⟨1, by decide, by go_num, HB7⟩
                            case measure => simp [intOf]
                        · rw [if_neg hv] at HSM6
                          have hvt : (v == t) = false := by rw [beq_eq_false_iff_ne]; exact hv
                          have HSM := HSM6
                          clear HSM6
                          exact absurd (HSM.out HD.out) (by decide)
              · by_cases h1 : y = 1
                · subst h1
                  have hcat : S.size + behind.size ≤ 84945 := by omega
                  have hq1 : 0 ≤ (a : Int) % ((S.size : Int) + 1) := Int.emod_nonneg _ (by omega)
                  have hq2 : (a : Int) % ((S.size : Int) + 1) ≤ S.size := by
                    have := Int.emod_lt_of_pos (a : Int) (show (0 : Int) < (S.size : Int) + 1 by omega)
                    omega
                  have hq3 : a % (S.size + 1) ≤ S.size := Nat.le_of_lt_succ (Nat.mod_lt _ (Nat.succ_pos _))
                  go_wp2_with fail
                  obtain ⟨q, hqe⟩ : ∃ q, a % (S.size + 1) = q := ⟨_, rfl⟩
                  simp only [hqe] at hq3 ⊢
                  obtain ⟨T, hT⟩ : ∃ T, S.extract 0 q = T := ⟨_, rfl⟩
                  simp only [hT]
                  obtain ⟨TL, hTL⟩ : ∃ TL, TL = cat N ++ (txs ss ++ [if t then 1 else 0]) := ⟨_, rfl⟩
                  rw [← hTL] at HSS
                  have hTLz : TL.length = S.size := by rw [HSS.out]; rfl
                  have HLL : Hid (str (TL.take q) = T) := by
                    show _ = _
                    rw [← hT, HSS.out]
                    have h1 := str_part TL 0 q
                    rw [Nat.zero_add, List.drop_zero] at h1
                    exact h1.symm
                  have hTz : T.size = q := by rw [← HLL.out, str_size, List.length_take]; omega
                  obtain ⟨d, hd⟩ : ∃ d, d = S.size - q := ⟨_, rfl⟩
                  have HD : Hid (d = S.size - T.size ∧ T.size ≤ S.size) := ⟨by omega, by omega⟩
                  obtain ⟨Y, hYY⟩ : ∃ Y : List UInt8, Y = [] := ⟨_, rfl⟩
                  have HY : Hid (d = 0 ∨ Y = []) := Or.inr hYY
                  have HJ : Hid (Jst (cat (N.drop 0) ++ (txs ss ++ [if t then 1 else 0])) d Y 0 (TL.take q)) := Or.inl ⟨rfl, by rw [List.drop_zero, ← hTL]; omega, by rw [List.drop_zero, ← hTL, hYY, List.append_nil, show TL.length - d = q by omega], by rw [List.length_take]; omega⟩
                  have HSz : Hid (S.size ≤ 83921 ∧ T.size ≤ 83921) := ⟨by omega, by omega⟩
                  generalize TL.take q = L at *
                  clear hTz hTLz hTL hd hYY HSS hT hqe hq1 hq2 hq3 TL q
                  refine (New_of L T HLL _).mono ?_
                  rintro e w4 ⟨g, rfl, hg, hr, hb⟩
                  have HG : Hid (W.heap.size ≤ g) := Nat.le_trans HB.out.size hg
                  have HR := Lib.hid hr
                  have HB1 : Hid (Below W.heap.size W w4) := HB.out.trans (hb.mono HB.out.size)
                  clear hg hr hb HB hcat HLL
                  have HB := HB1
                  clear HB1
                  go_wp2_with fail
                  go_loopw [17, 18] (fun sv iv wv => ∃ (i : Nat) (sm : Bool) (er : Nat) (l : List UInt8), i ≤ n ∧ iv = .int .i64 i ∧ sv = .bool sm ∧ Hid (RD g l (er : Nat) wv) ∧ Hid (Jst (cat (N.drop i) ++ (txs ss ++ [if t then 1 else 0])) d Y er l) ∧ Hid (d = 0 → sm = true) ∧ Hid (Below W.heap.size W wv)) (fun _ iv _ => n - (intOf iv).toNat)
                  case atStart => exact ⟨0, true, 0, _, Nat.zero_le _, rfl, rfl, HR, HJ, (fun _ => rfl), HB⟩
                  case round =>
                    clear HR HJ HB
                    obtain ⟨i, sm, er, l, hi, rfl, rfl, HR, HJ, HSM, HB⟩ := hrel
                    by_cases hlt : i < n
                    ·
                      have hil : i < N.length := by rw [HLN.out]; exact hlt
                      obtain ⟨b, off, rfl, hbl, hc⟩ := HS.out.cell i hil
                      obtain ⟨x, hxe⟩ : ∃ x, N[i] = x := ⟨_, rfl⟩
                      rw [hxe] at hc
                      have hx : x < 18446744073709551616 := by have := HN.out _ (List.getElem_mem hil); rw [hxe] at this; omega
                      obtain ⟨X, hX⟩ : ∃ X, X = cat (N.drop (i + 1)) ++ (txs ss ++ [if t then 1 else 0]) := ⟨_, rfl⟩
                      have HJ2 : Hid (Jst (ub x ++ X) d Y er l) := by
                        have h := HJ.out
                        rw [cat_cons N i hil, hxe, List.append_assoc, ← hX] at h
                        exact h
                      have HXE := Lib.hid hX
                      have HBL := Lib.hid hbl
                      have HC3 : Hid (wr.drew.cell? ⟨b, off + i, none⟩ = some (.int .u64 (x : Nat))) := (HB.out.cell (p := ⟨b, off + i, none⟩) hbl).trans hc
                      have HR3 : Hid (RD g l (er : Nat) wr.drew) := HR.out
                      have HJ3 := HJ2
                      have HB3 : Hid (Below W.heap.size W wr.drew) := HB.out.drew
                      clear hxe hbl hc hX HJ2 HJ HR HB
                      go_wp2_with fail
                      refine wp_region_any (by kernel_rfl) ?_
                      change wpAny _ _ _ _ _ _ _ (World.drew _)
                      generalize wr.drew = w3 at *
                      clear wr
                      refine wpAny_take (i := 0) (v := .pointer (some ⟨g, 0, none⟩)) rfl (by kernel_rfl) (by kernel_rfl) (by kernel_rfl) (fun _ _ _ h => h) (Or.inl ⟨by kernel_rfl, ?_⟩) ?_
                      · intro w; go_simp
                      refine wpAny_take (i := 2) (v := .slice (some ⟨b, off, none⟩) n cap) rfl (by kernel_rfl) (by kernel_rfl) (by kernel_rfl) (fun _ _ _ h => h) (Or.inl ⟨by kernel_rfl, ?_⟩) ?_
                      · intro w; go_simp
                      refine wpAny_take (i := 3) (v := .int .i64 (i : Nat)) rfl (by kernel_rfl) (by kernel_rfl) (by kernel_rfl) (fun _ _ _ h => h) (Or.inl ⟨by kernel_rfl, ?_⟩) ?_
                      · intro w; go_simp
                      refine wpAny_take (i := 4) (v := .pointer (some ⟨b, off + i, none⟩)) rfl (by kernel_rfl) (by kernel_rfl) (by kernel_rfl) (fun _ _ _ h => h) (Or.inl ⟨by kernel_rfl, ?_⟩) ?_
                      · intro w; go_simp
                      refine wpAny_ready (rs := [1, 5]) (by kernel_rfl) (by simp) ?_
                      refine AllReady.cons rfl (fun K hK => ?_) (AllReady.cons rfl (fun K hK => ?_) AllReady.nil)
                      ·
                        go_simp
                        refine (Num_step g l er w3 HR3 x hx X d Y HY HJ3).mono ?_
                        rintro e w4 ⟨v, er', l', rfl, h4, h5, h6, hb⟩
                        have HR4 := Lib.hid h4
                        have HJ4 := Lib.hid h5
                        have HV := Lib.hid h6
                        have HB4 : Hid (Below W.heap.size W w4) := HB3.out.trans (hb.mono (Nat.le_of_lt_succ (by have := HG.out; omega)))
                        have hc4 : ∀ nn, (w4.drewN nn).cell? ⟨b, off + i, none⟩ = some (.int .u64 (x : Nat)) := fun nn => (hb.cell (p := ⟨b, off + i, none⟩) (show b < g by have := HG.out; have := HBL.out; omega)).trans HC3.out
                        clear h4 h5 h6 hb HR3 HJ3 HB3 HC3
                        refine hK _ _ ?_
                        clear hK K
                        by_cases hv : v = x
                        · subst hv
                          refine wpAny_quiet_tail (C := fun w' => ∃ n, w' = w4.drewN n) 5 10 (by rfl) (by kernel_rfl) ⟨0, rfl⟩ ?_
                          simp only [List.take_succ_cons, List.take_zero, List.drop_succ_cons, List.drop_zero]
                          go_simp
                          repeat (go_big_quiet_step (fail))
                          refine wpQuiet_nil ?_
                          intro nn
                          have HR5 : Hid (RD g l' (er' : Nat) (w4.drewN nn)) := HR4
                          have HB5 : Hid (Below W.heap.size W (w4.drewN nn)) := below_drewN HB4.out _
                          clear HR4 HB4 hc4
                          generalize w4.drewN nn = w5 at *
                          go_wp2_with fail
                          go_roundw
                          case rel => exact ⟨i + 1, sm, er', l', by omega, by go_num, rfl, HR5, (by rw [← HXE.out]; exact HJ4), HSM, HB5⟩
                          case measure => simp [intOf]; omega
                        · have q1 : ((v : Int) == (x : Int)) = false := by rw [beq_eq_false_iff_ne]; omega
                          have q2 : decide ((v : Int) = (x : Int)) = false := by rw [decide_eq_false_iff_not]; omega
                          have q3 : (v == x) = false := by rw [beq_eq_false_iff_ne]; exact hv
                          refine wpAny_quiet_tail (C := fun w' => ∃ n, w' = w4.drewN n) 5 10 (by rfl) (by kernel_rfl) ⟨0, rfl⟩ ?_
                          simp only [List.take_succ_cons, List.take_zero, List.drop_succ_cons, List.drop_zero]
                          go_simp
                          repeat (go_big_quiet_step (fail))
                          refine wpQuiet_nil ?_
                          intro nn
                          have HR5 : Hid (RD g l' (er' : Nat) (w4.drewN nn)) := HR4
                          have HB5 : Hid (Below W.heap.size W (w4.drewN nn)) := below_drewN HB4.out _
                          clear HR4 HB4 hc4
                          generalize w4.drewN nn = w5 at *
                          go_wp2_with fail
                          go_roundw
                          case rel => exact ⟨i + 1, false, er', l', by omega, by go_num, rfl, HR5, (by rw [← HXE.out]; exact HJ4), (by show _ → _; intro h0; exact absurd (HV.out h0) hv), HB5⟩
                          case measure => simp [intOf]; omega
                      · have hc3 := HC3.out
                        go_simp
                        clear hc3
                        refine hK _ _ ?_
                        clear hK K
                        refine wpAny_ready (rs := [1]) (by kernel_rfl) (by simp) ?_
                        refine AllReady.cons rfl (fun K hK => ?_) AllReady.nil
                        go_simp
                        refine (Num_step g l er w3 HR3 x hx X d Y HY HJ3).mono ?_
                        rintro e w4 ⟨v, er', l', rfl, h4, h5, h6, hb⟩
                        have HR4 := Lib.hid h4
                        have HJ4 := Lib.hid h5
                        have HV := Lib.hid h6
                        have HB4 : Hid (Below W.heap.size W w4) := HB3.out.trans (hb.mono (Nat.le_of_lt_succ (by have := HG.out; omega)))
                        have hc4 : ∀ nn, (w4.drewN nn).cell? ⟨b, off + i, none⟩ = some (.int .u64 (x : Nat)) := fun nn => (hb.cell (p := ⟨b, off + i, none⟩) (show b < g by have := HG.out; have := HBL.out; omega)).trans HC3.out
                        clear h4 h5 h6 hb HR3 HJ3 HB3 HC3
                        refine hK _ _ ?_
                        clear hK K
                        by_cases hv : v = x
                        · subst hv
                          refine wpAny_quiet_tail (C := fun w' => ∃ n, w' = w4.drewN n) 6 10 (by rfl) (by kernel_rfl) ⟨0, rfl⟩ ?_
                          simp only [List.take_succ_cons, List.take_zero, List.drop_succ_cons, List.drop_zero]
                          go_simp
                          repeat (go_big_quiet_step (fail))
                          refine wpQuiet_nil ?_
                          intro nn
                          have HR5 : Hid (RD g l' (er' : Nat) (w4.drewN nn)) := HR4
                          have HB5 : Hid (Below W.heap.size W (w4.drewN nn)) := below_drewN HB4.out _
                          clear HR4 HB4 hc4
                          generalize w4.drewN nn = w5 at *
                          go_wp2_with fail
                          go_roundw
                          case rel => exact ⟨i + 1, sm, er', l', by omega, by go_num, rfl, HR5, (by rw [← HXE.out]; exact HJ4), HSM, HB5⟩
                          case measure => simp [intOf]; omega
                        · have q1 : ((v : Int) == (x : Int)) = false := by rw [beq_eq_false_iff_ne]; omega
                          have q2 : decide ((v : Int) = (x : Int)) = false := by rw [decide_eq_false_iff_not]; omega
                          have q3 : (v == x) = false := by rw [beq_eq_false_iff_ne]; exact hv
                          refine wpAny_quiet_tail (C := fun w' => ∃ n, w' = w4.drewN n) 6 10 (by rfl) (by kernel_rfl) ⟨0, rfl⟩ ?_
                          simp only [List.take_succ_cons, List.take_zero, List.drop_succ_cons, List.drop_zero]
                          go_simp
                          repeat (go_big_quiet_step (fail))
                          refine wpQuiet_nil ?_
                          intro nn
                          have HR5 : Hid (RD g l' (er' : Nat) (w4.drewN nn)) := HR4
                          have HB5 : Hid (Below W.heap.size W (w4.drewN nn)) := below_drewN HB4.out _
                          clear HR4 HB4 hc4
                          generalize w4.drewN nn = w5 at *
                          go_wp2_with fail
                          go_roundw
                          case rel => exact ⟨i + 1, false, er', l', by omega, by go_num, rfl, HR5, (by rw [← HXE.out]; exact HJ4), (by show _ → _; intro h0; exact absurd (HV.out h0) hv), HB5⟩
                          case measure => simp [intOf]; omega
                    · have HJ4 : Hid (Jst (txs (ss.drop 0) ++ [if t then 1 else 0]) d Y er l) := by
                        have h := HJ.out
                        rw [List.drop_of_length_le (by rw [HLN.out]; omega)] at h
                        exact h
                      clear HJ
                      go_wp2_with fail
                      go_loopw [17, 19] (fun sv iv wv => ∃ (i : Nat) (sm : Bool) (er : Nat) (l : List UInt8), i ≤ m ∧ iv = .int .i64 i ∧ sv = .bool sm ∧ Hid (RD g l (er : Nat) wv) ∧ Hid (Jst (txs (ss.drop i) ++ [if t then 1 else 0]) d Y er l) ∧ Hid (d = 0 → sm = true) ∧ Hid (Below W.heap.size W wv)) (fun _ iv _ => m - (intOf iv).toNat)
                      case atStart => exact ⟨0, sm, er, l, Nat.zero_le _, rfl, rfl, HR, HJ4, HSM, HB⟩
                      case round =>
                        clear HR HJ4 HB HSM hlt hi
                        obtain ⟨i, sm, er, l, hi, rfl, rfl, HR, HJ, HSM, HB⟩ := hrel
                        by_cases hlt : i < m
                        ·
                          have hil : i < ss.length := by rw [HL.out]; exact hlt
                          obtain ⟨b, off, rfl, hbl, hc⟩ := HT.out.cell i hil
                          obtain ⟨xs, hxe⟩ : ∃ xs, ss[i] = xs := ⟨_, rfl⟩
                          rw [hxe] at hc
                          obtain ⟨x, hxl⟩ : ∃ x, x = xs.data.toList := ⟨_, rfl⟩
                          have Hx := Lib.hid hxl
                          have hx : x.length ≤ 8192 := by
                            have h1 := HTot.out _ (List.getElem_mem hil)
                            rw [hxe] at h1
                            have h2 : x.length = xs.size := by rw [hxl]; simp
                            omega
                          obtain ⟨X, hX⟩ : ∃ X, X = txs (ss.drop (i + 1)) ++ [if t then 1 else 0] := ⟨_, rfl⟩
                          have HJ2 : Hid (Jst (txb x ++ X) d Y er l) := by
                            have h := HJ.out
                            rw [txs_cons ss i hil, hxe, List.append_assoc, ← hX, ← hxl] at h
                            exact h
                          clear hxl
                          have HXE := Lib.hid hX
                          have HBL := Lib.hid hbl
                          have HC3 : Hid (wr.drew.cell? ⟨b, off + i, none⟩ = some (.string xs)) := (HB.out.cell (p := ⟨b, off + i, none⟩) hbl).trans hc
                          have HR3 : Hid (RD g l (er : Nat) wr.drew) := HR.out
                          have HJ3 := HJ2
                          have HB3 : Hid (Below W.heap.size W wr.drew) := HB.out.drew
                          clear hxe hbl hc hX HJ2 HJ HR HB
                          go_wp2_with fail
                          refine wp_region_any (by kernel_rfl) ?_
                          change wpAny _ _ _ _ _ _ _ (World.drew _)
                          generalize wr.drew = w3 at *
                          clear wr
                          refine wpAny_take (i := 0) (v := .pointer (some ⟨g, 0, none⟩)) rfl (by kernel_rfl) (by kernel_rfl) (by kernel_rfl) (fun _ _ _ h => h) (Or.inl ⟨by kernel_rfl, ?_⟩) ?_
                          · intro w; go_simp
                          refine wpAny_take (i := 2) (v := .slice (some ⟨b, off, none⟩) m cap') rfl (by kernel_rfl) (by kernel_rfl) (by kernel_rfl) (fun _ _ _ h => h) (Or.inl ⟨by kernel_rfl, ?_⟩) ?_
                          · intro w; go_simp
                          refine wpAny_take (i := 3) (v := .int .i64 (i : Nat)) rfl (by kernel_rfl) (by kernel_rfl) (by kernel_rfl) (fun _ _ _ h => h) (Or.inl ⟨by kernel_rfl, ?_⟩) ?_
                          · intro w; go_simp
                          refine wpAny_take (i := 4) (v := .pointer (some ⟨b, off + i, none⟩)) rfl (by kernel_rfl) (by kernel_rfl) (by kernel_rfl) (fun _ _ _ h => h) (Or.inl ⟨by kernel_rfl, ?_⟩) ?_
                          · intro w; go_simp
                          refine wpAny_ready (rs := [1, 5]) (by kernel_rfl) (by simp) ?_
                          refine AllReady.cons rfl (fun K hK => ?_) (AllReady.cons rfl (fun K hK => ?_) AllReady.nil)
                          ·
                            go_simp
                            refine (Text_step g l er w3 HR3 x hx X d Y HY HJ3).mono ?_
                            rintro e w4 ⟨v, er', l', rfl, h4, h5, h6, hb⟩
                            have HR4 := Lib.hid h4
                            have HJ4 := Lib.hid h5
                            have HV := Lib.hid h6
                            have HB4 : Hid (Below W.heap.size W w4) := HB3.out.trans (hb.mono (Nat.le_of_lt_succ (by have := HG.out; omega)))
                            have hc4 : ∀ nn, (w4.drewN nn).cell? ⟨b, off + i, none⟩ = some (.string xs) := fun nn => (hb.cell (p := ⟨b, off + i, none⟩) (show b < g by have := HG.out; have := HBL.out; omega)).trans HC3.out
                            clear h4 h5 h6 hb HR3 HJ3 HB3 HC3
                            refine hK _ _ ?_
                            clear hK K
                            by_cases hv : v = x
                            · subst hv
                              have q1 : ((str v).toList == xs.toList) = true := by
                                rw [beq_iff_eq, Lib.toList_data, Lib.toList_data, ← Hx.out]; rfl
                              refine wpAny_quiet_tail (C := fun w' => ∃ n, w' = w4.drewN n) 5 10 (by rfl) (by kernel_rfl) ⟨0, rfl⟩ ?_
                              simp only [List.take_succ_cons, List.take_zero, List.drop_succ_cons, List.drop_zero]
                              go_simp
                              repeat (go_big_quiet_step (fail))
                              refine wpQuiet_nil ?_
                              intro nn
                              have HR5 : Hid (RD g l' (er' : Nat) (w4.drewN nn)) := HR4
                              have HB5 : Hid (Below W.heap.size W (w4.drewN nn)) := below_drewN HB4.out _
                              clear HR4 HB4 hc4
                              generalize w4.drewN nn = w5 at *
                              go_wp2_with fail
                              go_roundw
                              case rel => exact ⟨i + 1, sm, er', l', by omega, by go_num, rfl, HR5, (by rw [← HXE.out]; exact HJ4), HSM, HB5⟩
                              case measure => simp [intOf]; omega
                            · have q1 : ((str v).toList == xs.toList) = false := by
                                rw [beq_eq_false_iff_ne, Lib.toList_data, Lib.toList_data, ← Hx.out]; exact hv
                              refine wpAny_quiet_tail (C := fun w' => ∃ n, w' = w4.drewN n) 5 10 (by rfl) (by kernel_rfl) ⟨0, rfl⟩ ?_
                              simp only [List.take_succ_cons, List.take_zero, List.drop_succ_cons, List.drop_zero]
                              go_simp
                              repeat (go_big_quiet_step (fail))
                              refine wpQuiet_nil ?_
                              intro nn
                              have HR5 : Hid (RD g l' (er' : Nat) (w4.drewN nn)) := HR4
                              have HB5 : Hid (Below W.heap.size W (w4.drewN nn)) := below_drewN HB4.out _
                              clear HR4 HB4 hc4
                              generalize w4.drewN nn = w5 at *
                              go_wp2_with fail
                              go_roundw
                              case rel => exact ⟨i + 1, false, er', l', by omega, by go_num, rfl, HR5, (by rw [← HXE.out]; exact HJ4), (by show _ → _; intro h0; exact absurd (HV.out h0) hv), HB5⟩
                              case measure => simp [intOf]; omega
                          · have hc3 := HC3.out
                            go_simp
                            clear hc3
                            refine hK _ _ ?_
                            clear hK K
                            refine wpAny_ready (rs := [1]) (by kernel_rfl) (by simp) ?_
                            refine AllReady.cons rfl (fun K hK => ?_) AllReady.nil
                            go_simp
                            refine (Text_step g l er w3 HR3 x hx X d Y HY HJ3).mono ?_
                            rintro e w4 ⟨v, er', l', rfl, h4, h5, h6, hb⟩
                            have HR4 := Lib.hid h4
                            have HJ4 := Lib.hid h5
                            have HV := Lib.hid h6
                            have HB4 : Hid (Below W.heap.size W w4) := HB3.out.trans (hb.mono (Nat.le_of_lt_succ (by have := HG.out; omega)))
                            have hc4 : ∀ nn, (w4.drewN nn).cell? ⟨b, off + i, none⟩ = some (.string xs) := fun nn => (hb.cell (p := ⟨b, off + i, none⟩) (show b < g by have := HG.out; have := HBL.out; omega)).trans HC3.out
                            clear h4 h5 h6 hb HR3 HJ3 HB3 HC3
                            refine hK _ _ ?_
                            clear hK K
                            by_cases hv : v = x
                            · subst hv
                              have q1 : ((str v).toList == xs.toList) = true := by
                                rw [beq_iff_eq, Lib.toList_data, Lib.toList_data, ← Hx.out]; rfl
                              refine wpAny_quiet_tail (C := fun w' => ∃ n, w' = w4.drewN n) 6 10 (by rfl) (by kernel_rfl) ⟨0, rfl⟩ ?_
                              simp only [List.take_succ_cons, List.take_zero, List.drop_succ_cons, List.drop_zero]
                              go_simp
                              repeat (go_big_quiet_step (fail))
                              refine wpQuiet_nil ?_
                              intro nn
                              have HR5 : Hid (RD g l' (er' : Nat) (w4.drewN nn)) := HR4
                              have HB5 : Hid (Below W.heap.size W (w4.drewN nn)) := below_drewN HB4.out _
                              clear HR4 HB4 hc4
                              generalize w4.drewN nn = w5 at *
                              go_wp2_with fail
                              go_roundw
                              case rel => exact ⟨i + 1, sm, er', l', by omega, by go_num, rfl, HR5, (by rw [← HXE.out]; exact HJ4), HSM, HB5⟩
                              case measure => simp [intOf]; omega
                            · have q1 : ((str v).toList == xs.toList) = false := by
                                rw [beq_eq_false_iff_ne, Lib.toList_data, Lib.toList_data, ← Hx.out]; exact hv
                              refine wpAny_quiet_tail (C := fun w' => ∃ n, w' = w4.drewN n) 6 10 (by rfl) (by kernel_rfl) ⟨0, rfl⟩ ?_
                              simp only [List.take_succ_cons, List.take_zero, List.drop_succ_cons, List.drop_zero]
                              go_simp
                              repeat (go_big_quiet_step (fail))
                              refine wpQuiet_nil ?_
                              intro nn
                              have HR5 : Hid (RD g l' (er' : Nat) (w4.drewN nn)) := HR4
                              have HB5 : Hid (Below W.heap.size W (w4.drewN nn)) := below_drewN HB4.out _
                              clear HR4 HB4 hc4
                              generalize w4.drewN nn = w5 at *
                              go_wp2_with fail
                              go_roundw
                              case rel => exact ⟨i + 1, false, er', l', by omega, by go_num, rfl, HR5, (by rw [← HXE.out]; exact HJ4), (by show _ → _; intro h0; exact absurd (HV.out h0) hv), HB5⟩
                              case measure => simp [intOf]; omega
                        · have HJ4 : Hid (Jst [if t then 1 else 0] d Y er l) := by
                            have h := HJ.out
                            rw [List.drop_of_length_le (by rw [HL.out]; omega)] at h
                            exact h
                          clear HJ
                          go_wp2_with fail
                          refine (Bool_step g l er _ HR t d Y HY HJ4).mono ?_
                          rintro e w6 ⟨v, er, l, rfl, h4, h5, h6, hb⟩
                          have HB6 : Hid (Below W.heap.size W w6) := HB.out.trans (hb.mono (Nat.le_of_lt_succ (by have := HG.out; omega)))
                          clear HB HR HJ4
                          have HB := HB6
                          have HR := Lib.hid h4
                          have HJ := Lib.hid h5
                          have HSM6 : Hid (d = 0 → (if v = t then sm else false) = true) := fun h0 => by rw [if_pos (h6 h0)]; exact HSM.out h0
                          clear h4 h5 h6 hb HSM HB6 hlt hi
                          by_cases hv : v = t
                          · rw [if_pos hv] at HSM6
                            subst hv
                            have HSM := HSM6
                            clear HSM6
                            have he : er = 0 ↔ T.size = S.size := by
                              have hd := HD.out
                              rcases HJ.out with ⟨h1, h2, _, _⟩ | ⟨h1, h2⟩
                              · simp at h2; omega
                              · omega
                            go_wp2_with fail
                            refine (Err_at g _ _ _ HR.out).mono ?_
                            rintro e _ ⟨rfl, rfl⟩
                            by_cases he0 : er = 0
                            · have p1 : T.size = S.size := he.1 he0
                              subst he0
                              clear he HR
                              go_wp2_with fail
                              go_roundw
                              case rel => exact ⟨2, by decide, by go_num, HB⟩
                              case measure => simp [intOf]
                            · have p1 : ((T.size : Int) == (S.size : Int)) = false := by rw [beq_eq_false_iff_ne]; omega
                              have p2 : (T.size == S.size) = false := by rw [beq_eq_false_iff_ne]; omega
                              have p3 : ((er : Int) == 0) = false := by rw [beq_eq_false_iff_ne]; omega
                              have p4 : (er == 0) = false := by rw [beq_eq_false_iff_ne]; omega
                              clear he HR
                              go_wp2_with fail
                              go_roundw
                              case rel => exact ⟨2, by decide, by go_num, HB⟩
                              case measure => simp [intOf]
                          · rw [if_neg hv] at HSM6
                            have hvt : (v == t) = false := by rw [beq_eq_false_iff_ne]; exact hv
                            have HSM := HSM6
                            clear HSM6
                            have he : er = 0 ↔ T.size = S.size := by
                              have hd := HD.out
                              rcases HJ.out with ⟨h1, h2, _, _⟩ | ⟨h1, h2⟩
                              · simp at h2; omega
                              · omega
                            go_wp2_with fail
                            refine (Err_at g _ _ _ HR.out).mono ?_
                            rintro e _ ⟨rfl, rfl⟩
                            by_cases he0 : er = 0
                            · have p1 : T.size = S.size := he.1 he0
                              subst he0
                              clear he HR
                              go_wp2_with fail
                              go_roundw
                              case rel => exact ⟨2, by decide, by go_num, HB⟩
                              case measure => simp [intOf]
                            · have p1 : ((T.size : Int) == (S.size : Int)) = false := by rw [beq_eq_false_iff_ne]; omega
                              have p2 : (T.size == S.size) = false := by rw [beq_eq_false_iff_ne]; omega
                              have p3 : ((er : Int) == 0) = false := by rw [beq_eq_false_iff_ne]; omega
                              have p4 : (er == 0) = false := by rw [beq_eq_false_iff_ne]; omega
                              clear he HR
                              go_wp2_with fail
                              go_roundw
                              case rel => exact ⟨2, by decide, by go_num, HB⟩
                              case measure => simp [intOf]
                · obtain rfl : y = 2 := by omega
                  have HB := HB.out
                  go_wp2_with (go_at_call 8; refine (alive_any _).mono ?_; rintro e w' ⟨rfl, hb⟩; replace HB := HB.trans (hb.mono HB.size); clear hb)
                  go_ret
                  exact ⟨rfl, HB⟩
      · have HB : Below W.heap.size W W := Below.refl _ _
        by_cases hn : 200 < n
        all_goals
          go_wp2_with (go_at_call 8; refine (alive_any _).mono ?_; rintro e w' ⟨rfl, hb⟩; replace HB := HB.trans (hb.mono HB.size); clear hb)
          go_ret
          exact ⟨rfl, HB⟩

theorem u16_nat {z : Int} (h : (Lit.int .u16 z).wf = true) : ∃ a : Nat, z = (a : Nat) ∧ a ≤ 65535 := by
  have := bounds_u16 h
  exact ⟨z.toNat, by omega, by omega⟩

theorem walk (A : Option Addr) (n cap : Nat) (Z : List Int) (B : Option Addr) (m cap' : Nat) (ss : List ByteArray) (t : Bool) (behind : ByteArray) (z : Int) (W : World) (h : SliceView W .u64 A n cap Z) (k : StrsView W B m cap' ss)
    (_ : behind.size ≤ maxLen) (hz : (Lit.int .u16 z).wf = true) :
    Calls Try.prog 4 #[.slice A n cap, .slice B m cap', .bool t, .string behind, .int .u16 z] W fun e w' => e = .returned (.bool true) ∧ Below W.heap.size W w' := by
  obtain ⟨N, h1, h2⟩ := ints_of_view h
  obtain ⟨a, rfl, ha⟩ := u16_nat hz
  exact walk0 A n cap N B m cap' ss t behind a W h1 h2 k.row k.short (by have := k.few; omega) ha

end Go.Proofs.Yteomgaaemlchfaa.wireBack
