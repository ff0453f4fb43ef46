/-
  Contracts of layer 4: Add, of a hash that New made.
-/
import Derived.Test.YteajhimmhlccdaaDoorSHash
import Derived.Test.YteajhimmhlccdaaDoorSQTail
import Derived.Lib.Strings
import Derived.Deep.CutBlock
namespace Go.Proofs.YteajhimmhlccdaaDoor
open Go.RowKit

theorem hash_part (l c R : List UInt8) (hR : R.length = 64) (h : R.take (l.length % 64) = l.drop (64 * (l.length / 64))) (hm : l.length % 64 + c.length < 64) :
    blks (l ++ c) ((l ++ c).length / 64) = blks l (l.length / 64) ∧ (R.take (l.length % 64) ++ c ++ R.drop (l.length % 64 + c.length)).take ((l ++ c).length % 64) = (l ++ c).drop (64 * ((l ++ c).length / 64)) := by
  have e1 : (l ++ c).length / 64 = l.length / 64 := by rw [List.length_append]; omega
  have e2 : (l ++ c).length % 64 = l.length % 64 + c.length := by rw [List.length_append]; omega
  rw [e1, e2]
  refine ⟨blks_app l c _ (by omega), ?_⟩
  rw [List.take_append_of_le_length (by simp [hR]; omega), List.take_of_length_le (by simp; omega), h, List.drop_append_of_le_length (by omega)]
theorem hash_full (l c R : List UInt8) (h : R.take (l.length % 64) = l.drop (64 * (l.length / 64))) (hR : R.length = 64) (hm : l.length % 64 + c.length = 64) :
    blks (l ++ c) ((l ++ c).length / 64) = cmp (blks l (l.length / 64)) (R.take (l.length % 64) ++ c ++ R.drop (l.length % 64 + c.length)) ∧
      (R.take (l.length % 64) ++ c ++ R.drop (l.length % 64 + c.length)).take ((l ++ c).length % 64) = (l ++ c).drop (64 * ((l ++ c).length / 64)) := by
  have e1 : (l ++ c).length / 64 = l.length / 64 + 1 := by rw [List.length_append]; omega
  have e2 : (l ++ c).length % 64 = 0 := by rw [List.length_append]; omega
  have e3 : R.take (l.length % 64) ++ c ++ R.drop (l.length % 64 + c.length) = blk (l ++ c) (l.length / 64) := by
    rw [hm, List.drop_of_length_le (by omega), List.append_nil, h, blk, List.drop_append_of_le_length (by omega), List.take_of_length_le (by simp; omega)]
  rw [e1, e2]
  refine ⟨?_, ?_⟩
  · rw [blks, blks_app l c _ (by omega), e3]
  · rw [List.take_zero, List.drop_of_length_le (by rw [List.length_append]; omega)]

def strLen : Value → Nat | .string X => X.size | _ => 0
theorem grownBy_of_below {w w' : World} (h : Below w.heap.size w w') (row : Option Nat) : w.grownBy w' row := ⟨h.os, h.tape, h.output, h.size, fun k hk _ => h.block k hk⟩
theorem grownBy_drewN (w : World) (n : Nat) (row : Option Nat) : w.grownBy (w.drewN n) row := ⟨rfl, rfl, rfl, Nat.le_refl _, fun _ _ _ => rfl⟩
theorem grownBy_set (w : World) (g i : Nat) (v : Value) : w.grownBy (w.setCell ⟨g, i, none⟩ v) (some g) := ⟨rfl, rfl, rfl, by simp [World.setCell], fun k _ hk => Below.heap_setCell _ _ _ _ (fun e => hk (by simp [e]))⟩
theorem sz5 (w : World) : (Go.sizeOf 5).run Tryd.prog w = .ok 1 w := by
  have h := size5
  cases hq : Tryd.prog.info? 5 with
  | none => simp [hq] at h
  | some i => simp [hq] at h; simp [Go.sizeOf, typeInfo, hq, h]
theorem Tab.grown {w w' : World} {g : Nat} {l : List UInt8} (h : Tab w) (hH : Hash w g l) (hg : w.grownBy w' (some g)) : Tab w' := by
  intro i hi
  have h0 := h 0 (by decide)
  have hl := World.block_lt_of_cell? w _ h0
  obtain ⟨R, h1, _⟩ := hH
  have hne : (some 0 : Option Nat) ≠ some g := by
    intro e
    injection e with e
    have h2 := h1.made
    rw [← e] at h2
    rw [h0] at h2
    cases h2
  rw [hg.cell_far ⟨0, i, none⟩ hl hne]
  exact h i hi
theorem HashAt.drewN {w : World} {g : Nat} {st : St} {R : List UInt8} {n : Nat} (h : HashAt w g st R n) (m : Nat) : HashAt (w.drewN m) g st R n := h.grown (row := none) (grownBy_drewN w m none) (by simp)
theorem HashAt.there {w : World} {g : Nat} {st : St} {R : List UInt8} {n : Nat} (h : HashAt w g st R n) (r m : Nat) (hr : r + m ≤ 64) : w.there g (9 + r) m := fun j hj =>
  ⟨by have := h.rest (r + j) (by omega); rw [show 9 + (r + j) = 9 + r + j by omega] at this; rw [this]; rfl, h.free _ (by omega)⟩
theorem HashAt.there_st {w : World} {g : Nat} {st : St} {R : List UInt8} {n : Nat} (h : HashAt w g st R n) : w.there g 1 8 := fun j hj => ⟨by rw [h.state j hj]; rfl, h.free _ (by omega)⟩

theorem stL_one (s : St) : ∀ v ∈ stL s, v.oneCell' = true := cel32_one s.l
theorem wpList_store_eq {P : Program} {ops : Array Oper} {rest : List Oper} {op : Oper} {a : Act} {w : World} {Q : Exit → Act → World → Prop} (hgd : op.guard = none) (ty : TypeId) (x y : Operand) (ho : op.op = .store ty x y)
    (b o : Nat) (cs : List Value) (hx : a.eval x = .pointer (some ⟨b, o, none⟩)) (hy : a.eval y = .agg cs.toArray)
    (ht : w.there b o cs.length) (hi : (P.info? ty).map (·.size) = some cs.length) (h1 : ∀ v ∈ cs, v.oneCell' = true)
    (hd : op.dst = none) (h : ∀ w', Hid (w' = w.setCells b o cs) → wpList P ops Q rest a w') : wpList P ops Q (op :: rest) a w :=
  wpList_store_mid hgd ty x y ho b o cs.toArray hx hy (by simpa using ht) (by simpa using hi) (all_oneCell_toArray h1) (by rw [hd]; show wpList P ops Q rest a _; simpa using h _ rfl)

set_option maxRecDepth 100000 in
set_option maxHeartbeats 1000000 in
theorem Add_any (g : Nat) (l : List UInt8) (s : ByteArray) (hlen : l.length + s.size ≤ 1099511627776) (w : World) (hH : Hid (Hash w g l)) (hT : Hid (Tab w)) :
    Calls Tryd.prog 11 #[.pointer (some ⟨g, 0, none⟩), .string s] w fun e w' => e = .returned (.tuple #[]) ∧ Hash w' g (l ++ s.data.toList) ∧ w.grownBy w' (some g) := by
  have hmade : w.cell? ⟨g, 0, none⟩ = some (.bool true) := by obtain ⟨R, h1, _⟩ := hH.out; exact h1.made
  go_enter Tryd.func11, Tryd.ntmps11
  go_wp2_with fail
  clear hmade
  go_loopw [1, 4] (fun sv _ wr => ∃ (X : ByteArray) (l' : List UInt8), sv = .string X ∧ Hid (l' ++ X.data.toList = l ++ s.data.toList) ∧ Hid (Hash wr g l') ∧ Hid (w.grownBy wr (some g))) (fun sv _ _ => strLen sv)
  case atStart => exact ⟨s, l, rfl, rfl, hH.out, World.grownBy.refl _ _⟩
  case round =>
    obtain ⟨X, l', rfl, HL, HX, HG⟩ := hrel
    have hlen' : l'.length + X.size ≤ 1099511627776 := by
      have := congrArg List.length HL.out
      simp only [List.length_append] at this
      have e1 : X.data.toList.length = X.size := by simp
      have e2 : s.data.toList.length = s.size := by simp
      omega
    by_cases hx : 0 < X.size
    · obtain ⟨R, h1, h2⟩ := HX.out
      obtain ⟨n0, hn0⟩ : ∃ n, l'.length = n := ⟨_, rfl⟩
      obtain ⟨r, hr⟩ : ∃ r, n0 % 64 = r := ⟨_, rfl⟩
      have hr64 : r < 64 := by omega
      obtain ⟨m, hm⟩ : ∃ m, Nat.min X.size (64 - r) = m := ⟨_, rfl⟩
      have hm1 : 0 < m := by rw [← hm]; exact Nat.lt_min.2 ⟨hx, by omega⟩
      have hm2 : m ≤ X.size := by rw [← hm]; exact Nat.min_le_left _ _
      have hm3 : m ≤ 64 - r := by rw [← hm]; exact Nat.min_le_right _ _
      have HM := Lib.hid hm
      rw [hn0] at h1 hlen'
      have c73 := h1.count
      have HR0 : ((n0 : Int) % 64) = (r : Int) := by omega
      have k1 : (0 : Int) ≤ (r : Int) := by omega
      have k2 : (r : Int) ≤ 64 := by omega
      have k3 : ¬ 64 = r := by omega
      have HA := Lib.hid h1
      have HR64 := Lib.hid h1.len
      have H2 := Lib.hid h2
      have HN := Lib.hid hn0
      have HRR := Lib.hid hr
      clear hm h1 h2 hn0 hr
      go_wp2_with fail
      refine wp_region_quiet_tail 10 (by kernel_rfl) (by kernel_rfl) ?_
      simp only [List.take_succ_cons, List.take_zero, List.drop_succ_cons, List.drop_zero]
      repeat (go_big_quiet_step (fail))
      refine wpQuiet_nil ?_
      rintro _ ⟨nq, rfl⟩
      have HA1 := Lib.hid (HA.out.drewN nq)
      have HG1 := Lib.hid (HG.out.trans (grownBy_drewN wr nq (some g)))
      clear c73 HA HG HX
      generalize wr.drewN nq = w1 at *
      have HTH := Lib.hid (HA1.out.there r m (by omega))
      obtain ⟨c, hc⟩ : ∃ c, X.data.toList.take m = c := ⟨_, rfl⟩
      have hcl : c.length = m := by rw [← hc, List.length_take]; simp; omega
      have HX' : Hid ((l' ++ c) ++ (X.extract m X.size).data.toList = l ++ s.data.toList) := by
        show _ = _
        rw [← HL.out, ← hc, Lib.extract_data, List.append_assoc]
        congr 1
        have e : X.data.toList.length = X.size := by simp
        rw [show (X.data.toList.drop m).take (X.size - m) = X.data.toList.drop m from List.take_of_length_le (by simp), List.take_append_drop]
      have HC := Lib.hid hc
      have hcl' := Lib.hid hcl
      clear hc HL hcl
      have k4 : (m : Int) ≤ (X.size : Int) := by omega
      go_upto_region 4 with (refine wpList_copy_str (by rfl) (.tmp 25) (.tmp 26) 35 9 (by rfl) 5 Tryd.underlying35 sz5 g (9 + r) (64 - r) (64 - r) (by rfl) X (by rfl) m HM.out HTH.out ?_; intro w2 e2)
      rw [HC.out] at e2 ⊢
      have hp := HA1.out.put r c (by rw [hcl'.out]; omega)
      have hg2 := HG1.out.trans (grownBy_setCells g (cel8 c) (9 + r) w1)
      rw [← e2] at hp hg2 ⊢
      clear e2 HA1 HG1 HTH
      clear w1
      obtain ⟨N1, hN1⟩ : ∃ N, n0 + m = N := ⟨_, rfl⟩
      have V : ((n0 : Int) + (m : Int)) = (N1 : Int) := by omega
      have c73 := hp.count
      have f73 := hp.free 73 (by decide)
      have HP := Lib.hid hp
      have HG2 := Lib.hid hg2
      have HN1 := Lib.hid hN1
      clear hp hg2 hN1
      go_upto_region 5 with fail
      have hp := HP.out.setCount N1
      have hg3 := HG2.out.trans (grownBy_set w2 g 73 (.int .u64 (N1 : Nat)))
      generalize w2.setCell ⟨g, 73, none⟩ (.int .u64 (N1 : Nat)) = w3 at *
      clear HP HG2 c73 f73 V
      have c73 := hp.count
      have HL1 : Hid (l'.length % 64 = r) := by show _ = _; rw [HN.out, HRR.out]
      have HLC : Hid ((l' ++ c).length = N1) := by show _ = _; rw [List.length_append, HN.out, hcl'.out, HN1.out]
      have hsz : (X.extract m X.size).size < X.size := by rw [ByteArray.size_extract]; omega
      by_cases he : N1 % 64 = 0
      · have V : ((N1 : Int) % 64) = 0 := by omega
        have hfull := hash_full l' c R H2.out HR64.out (by rw [HL1.out, hcl'.out]; have := HN1.out; have := HRR.out; omega)
        obtain ⟨st, hst⟩ : ∃ st, blks l' (n0 / 64) = st := ⟨_, rfl⟩
        obtain ⟨R1, hR1⟩ : ∃ R1, R.take r ++ c ++ R.drop (r + m) = R1 := ⟨_, rfl⟩
        rw [hcl'.out, hst, hR1] at hp
        rw [HL1.out, hcl'.out, HN.out, hst, hR1] at hfull
        have hok : st.ok := hst ▸ blks_ok l' _
        have hRl := hp.len
        have HF := Lib.hid hfull
        have HP := Lib.hid hp
        have HT3 : Hid (Tab w3) := hT.out.grown hH.out hg3
        have hlt3 : g < w3.heap.size := World.block_lt_of_cell? w3 _ hp.made
        have HG3 := Lib.hid hg3
        clear hfull hst hR1 hp hg3 H2 HR64
        go_wp2_with fail
        refine wp_region_below_tail 12 (by kernel_rfl) (by kernel_rfl) ?_
        simp only [List.take_succ_cons, List.take_zero, List.drop_succ_cons, List.drop_zero]
        iterate 4 (go_big_quiet_step (fail))
        refine wpQuiet_load_mid (by rfl) 44 (.tmp 49) (by rfl) g 1 (by rfl) (stL st) _ ?_ Tryd.underlying44 rfl size44 ?_
        · rintro w' ⟨p, rfl⟩
          exact (HP.out.below (below_regrown w3 p.d p.os) hlt3).range_st
        go_simp
        iterate 3 (go_big_quiet_step (fail))
        refine wpQuiet_load_mid (by rfl) 45 (.tmp 53) (by rfl) g 9 (by rfl) (cel8 R1) _ ?_ Tryd.underlying45 rfl (by rw [cel8_len, hRl]; exact size45) ?_
        · rintro w' ⟨p, rfl⟩
          exact (HP.out.below (below_regrown w3 p.d p.os) hlt3).range_rest
        go_simp
        repeat (go_big_quiet_step ((go_at_call 18; exact Calls.regrown_of (next_any st hok R1 hRl _ (HT3.out.below (below_regrown w3 _ _))))))
        refine wpQuiet_nil ?_
        intro p
        have HP5 := Lib.hid (HP.out.below (below_regrown w3 p.d p.os) hlt3)
        have HG5 := Lib.hid (HG3.out.trans (grownBy_of_below (below_regrown w3 p.d p.os) (some g)))
        clear HP HG3 hlt3 HT3 c73 V
        generalize Sort.grow (redrawn w3 p.d) p.os = w5 at *
        clear w3
        go_wp2_with (refine wpList_store_eq (by rfl) 44 (.tmp 57) (.tmp 55) (by rfl) g 1 (stL (cmp st R1)) (by rfl) (by rfl) HP5.out.there_st size44 (stL_one _) (by rfl) ?_; intro w6 e6)
        have HX2 : Hid (Hash w6 g (l' ++ c)) := by
          refine ⟨R1, ?_, HF.out.2⟩
          rw [HF.out.1, HLC.out]
          exact HP5.out.setState (cmp st R1) e6.out
        have HG6 : Hid (w.grownBy w6 (some g)) := by
          have := HG5.out.trans (grownBy_setCells g (stL (cmp st R1)) 1 w5)
          rw [← e6.out] at this
          exact this
        clear HP5 HG5 e6 HF
        go_roundw
        case rel => exact ⟨_, l' ++ c, rfl, HX', HX2, HG6⟩
        case measure => exact hsz
      · have V : ¬ ((N1 : Int) % 64 = 0) := by omega
        have hpart := hash_part l' c R HR64.out H2.out (by rw [HL1.out, hcl'.out]; have := HN1.out; have := HRR.out; omega)
        have HX2 : Hid (Hash w3 g (l' ++ c)) := by
          refine ⟨_, ?_, hpart.2⟩
          rw [hpart.1, HLC.out, HL1.out, hcl'.out, HN.out]
          rw [hcl'.out] at hp
          exact hp
        have HG3 := Lib.hid hg3
        clear hpart hp hg3
        go_wp2_with fail
        go_roundw
        case rel => exact ⟨_, l' ++ c, rfl, HX', HX2, HG3⟩
        case measure => exact hsz
    · have HE : Hid (l' = l ++ s.data.toList) := by
        have h0 : X.data.toList = [] := List.eq_nil_of_length_eq_zero (by have e : X.data.toList.length = X.size := by simp
                                                                          omega)
        have := HL.out
        rwa [h0, List.append_nil] at this
      go_wp2_with fail
      go_end0
      exact ⟨rfl, by rw [← HE.out]; exact HX.out, HG.out⟩
end Go.Proofs.YteajhimmhlccdaaDoor
