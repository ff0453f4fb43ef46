/-
  LogKeeps, the walk, over any disk and any log ('DoorB', 'LDoor').
-/
import Derived.Test.YtikbokbmaihdbaaDoorLKPure
import Derived.Test.YtikbokbmaihdbaaDoorLRow
import Derived.Test.YtikbokbmaihdbaaDoorLSame
import Derived.Test.YtikbokbmaihdbaaDoorFTot
import Derived.Test.YtikbokbmaihdbaaDoorRowsArgs
import Derived.Test.YtikbokbmaihdbaaDoorArgs
import Derived.OpenShut
namespace Go.Proofs.YtikbokbmaihdbaaDoor.logKeeps
open Go.RowKit Go.ChangeShapes Go.WideShapes

def Wants (D : Disks) (L : Logs) : Prop := DoorB D ∧ LDoor D L

def rtot (R : List TRow) : Nat := (R.map fun r => tot 1 r.ts).sum
theorem rtot_snoc (R : List TRow) (i : Nat) (h : i < R.length) : rtot (R.take (i + 1)) = rtot (R.take i) + tot 1 R[i].ts := by
  rw [List.take_succ_eq_append_getElem h, rtot, List.map_append, List.sum_append]; simp [rtot]
theorem rtot_le (R : List TRow) (i : Nat) : rtot (R.take i) ≤ rtot R := by
  have e : rtot R = rtot (R.take i) + rtot (R.drop i) := by rw [rtot, rtot, rtot, ← List.sum_append, ← List.map_append, List.take_append_drop]
  omega
theorem tot_len (ss : List ByteArray) : ss.length ≤ tot 1 ss := by
  induction ss with
  | nil => simp [tot]
  | cons t ss ih => simp only [tot, List.map_cons, List.sum_cons, List.length_cons] at ih ⊢; omega
theorem tot_app (a b : List ByteArray) : tot 1 (a ++ b) = tot 1 a + tot 1 b := by simp [tot]
theorem frs_fits {P : List ByteArray} {m : Nat} (h : tot 1 P ≤ m) : (frs P).length ≤ 8 * m := by
  have h1 := frs_tot 1 (by decide) P
  have h2 := tot_len P
  omega

theorem lone_did {D : Disks} {w0 w : World} {g : Nat} {F O : Nat → Prop} {f : FuncId} {args : Array Value} {r : Dsk × Nat} (hO : ∀ k, O k → w0.heap.size ≤ k) (hb : Below w0.heap.size w0 w) (hF : ∀ k, F k → k < w.heap.size ∧ ¬ O k) (hc : Calls Tryd.prog f args w (Did D O w g r)) :
    Calls Tryd.prog f args w fun e w' => e = .returned (.int .i64 (r.2 : Nat)) ∧ Lone D w0 w' g r.1 F ∧ Kept F w w' := by
  refine hc.mono ?_
  rintro e w' ⟨rfl, O', hd', ho, hn⟩
  have hs := hb.size
  refine ⟨rfl, ⟨O', hd', fun k hk => ?_, hb.trans (ho.below hO hs), fun k hk => ⟨Nat.lt_of_lt_of_le (hF k hk).1 ho.size, fun h1 => ?_⟩⟩, fun k hk => ho.block k (hF k hk).1 (hF k hk).2⟩
  · rcases hn k hk with h1 | h1
    · exact hO k h1
    · omega
  · rcases hn k h1 with h2 | h2
    · exact (hF k hk).2 h2
    · have := (hF k hk).1; omega
theorem int_view (w : World) (z : Int) (hz : (Lit.int .i64 z).wf = true) (t : TypeId) : SliceView (w.alloc (.cells #[.int .i64 z] t)) .i64 (some ⟨w.heap.size, 0, none⟩) 1 1 [z] := by
  refine ⟨rfl, Nat.le_refl _, by unfold maxLen; omega, (fun h => by cases h), fun k hk => ⟨w.heap.size, 0, rfl, by simp, ?_⟩, fun n hn => by simp at hn; rw [hn]; exact hz⟩
  obtain rfl : k = 0 := by omega
  rw [cell_of_row _ _ _ _ _ _ (heap_alloc_new w _)]
  simp
/-- Crash(z), where the row [z] has just been laid. -/
theorem crash_one {D : Disks} (hD : DoorB D) {w0 w : World} {g : Nat} {σ : Dsk} {F : Nat → Prop} (h : Lone D w0 w g σ F) (z : Int) (hz : (Lit.int .i64 z).wf = true) :
    Calls Tryd.prog 16 #[ptr g, .slice (some ⟨w.heap.size, 0, none⟩) 1 1] (w.alloc (.cells #[.int .i64 z] 3)) fun e w' => e = .returned (.int .i64 ((crash σ [z]).2 : Nat)) ∧ Lone D w0 w' g (crash σ [z]).1 F ∧ Kept F (w.alloc (.cells #[.int .i64 z] 3)) w' := by
  obtain ⟨O, hd, hO, hb, hF⟩ := h
  have ha := (Below.refl w.heap.size w).alloc (Nat.le_refl _) (.cells #[.int .i64 z] 3)
  refine lone_did hO (hb.trans (ha.mono hb.size)) (fun k hk => ⟨Nat.lt_of_lt_of_le (hF k hk).1 ha.size, (hF k hk).2⟩) (hD.crash _ 1 1 [z] (hD.below hd ha) (int_view w z hz _) (fun a had ho => ?_) (by decide))
  cases had
  have h1 := hD.own hd _ ho
  exact Nat.lt_irrefl _ h1
theorem crash_none {D : Disks} (hD : DoorB D) {w0 w : World} {g : Nat} {σ : Dsk} {F : Nat → Prop} (h : Lone D w0 w g σ F) :
    Calls Tryd.prog 16 #[ptr g, .slice none 0 0] w fun e w' => e = .returned (.int .i64 ((crash σ []).2 : Nat)) ∧ Lone D w0 w' g (crash σ []).1 F ∧ Kept F w w' :=
  h.turned (fun O hd _ => hD.crash none 0 0 [] hd ⟨rfl, Nat.le_refl _, Nat.zero_le _, fun _ => ⟨rfl, rfl⟩, fun t ht => by omega, fun n hn => by cases hn⟩ (fun a ha => by cases ha) (by decide))
theorem fuse_one {D : Disks} (hD : DoorB D) {w0 w : World} {g : Nat} {σ : Dsk} {F : Nat → Prop} (h : Lone D w0 w g σ F) (z : Nat) (hz : z < 256) :
    Calls Tryd.prog 17 #[ptr g, .int .i64 z] w fun e w' => e = .returned (.int .i64 0) ∧ Lone D w0 w' g ⟨σ.room, some z, σ.fs⟩ F ∧ Kept F w w' := by
  have hf : fuse σ (z : Int) = (⟨σ.room, some z, σ.fs⟩, 0) := by unfold fuse; rw [if_neg (by omega)]; rfl
  have K := h.turned (f := 17) (args := #[ptr g, .int .i64 z]) (fun O hd _ => hD.fuse (z : Int) hd (by simp only [Lit.wf, Bool.and_eq_true, decide_eq_true_eq]; exact ⟨show (-9223372036854775808 : Int) ≤ _ by omega, show _ ≤ (9223372036854775807 : Int) by omega⟩))
  rw [hf] at K
  exact K
theorem Strs.firsts {w : World} {A : Option Addr} {n j : Nat} {ss : List ByteArray} (h : Strs w A n ss) (hj : j ≤ n) : Strs w A j (ss.take j) :=
  ⟨by rw [List.length_take, h.len]; omega, fun i hi => by
    have hi' : i < ss.length := by rw [List.length_take] at hi; omega
    obtain ⟨b, off, e, hl, hc⟩ := h.cell i hi'
    exact ⟨b, off, e, hl, by rw [hc, List.getElem_take]⟩⟩

set_option maxRecDepth 100000 in
set_option maxHeartbeats 4000000 in
theorem walk {D : Disks} {L : Logs} (h : Wants D L) (A : Option Addr) (len cap : Nat) (R : List TRow) (A1 : Option Addr) (l1 c1 : Nat) (Z1 : List Int) (A2 : Option Addr) (l2 c2 : Nat) (Z2 : List Int) (w : World) (hv : RowsView w A len cap R) (hv1 : SliceView w .u8 A1 l1 c1 Z1) (hv2 : SliceView w .i64 A2 l2 c2 Z2) (hT : Tab w) :
    Calls Tryd.prog 3 #[.slice A len cap, .slice A1 l1 c1, .slice A2 l2 c2] w fun e w' => e = .returned (.bool true) ∧ Below w.heap.size w w' := by
  have HD := Lib.hid h.1
  have HL := Lib.hid h.2
  have HW : Hid (∀ w : World, Tab w → Calls Tryd.prog 8 #[] w fun e w' => e = .returned (.bool true) ∧ Below w.heap.size w w') := fun w hT => lworks_any h.1 h.2 w hT
  have HT := Lib.hid hT
  have HR := Lib.hid hv
  have HLN := Lib.hid hv.length
  have HV1 := Lib.hid hv1
  have HV2 := Lib.hid hv2
  have hfew := hv.few
  have hfew1 : l1 ≤ maxLen := Nat.le_trans hv1.2.1 hv1.2.2.1
  have hfew2 : l2 ≤ maxLen := Nat.le_trans hv2.2.1 hv2.2.2.1
  unfold maxLen at hfew1 hfew2
  clear h hT hv hv1 hv2
  go_enter Tryd.func3, Tryd.ntmps3
  go_wp2_with fail
  go_loopw [7, 8] (fun nv iv wr => ∃ i n : Nat, i ≤ len ∧ i ≤ 50 ∧ nv = .int .i64 n ∧ iv = .int .i64 i ∧ Hid (n = rtot (R.take i)) ∧ n ≤ i * (60 * 140737488351233) ∧ Hid (∀ r ∈ R.take i, r.kl ≤ 60) ∧ w = wr) (fun _ iv _ => len - (intOf iv).toNat)
  case atStart => exact ⟨0, 0, Nat.zero_le _, by omega, rfl, rfl, by show _ = _; simp [rtot], by omega, by intro r hr; simp at hr, rfl⟩
  case round =>
    obtain ⟨i, n, hi, hi2, rfl, rfl, HN, hn, H60, rfl⟩ := hrel
    by_cases hgo : i < len ∧ i < 50
    · have g1 := hgo.1
      have g2 := hgo.2
      clear hgo
      have hil : i < R.length := by rw [HLN.out]; exact g1
      obtain ⟨b, off, rfl, hbl, hc⟩ := HR.out.cell i hil
      have hrow := HR.out.ok R[i] (List.getElem_mem _)
      have hsn := rtot_snoc R i hil
      have htk : R.take (i + 1) = R.take i ++ [R[i]] := List.take_succ_eq_append_getElem hil
      obtain ⟨⟨K, kl, kc, ts⟩, hr⟩ : ∃ r, R[i] = r := ⟨_, rfl⟩
      rw [hr] at hc hrow hsn htk
      dsimp only at hc hrow hsn
      have HSN := Lib.hid hsn
      have HTK := Lib.hid htk
      have HROW := Lib.hid hrow
      have HKL := Lib.hid hrow.row.len
      have hkf := hrow.few
      clear hr hsn htk hrow
      by_cases hbig : 60 < kl
      · go_wp2_with (go_at_call 8; refine (HW.out _ HT.out).mono ?_; rintro e w' ⟨rfl, hb⟩)
        go_ret
        exact ⟨rfl, hb⟩
      go_wp2_with fail
      go_loop [7, 9] (fun nv kv => ∃ k m : Nat, k ≤ kl ∧ nv = .int .i64 m ∧ kv = .int .i64 k ∧ Hid (m = n + tot 1 (ts.take k)) ∧ m ≤ n + k * 140737488351233) (fun _ kv => kl - (intOf kv).toNat)
      case atStart => exact ⟨0, n, Nat.zero_le _, rfl, rfl, by show _ = _; simp [tot], by omega⟩
      case round =>
        obtain ⟨k, m, hk, rfl, rfl, HM, hm⟩ := hrel
        by_cases hkl : k < kl
        · have hkt : k < ts.length := by rw [HKL.out]; exact hkl
          obtain ⟨b2, o2, rfl, hb2, hc2⟩ := HROW.out.row.cell k hkt
          have hxs := HROW.out.short ts[k] (List.getElem_mem _)
          have hs2 := tot_snoc 1 ts k hkt
          obtain ⟨x, hx⟩ : ∃ x, ts[k] = x := ⟨_, rfl⟩
          rw [hx] at hc2 hxs hs2
          have HE : Hid (m + 1 + x.size = n + tot 1 (ts.take (k + 1))) := by show _ = _; rw [hs2, HM.out]; omega
          clear hx hs2
          go_wp2_with fail
          go_round
          case rel => exact ⟨k + 1, m + 1 + x.size, by omega, by go_num, by go_num, HE, by omega⟩
          case measure => simp [intOf]; omega
        · have hke : ts.take k = ts := List.take_of_length_le (by rw [HKL.out]; omega)
          rw [hke] at HM
          have HN2 : Hid (m = rtot (R.take (i + 1))) := by show _ = _; rw [HSN.out, HM.out, HN.out]
          have H602 : Hid (∀ r ∈ R.take (i + 1), r.kl ≤ 60) := fun r hr => by
            rw [HTK.out] at hr
            rcases List.mem_append.1 hr with h1 | h1
            · exact H60.out r h1
            · simp at h1; subst h1; show kl ≤ 60; omega
          clear hke HM
          go_wp2_with fail
          go_roundw
          case rel => exact ⟨i + 1, m, by omega, by omega, rfl, by go_num, HN2, by omega, H602, trivial⟩
          case measure => simp [intOf]; omega
    by_cases hbig : 12 < len
    · by_cases g1 : i < len
      · have g2 : 50 ≤ i := by omega
        clear hgo
        go_wp2_with (go_at_call 8; refine (HW.out _ HT.out).mono ?_; rintro e w' ⟨rfl, hb⟩)
        go_ret
        exact ⟨rfl, hb⟩
      · clear hgo
        go_wp2_with (go_at_call 8; refine (HW.out _ HT.out).mono ?_; rintro e w' ⟨rfl, hb⟩)
        go_ret
        exact ⟨rfl, hb⟩
    have g1 : ¬ i < len := by omega
    have hie : R.take i = R := List.take_of_length_le (by rw [HLN.out]; omega)
    rw [hie] at HN H60
    clear hgo hie
    by_cases hsum : 4096 < n
    · go_wp2_with (go_at_call 8; refine (HW.out _ HT.out).mono ?_; rintro e w' ⟨rfl, hb⟩)
      go_ret
      exact ⟨rfl, hb⟩
    by_cases hb1 : 30 < l1
    · go_wp2_with (go_at_call 8; refine (HW.out _ HT.out).mono ?_; rintro e w' ⟨rfl, hb⟩)
      go_ret
      exact ⟨rfl, hb⟩
    by_cases hb2 : 60 < l2
    · go_wp2_with (go_at_call 8; refine (HW.out _ HT.out).mono ?_; rintro e w' ⟨rfl, hb⟩)
      go_ret
      exact ⟨rfl, hb⟩
    have HN4 : Hid (rtot R ≤ 4096) := by show _ ≤ _; rw [← HN.out]; omega
    have HN0 := Lib.hid hn
    clear HN hn
    go_wp2_with fail
    refine (new_at HD.out (Below.refl _ _) 65536 (by decide)).mono ?_
    rintro e w1 ⟨g, rfl, hm, _⟩
    have hm' : Lone D w w1 g ⟨65536, none, []⟩ noF := hm.lone
    have M1 := Lib.hid (Lone.frame (F' := rowF (.slice none 0 0)) HD.out hm' (Or.inl (Below.refl _ _)) (fun k hk => by cases hk))
    have HR1 := Lib.hid Rest.start
    obtain ⟨σ1, hσ1⟩ : ∃ s : Dsk, (⟨65536, none, []⟩ : Dsk) = s := ⟨_, rfl⟩
    rw [hσ1] at M1 HR1
    clear hm hm' hσ1
    go_wp2_with fail
    go_loopw [12, 13, 14] (fun pv sv iv wr => ∃ (i : Nat) (P : List ByteArray) (s : Nat) (σ : Dsk) (PA : Option Addr) (m pc : Nat), i ≤ len ∧ pv = .slice PA m pc ∧ sv = .int .i64 s ∧ iv = .int .i64 i ∧ Hid (P.length = m) ∧ s ≤ m ∧ m ≤ 4096 ∧ Hid (Lone D w wr g σ (rowF (.slice PA m pc))) ∧ Hid (wr.ownsRow w.heap.size 9 1 (.slice PA m pc) P.length (txt P)) ∧ Hid (Rest σ P s) ∧ Hid (tot 1 P ≤ rtot (R.take i))) (fun _ _ iv _ => len - (intOf iv).toNat)
    case atStart => exact ⟨0, [], 0, σ1, none, 0, 0, Nat.zero_le _, rfl, rfl, rfl, rfl, Nat.le_refl _, Nat.zero_le _, M1, World.ownsRow_nil _ _ _ _, HR1, by show _ ≤ _; simp [tot, rtot]⟩
    case round =>
      clear M1 HR1
      obtain ⟨i, P, s, σ, PA, m, pc, hi, rfl, rfl, rfl, HM, hsm, hm4, HB, HO, HRS, HTO⟩ := hrel
      by_cases hlt : i < len
      · have hil : i < R.length := by rw [HLN.out]; exact hlt
        obtain ⟨b, off, rfl, hbl, hc⟩ := HR.out.cell i hil
        have hrow := HR.out.ok R[i] (List.getElem_mem _)
        have h60 := H60.out R[i] (List.getElem_mem _)
        have hsn := rtot_snoc R i hil
        have hle := rtot_le R (i + 1)
        obtain ⟨⟨K, kl, kc, ts⟩, hr⟩ : ∃ r, R[i] = r := ⟨_, rfl⟩
        rw [hr] at hc hrow h60 hsn
        dsimp only at hc hrow h60 hsn
        have HC := Lib.hid hc
        have HROW := Lib.hid hrow
        have HKL := Lib.hid hrow.row.len
        have HSN := Lib.hid hsn
        have HLE : Hid (rtot (R.take i) + tot 1 ts ≤ 4096) := by have := HN4.out; show _ ≤ _; omega
        have hps : ∀ t ∈ P, t.size ≤ 1048576 := fun t ht => by
          have h1 := tot_mem (c := 1) ht
          have h2 := HTO.out
          have h3 := HLE.out
          omega
        have hko := HRS.out.opens hps
        have hko2 := lopen_at HL.out rA HB.out (by rw [HRS.out.1]; decide) (by decide) HT
        obtain ⟨ro, hro⟩ : ∃ r, lopen σ rA = r := ⟨_, rfl⟩
        rw [hro] at hko hko2
        obtain ⟨τ, er, ps⟩ := ro
        dsimp only at hko
        have HKO := Lib.hid hko
        have HKC := Lib.hid hko2
        clear hr hc hrow hsn hle hps hko hko2 hro
        go_wp2_with fail
        refine HKC.out.mono ?_
        rintro e w2 ⟨⟨h0, x, A3, c3, rfl, hb, hst, hnil⟩ | ⟨h0, A3, c3, rfl, hl⟩, hk2⟩
        case inr =>
          rcases HKO.out with ⟨rfl, hany⟩ | ⟨j, hj1, hj2, h00, _⟩
          case inr => exact absurd h00 h0
          have M2 := Lib.hid hl
          have HO2 := Lib.hid (row_keep HO.out hk2)
          have HA2 := Lib.hid hany
          have HT2 : Hid (tot 1 P ≤ rtot (R.take (i + 1))) := by have h1 := HTO.out; have h2 := HSN.out; show _ ≤ _; omega
          clear HKO HKC hl hk2 hany h0 HB HO HRS HTO
          by_cases hk2 : i < l2
          · obtain ⟨b5, o5, rfl, hb5, hc5⟩ := HV2.out.2.2.2.2.1 i hk2
            have hw5 := HV2.out.2.2.2.2.2 (Z2.getD i 0) (by have := HV2.out.1; rw [List.getD_eq_getElem?_getD, List.getElem?_eq_getElem (by omega)]; exact List.getElem_mem _)
            obtain ⟨zk, hzk⟩ : ∃ z : Int, Z2.getD i 0 = z := ⟨_, rfl⟩
            rw [hzk] at hc5 hw5
            have hc5' := (M2.out.bel.cell (p := ⟨b5, o5 + i, none⟩) hb5).trans hc5
            have HK5 := Lib.hid (crash_one HD.out M2.out zk hw5)
            have HR5 := Lib.hid (HA2.out.crash [zk])
            have HO5 := Lib.hid (owns_below HO2.out ((Below.refl _ _).alloc (Nat.le_refl _) (.cells #[.int .i64 zk] 3)))
            obtain ⟨rc, hrc⟩ : ∃ r, crash τ [zk] = r := ⟨_, rfl⟩
            rw [hrc] at HK5 HR5
            clear hc5 hw5 hzk hrc M2 HO2 HA2
            go_wp2_with fail
            refine HK5.out.mono ?_
            rintro e w7 ⟨rfl, hm7, hk7⟩
            have MC := Lib.hid hm7
            have HOC := Lib.hid (row_keep HO5.out hk7)
            have HRC := HR5
            clear hm7 hk7 hc5' HK5 HO5 HR5
            by_cases hk1 : i < l1
            · obtain ⟨b6, o6, rfl, hb6, hc6⟩ := HV1.out.2.2.2.2.1 i hk1
              have hw6 := HV1.out.2.2.2.2.2 (Z1.getD i 0) (by have := HV1.out.1; rw [List.getD_eq_getElem?_getD, List.getElem?_eq_getElem (by omega)]; exact List.getElem_mem _)
              have hz6 := bounds_u8 hw6
              obtain ⟨zf, hzf⟩ : ∃ z : Nat, Z1.getD i 0 = z := ⟨(Z1.getD i 0).toNat, by omega⟩
              rw [hzf] at hc6 hz6
              have hz256 : zf < 256 := by omega
              have hc6' := (MC.out.bel.cell (p := ⟨b6, o6 + i, none⟩) hb6).trans hc6
              clear hc6 hw6 hz6 hzf
              go_wp2_with fail
              refine (fuse_one HD.out MC.out zf hz256).mono ?_
              rintro e w8 ⟨rfl, hm8, hk8⟩
              have MF := Lib.hid hm8
              have HOF := Lib.hid (row_keep HOC.out hk8)
              have HRF := Lib.hid (HRC.out.fused (some zf))
              clear hm8 hk8 hc6' MC HOC HRC
              go_wp2_with fail
              go_roundw
              case rel => exact ⟨i + 1, P, s, _, PA, m, pc, by omega, rfl, rfl, by go_num, HM, hsm, hm4, MF, HOF, HRF, HT2⟩
              case measure => simp [intOf]; omega
            · have MF := MC
              have HOF := HOC
              have HRF := HRC
              clear MC HOC HRC
              go_wp2_with fail
              go_roundw
              case rel => exact ⟨i + 1, P, s, _, PA, m, pc, by omega, rfl, rfl, by go_num, HM, hsm, hm4, MF, HOF, HRF, HT2⟩
              case measure => simp [intOf]; omega
          · have HK5 := Lib.hid (crash_none HD.out M2.out)
            have HR5 := Lib.hid (HA2.out.crash [])
            obtain ⟨rc, hrc⟩ : ∃ r, crash τ [] = r := ⟨_, rfl⟩
            rw [hrc] at HK5 HR5
            have HO5 := HO2
            clear hrc M2 HO2 HA2
            go_wp2_with fail
            refine HK5.out.mono ?_
            rintro e w7 ⟨rfl, hm7, hk7⟩
            have MC := Lib.hid hm7
            have HOC := Lib.hid (row_keep HO5.out hk7)
            have HRC := HR5
            clear hm7 hk7 HK5 HO5 HR5
            by_cases hk1 : i < l1
            · obtain ⟨b6, o6, rfl, hb6, hc6⟩ := HV1.out.2.2.2.2.1 i hk1
              have hw6 := HV1.out.2.2.2.2.2 (Z1.getD i 0) (by have := HV1.out.1; rw [List.getD_eq_getElem?_getD, List.getElem?_eq_getElem (by omega)]; exact List.getElem_mem _)
              have hz6 := bounds_u8 hw6
              obtain ⟨zf, hzf⟩ : ∃ z : Nat, Z1.getD i 0 = z := ⟨(Z1.getD i 0).toNat, by omega⟩
              rw [hzf] at hc6 hz6
              have hz256 : zf < 256 := by omega
              have hc6' := (MC.out.bel.cell (p := ⟨b6, o6 + i, none⟩) hb6).trans hc6
              clear hc6 hw6 hz6 hzf
              go_wp2_with fail
              refine (fuse_one HD.out MC.out zf hz256).mono ?_
              rintro e w8 ⟨rfl, hm8, hk8⟩
              have MF := Lib.hid hm8
              have HOF := Lib.hid (row_keep HOC.out hk8)
              have HRF := Lib.hid (HRC.out.fused (some zf))
              clear hm8 hk8 hc6' MC HOC HRC
              go_wp2_with fail
              go_roundw
              case rel => exact ⟨i + 1, P, s, _, PA, m, pc, by omega, rfl, rfl, by go_num, HM, hsm, hm4, MF, HOF, HRF, HT2⟩
              case measure => simp [intOf]; omega
            · have MF := MC
              have HOF := HOC
              have HRF := HRC
              clear MC HOC HRC
              go_wp2_with fail
              go_roundw
              case rel => exact ⟨i + 1, P, s, _, PA, m, pc, by omega, rfl, rfl, by go_num, HM, hsm, hm4, MF, HOF, HRF, HT2⟩
              case measure => simp [intOf]; omega
        case inl =>
          rcases HKO.out with ⟨h70, _⟩ | ⟨j, hj1, hj2, _, hpj, hlive⟩
          case inl => dsimp only at h0; rw [h0] at h70; cases h70
          dsimp only at h0 hpj
          subst h0 hpj
          have hjl : (P.take j).length = j := by rw [List.length_take]; omega
          have hst2 := hst
          rw [hjl] at hst2
          have hjm : j ≤ m := by rw [← HM.out]; exact hj2
          have B2 := Lib.hid hb
          have hO2 := row_keep HO.out hk2
          have HO2 := Lib.hid hO2
          obtain ⟨PB, pcb, hpv, hstp, hlc, _⟩ := row_strs hO2 rfl
          injection hpv with q1 q2 q3
          subst q1 q3
          have HS2 := Lib.hid hst2
          have HP2 : Hid (Strs w2 PA j (P.take j)) := Strs.firsts hstp hj2
          have HL2 := Lib.hid hlive
          have HN2 := Lib.hid hnil
          have HQ := Lib.hid hjl
          have HTQ : Hid (tot 1 (P.take j) ≤ rtot (R.take i) + tot 1 (ts.take 0)) := by have h1 := tot_le 1 P j; have h2 := HTO.out; show _ ≤ _; omega
          have d1 : decide ((j : Int) < (s : Int)) = false := by rw [decide_eq_false_iff_not]; omega
          have d2 : decide ((m : Int) < (j : Int)) = false := by rw [decide_eq_false_iff_not]; omega
          have hjpc : j ≤ pc := by rw [← q2] at hlc; omega
          have hj4 : j ≤ 4096 := by omega
          clear HKO HKC hb hst hst2 hnil hlive hk2 HB HO HRS hstp hlc q2 hO2
          dsimp only at B2
          dsimp only
          rw [hjl]
          rw [hjl] at B2
          obtain ⟨Q, hQ⟩ : ∃ Q, P.take j = Q := ⟨_, rfl⟩
          rw [hQ] at B2 HS2 HP2 HL2 HQ HTQ
          clear hQ hjl HTO
          go_wp2_with fail
          refine (same_true A3 PA j c3 pc Q (by omega) _ HS2 HP2).mono ?_
          rintro e w3 ⟨rfl, hd3⟩
          have hb3 := of_drewN (B := w2.heap.size) hd3
          have B3 := Lib.hid (B2.out.below HD.out HL.out hb3)
          have HS3 : Hid (Strs w3 A3 j Q) := HS2.out.below hb3
          clear hd3 hb3 B2 HS2 HP2 HO2
          go_wp2_with (at_builtin; refine wpList_copy_row (by rfl) (.const (.slice none 0 0)) (.tmp 130) (by rfl) (by rfl) A3 j c3 Q (by rfl) HS3 (by omega) HN2.out ?_; intro v4 w4 HO4a HB4)
          have HO4 : Hid (w4.ownsRow w.heap.size 9 1 v4 Q.length (txt Q)) := by rw [HQ.out]; exact row_base HO4a.out B3.out.bel.size
          have B4 := Lib.hid (Both.frame (F' := rowF v4) HD.out HL.out B3.out (Or.inl HB4.out) (fun k hk => ⟨(HO4a.out.lt k hk).2, Or.inr (HO4a.out.lt k hk).1⟩))
          obtain ⟨A4, c4, hv4, _⟩ := row_strs HO4.out rfl
          rw [HQ.out] at hv4
          subst hv4
          clear HO4a HB4 HS3 B3 HN2
          go_wp2_with fail
          go_loopw [12, 13, 18] (fun pv sv kv wr => ∃ (k : Nat) (Q : List ByteArray) (s : Nat) (br : Bool) (σ : Dsk) (PA : Option Addr) (m pc : Nat), k ≤ kl ∧ pv = .slice PA m pc ∧ sv = .int .i64 s ∧ kv = .int .i64 k ∧ Hid (Q.length = m) ∧ s ≤ m ∧ m ≤ 4096 ∧ Hid (Both D L w wr g σ x rA ⟨Q, s, br⟩ (rowF (.slice PA m pc))) ∧ Hid (wr.ownsRow w.heap.size 9 1 (.slice PA m pc) Q.length (txt Q)) ∧ Hid (Live σ Q s) ∧ Hid (tot 1 Q ≤ rtot (R.take i) + tot 1 (ts.take k))) (fun _ _ kv _ => kl - (intOf kv).toNat)
          case atStart => exact ⟨0, Q, j, false, τ, A4, j, c4, Nat.zero_le _, rfl, rfl, rfl, HQ, Nat.le_refl _, hj4, B4, HO4, HL2, HTQ⟩
          case round =>
            clear B4 HO4 HL2 HTQ HQ d1 d2 hjpc hj4 hj1 hj2 hjm hsm hm4 HM
            obtain ⟨k, Q, s, br, σ, PA, m, pc, hk, rfl, rfl, rfl, HM, hsm, hm4, HB, HO, HL4, HTQ⟩ := hrel
            have HCW : Hid (∀ W, Below w.heap.size w W → W.cell? ⟨b, off + i, none⟩ = some (.slice K kl kc)) := fun W hW => (hW.cell (p := ⟨b, off + i, none⟩) hbl).trans HC.out
            by_cases hkl : k < kl
            · have hkt : k < ts.length := by rw [HKL.out]; exact hkl
              obtain ⟨b2, o2, rfl, hb2, hc2⟩ := HROW.out.row.cell k hkt
              have hs2 := tot_snoc 1 ts k hkt
              have hle2 := tot_le 1 ts (k + 1)
              obtain ⟨y, hy⟩ : ∃ y, ts[k] = y := ⟨_, rfl⟩
              rw [hy] at hc2 hs2
              have HCY : Hid (∀ W, Below w.heap.size w W → W.cell? ⟨b2, o2 + k, none⟩ = some (.string y)) := fun W hW => (hW.cell (p := ⟨b2, o2 + k, none⟩) hb2).trans hc2
              have HT1 : Hid (tot 1 Q + (1 + y.size) ≤ rtot (R.take i) + tot 1 (ts.take (k + 1))) := by have := HTQ.out; show _ ≤ _; omega
              have HT4 : Hid (tot 1 Q + (1 + y.size) ≤ 4096) := by have := HT1.out; have := HLE.out; show _ ≤ _; omega
              have hys : y.size ≤ 4095 := by have := HT4.out; omega
              clear hy hc2 hs2 hle2
              have hfq : (frs Q).length + (8 + y.size) ≤ 65536 := by have h1 := frs_fits (Nat.le_refl (tot 1 Q)); have h2 := HT4.out; omega
              have KL := HL4.out.append br y (by omega) hfq
              have hba := (Below.refl wr.heap.size wr).alloc (Nat.le_refl _) (.cells #[.string y] 9)
              have KA := lappend_at HD.out HL.out HB.out (by rw [HL4.out.1]; decide) HT hba (some ⟨wr.heap.size, 0, none⟩) 1 [y] (one_row wr y 9) (Nat.le_refl _) (by unfold maxLen; simp) (fun ad had => by cases had; exact Or.inr (Nat.le_refl _)) (by simp [frs, fr_len]; omega) (show (frs Q).length ≤ _ by omega)
              obtain ⟨ra, hra⟩ : ∃ r, lappend σ rA ⟨Q, s, br⟩ [y] = r := ⟨_, rfl⟩
              rw [hra] at KL KA
              obtain ⟨υ, lg, er⟩ := ra
              dsimp only at KL KA
              have HKL2 := Lib.hid KL
              have HKA := Lib.hid KA
              have HOa := Lib.hid (owns_below HO.out hba)
              simp only [List.length_cons, List.length_nil, Nat.zero_add] at HKA
              have e1 := HCW.out wr HB.out.bel
              have e2 := HCY.out wr HB.out.bel
              clear KL KA hra hba hfq HO
              by_cases h3 : y.size % 3 = 0
              · have q3 : ((y.size : Int) % 3 == 0) = true := by rw [beq_iff_eq]; omega
                clear h3
                rcases HKL2.out with ⟨h0, hlg, hlive⟩ | ⟨h0, bb, hlg, hlive⟩
                · subst h0 hlg
                  have HL5 := Lib.hid hlive
                  clear hlive HKL2 HL4
                  go_wp2_with fail
                  refine HKA.out.mono ?_
                  rintro e w5 ⟨rfl, hB5, hk5⟩
                  have B5 := Lib.hid hB5
                  have HO5 := Lib.hid (row_keep HOa.out hk5)
                  clear hB5 hk5 HKA HB HOa e1 e2
                  have e1 := HCW.out _ B5.out.bel
                  have e2 := HCY.out _ B5.out.bel
                  go_wp2_with (at_builtin
                               refine wpList_put_text HD.out HL.out (by rfl) (.tmp 154) (.tmp 162) (by rfl) y (.slice PA m pc) Q (by rfl) B5 HO5 (by have := HM.out; omega) (by rfl) rfl ?_
                               intro v6 w6 HO6 B6
                               have hM6 : (Q ++ [y]).length = m + 1 := by have := HM.out; simp; omega
                               obtain ⟨PA6, pc6, hv6, _⟩ := row_strs HO6.out rfl
                               rw [hM6] at hv6
                               subst hv6
                               have HM6 := Lib.hid hM6
                               have HT6 : Hid (tot 1 (Q ++ [y]) ≤ rtot (R.take i) + tot 1 (ts.take (k + 1))) := by have h1 := HT1.out; have h2 := tot_app Q [y]; have h3 : tot 1 [y] = 1 + y.size := (by simp [tot]); show _ ≤ _; omega
                               have hm6 : m + 1 ≤ 4096 := by have h1 := HT4.out; have h2 := tot_len Q; have h3 := HM.out; omega
                               have hsm6 : s ≤ m + 1 := by omega
                               obtain ⟨Q6, hQ6⟩ : ∃ Q6, Q ++ [y] = Q6 := ⟨_, rfl⟩
                               rw [hQ6] at HM6 HT6 HO6 B6 HL5
                               clear hQ6 hM6 B5 HO5 e1 e2 HM HTQ hm4 hsm
                               have e1 := HCW.out _ B6.out.bel
                               have e2 := HCY.out _ B6.out.bel)
                  have KL := HL5.out.sync false
                  have KS := lsync_at HL.out B6.out
                  obtain ⟨rs, hrs⟩ : ∃ r, lsync υ rA ⟨Q6, s, false⟩ = r := ⟨_, rfl⟩
                  rw [hrs] at KL KS
                  obtain ⟨φ, lg, er⟩ := rs
                  dsimp only at KL KS
                  have HKS := Lib.hid KS
                  clear KS hrs
                  rcases KL with ⟨h0, hlg, hlive⟩ | ⟨h0, b7, hlg, hlive⟩
                  · subst h0 hlg
                    have HL7 := Lib.hid hlive
                    clear hlive HL5
                    refine HKS.out.mono ?_
                    rintro e w7 ⟨rfl, hB7, hk7⟩
                    have hB7' := hB7
                    have hL7' := HL7.out
                    rw [HM6.out] at hB7' hL7'
                    have B7 := Lib.hid hB7'
                    have HO7 := Lib.hid (row_keep HO6.out hk7)
                    clear hB7 hB7' hk7 HKS B6 HO6 e1 e2 HL7
                    have HL7 := Lib.hid hL7'
                    clear hL7'
                    go_wp2_with fail
                    have K := lsure_at HL.out B7.out
                    dsimp only at K
                    refine K.mono ?_
                    rintro e w8 ⟨rfl, hb8⟩
                    have B8 := Lib.hid (B7.out.below HD.out HL.out hb8)
                    have HO8 := Lib.hid (owns_below HO7.out hb8)
                    clear hb8 B7 HO7 K
                    go_wp2_with fail
                    have K := lcount_at HL.out B8.out
                    dsimp only at K
                    rw [HM6.out] at K
                    refine K.mono ?_
                    rintro e w9 ⟨rfl, hb9⟩
                    have B9 := Lib.hid (B8.out.below HD.out HL.out hb9)
                    have HO9 := Lib.hid (owns_below HO8.out hb9)
                    clear hb9 B8 HO8 K
                    go_wp2_with fail
                    go_roundw
                    case rel => exact ⟨k + 1, Q6, (m + 1), _, _, PA6, (m + 1), pc6, by omega, rfl, rfl, by go_num, HM6, Nat.le_refl _, hm6, B9, HO9, HL7, HT6⟩
                    case measure => simp [intOf]; omega
                  · subst hlg
                    have q1 : ((er : Int) == 0) = false := by rw [beq_eq_false_iff_ne]; omega
                    have HL7 := Lib.hid hlive
                    clear hlive HL5
                    refine HKS.out.mono ?_
                    rintro e w7 ⟨rfl, hB7, hk7⟩
                    have B7 := Lib.hid hB7
                    have HO7 := Lib.hid (row_keep HO6.out hk7)
                    clear hB7 hk7 HKS B6 HO6 e1 e2
                    go_wp2_with fail
                    have K := lsure_at HL.out B7.out
                    dsimp only at K
                    refine K.mono ?_
                    rintro e w8 ⟨rfl, hb8⟩
                    have B8 := Lib.hid (B7.out.below HD.out HL.out hb8)
                    have HO8 := Lib.hid (owns_below HO7.out hb8)
                    clear hb8 B7 HO7 K
                    go_wp2_with fail
                    have K := lcount_at HL.out B8.out
                    dsimp only at K
                    rw [HM6.out] at K
                    refine K.mono ?_
                    rintro e w9 ⟨rfl, hb9⟩
                    have B9 := Lib.hid (B8.out.below HD.out HL.out hb9)
                    have HO9 := Lib.hid (owns_below HO8.out hb9)
                    clear hb9 B8 HO8 K
                    go_wp2_with fail
                    go_roundw
                    case rel => exact ⟨k + 1, Q6, s, _, _, PA6, (m + 1), pc6, by omega, rfl, rfl, by go_num, HM6, hsm6, hm6, B9, HO9, HL7, HT6⟩
                    case measure => simp [intOf]; omega
                · subst hlg
                  have q0 : ((er : Int) == 0) = false := by rw [beq_eq_false_iff_ne]; omega
                  have HL5 := Lib.hid hlive
                  clear hlive HKL2 HL4
                  go_wp2_with fail
                  refine HKA.out.mono ?_
                  rintro e w5 ⟨rfl, hB5, hk5⟩
                  have B6 := Lib.hid hB5
                  have HO6 := Lib.hid (row_keep HOa.out hk5)
                  have HT6 : Hid (tot 1 Q ≤ rtot (R.take i) + tot 1 (ts.take (k + 1))) := by have h1 := HT1.out; show _ ≤ _; omega
                  have HM6 := HM
                  have hm6 := hm4
                  have hsm6 := hsm
                  clear hB5 hk5 HKA HB HOa e1 e2 HM HTQ hm4 hsm
                  have e1 := HCW.out _ B6.out.bel
                  have e2 := HCY.out _ B6.out.bel
                  go_wp2_with fail
                  have KL := HL5.out.sync bb
                  have KS := lsync_at HL.out B6.out
                  obtain ⟨rs, hrs⟩ : ∃ r, lsync υ rA ⟨Q, s, bb⟩ = r := ⟨_, rfl⟩
                  rw [hrs] at KL KS
                  obtain ⟨φ, lg, er⟩ := rs
                  dsimp only at KL KS
                  have HKS := Lib.hid KS
                  clear KS hrs
                  rcases KL with ⟨h0, hlg, hlive⟩ | ⟨h0, b7, hlg, hlive⟩
                  · subst h0 hlg
                    have HL7 := Lib.hid hlive
                    clear hlive HL5
                    refine HKS.out.mono ?_
                    rintro e w7 ⟨rfl, hB7, hk7⟩
                    have hB7' := hB7
                    have hL7' := HL7.out
                    rw [HM6.out] at hB7' hL7'
                    have B7 := Lib.hid hB7'
                    have HO7 := Lib.hid (row_keep HO6.out hk7)
                    clear hB7 hB7' hk7 HKS B6 HO6 e1 e2 HL7
                    have HL7 := Lib.hid hL7'
                    clear hL7'
                    go_wp2_with fail
                    have K := lsure_at HL.out B7.out
                    dsimp only at K
                    refine K.mono ?_
                    rintro e w8 ⟨rfl, hb8⟩
                    have B8 := Lib.hid (B7.out.below HD.out HL.out hb8)
                    have HO8 := Lib.hid (owns_below HO7.out hb8)
                    clear hb8 B7 HO7 K
                    go_wp2_with fail
                    have K := lcount_at HL.out B8.out
                    dsimp only at K
                    rw [HM6.out] at K
                    refine K.mono ?_
                    rintro e w9 ⟨rfl, hb9⟩
                    have B9 := Lib.hid (B8.out.below HD.out HL.out hb9)
                    have HO9 := Lib.hid (owns_below HO8.out hb9)
                    clear hb9 B8 HO8 K
                    go_wp2_with fail
                    go_roundw
                    case rel => exact ⟨k + 1, Q, m, _, _, PA, m, pc, by omega, rfl, rfl, by go_num, HM6, Nat.le_refl _, hm6, B9, HO9, HL7, HT6⟩
                    case measure => simp [intOf]; omega
                  · subst hlg
                    have q1 : ((er : Int) == 0) = false := by rw [beq_eq_false_iff_ne]; omega
                    have HL7 := Lib.hid hlive
                    clear hlive HL5
                    refine HKS.out.mono ?_
                    rintro e w7 ⟨rfl, hB7, hk7⟩
                    have B7 := Lib.hid hB7
                    have HO7 := Lib.hid (row_keep HO6.out hk7)
                    clear hB7 hk7 HKS B6 HO6 e1 e2
                    go_wp2_with fail
                    have K := lsure_at HL.out B7.out
                    dsimp only at K
                    refine K.mono ?_
                    rintro e w8 ⟨rfl, hb8⟩
                    have B8 := Lib.hid (B7.out.below HD.out HL.out hb8)
                    have HO8 := Lib.hid (owns_below HO7.out hb8)
                    clear hb8 B7 HO7 K
                    go_wp2_with fail
                    have K := lcount_at HL.out B8.out
                    dsimp only at K
                    rw [HM6.out] at K
                    refine K.mono ?_
                    rintro e w9 ⟨rfl, hb9⟩
                    have B9 := Lib.hid (B8.out.below HD.out HL.out hb9)
                    have HO9 := Lib.hid (owns_below HO8.out hb9)
                    clear hb9 B8 HO8 K
                    go_wp2_with fail
                    go_roundw
                    case rel => exact ⟨k + 1, Q, s, _, _, PA, m, pc, by omega, rfl, rfl, by go_num, HM6, hsm6, hm6, B9, HO9, HL7, HT6⟩
                    case measure => simp [intOf]; omega
              · have q3 : ((y.size : Int) % 3 == 0) = false := by rw [beq_eq_false_iff_ne]; omega
                clear h3
                rcases HKL2.out with ⟨h0, hlg, hlive⟩ | ⟨h0, bb, hlg, hlive⟩
                · subst h0 hlg
                  have HL5 := Lib.hid hlive
                  clear hlive HKL2 HL4
                  go_wp2_with fail
                  refine HKA.out.mono ?_
                  rintro e w5 ⟨rfl, hB5, hk5⟩
                  have B5 := Lib.hid hB5
                  have HO5 := Lib.hid (row_keep HOa.out hk5)
                  clear hB5 hk5 HKA HB HOa e1 e2
                  have e1 := HCW.out _ B5.out.bel
                  have e2 := HCY.out _ B5.out.bel
                  go_wp2_with (at_builtin
                               refine wpList_put_text HD.out HL.out (by rfl) (.tmp 154) (.tmp 162) (by rfl) y (.slice PA m pc) Q (by rfl) B5 HO5 (by have := HM.out; omega) (by rfl) rfl ?_
                               intro v6 w6 HO6 B6
                               have hM6 : (Q ++ [y]).length = m + 1 := by have := HM.out; simp; omega
                               obtain ⟨PA6, pc6, hv6, _⟩ := row_strs HO6.out rfl
                               rw [hM6] at hv6
                               subst hv6
                               have HM6 := Lib.hid hM6
                               have HT6 : Hid (tot 1 (Q ++ [y]) ≤ rtot (R.take i) + tot 1 (ts.take (k + 1))) := by have h1 := HT1.out; have h2 := tot_app Q [y]; have h3 : tot 1 [y] = 1 + y.size := (by simp [tot]); show _ ≤ _; omega
                               have hm6 : m + 1 ≤ 4096 := by have h1 := HT4.out; have h2 := tot_len Q; have h3 := HM.out; omega
                               have hsm6 : s ≤ m + 1 := by omega
                               obtain ⟨Q6, hQ6⟩ : ∃ Q6, Q ++ [y] = Q6 := ⟨_, rfl⟩
                               rw [hQ6] at HM6 HT6 HO6 B6 HL5
                               clear hQ6 hM6 B5 HO5 e1 e2 HM HTQ hm4 hsm
                               have e1 := HCW.out _ B6.out.bel
                               have e2 := HCY.out _ B6.out.bel)
                  have HL7 := HL5
                  have B7 := B6
                  have HO7 := HO6
                  clear HL5 B6 HO6
                  have K := lsure_at HL.out B7.out
                  dsimp only at K
                  refine K.mono ?_
                  rintro e w8 ⟨rfl, hb8⟩
                  have B8 := Lib.hid (B7.out.below HD.out HL.out hb8)
                  have HO8 := Lib.hid (owns_below HO7.out hb8)
                  clear hb8 B7 HO7 K
                  go_wp2_with fail
                  have K := lcount_at HL.out B8.out
                  dsimp only at K
                  rw [HM6.out] at K
                  refine K.mono ?_
                  rintro e w9 ⟨rfl, hb9⟩
                  have B9 := Lib.hid (B8.out.below HD.out HL.out hb9)
                  have HO9 := Lib.hid (owns_below HO8.out hb9)
                  clear hb9 B8 HO8 K
                  go_wp2_with fail
                  go_roundw
                  case rel => exact ⟨k + 1, Q6, s, _, _, PA6, (m + 1), pc6, by omega, rfl, rfl, by go_num, HM6, hsm6, hm6, B9, HO9, HL7, HT6⟩
                  case measure => simp [intOf]; omega
                · subst hlg
                  have q0 : ((er : Int) == 0) = false := by rw [beq_eq_false_iff_ne]; omega
                  have HL5 := Lib.hid hlive
                  clear hlive HKL2 HL4
                  go_wp2_with fail
                  refine HKA.out.mono ?_
                  rintro e w5 ⟨rfl, hB5, hk5⟩
                  have B6 := Lib.hid hB5
                  have HO6 := Lib.hid (row_keep HOa.out hk5)
                  have HT6 : Hid (tot 1 Q ≤ rtot (R.take i) + tot 1 (ts.take (k + 1))) := by have h1 := HT1.out; show _ ≤ _; omega
                  have HM6 := HM
                  have hm6 := hm4
                  have hsm6 := hsm
                  clear hB5 hk5 HKA HB HOa e1 e2 HM HTQ hm4 hsm
                  have e1 := HCW.out _ B6.out.bel
                  have e2 := HCY.out _ B6.out.bel
                  go_wp2_with fail
                  have HL7 := HL5
                  have B7 := B6
                  have HO7 := HO6
                  clear HL5 B6 HO6
                  have K := lsure_at HL.out B7.out
                  dsimp only at K
                  refine K.mono ?_
                  rintro e w8 ⟨rfl, hb8⟩
                  have B8 := Lib.hid (B7.out.below HD.out HL.out hb8)
                  have HO8 := Lib.hid (owns_below HO7.out hb8)
                  clear hb8 B7 HO7 K
                  go_wp2_with fail
                  have K := lcount_at HL.out B8.out
                  dsimp only at K
                  rw [HM6.out] at K
                  refine K.mono ?_
                  rintro e w9 ⟨rfl, hb9⟩
                  have B9 := Lib.hid (B8.out.below HD.out HL.out hb9)
                  have HO9 := Lib.hid (owns_below HO8.out hb9)
                  clear hb9 B8 HO8 K
                  go_wp2_with fail
                  go_roundw
                  case rel => exact ⟨k + 1, Q, s, _, _, PA, m, pc, by omega, rfl, rfl, by go_num, HM6, hsm6, hm6, B9, HO9, HL7, HT6⟩
                  case measure => simp [intOf]; omega
            · have hke : ts.take k = ts := List.take_of_length_le (by rw [HKL.out]; omega)
              rw [hke] at HTQ
              have HT5 : Hid (tot 1 Q ≤ rtot (R.take (i + 1))) := by have h1 := HTQ.out; have h2 := HSN.out; show _ ≤ _; omega
              have M5 := Lib.hid HB.out.lone
              have HA5 := Lib.hid HL4.out.any
              have e1 := HCW.out wr HB.out.bel
              clear hke HTQ HB HL4
              by_cases hk2 : i < l2
              · obtain ⟨b5, o5, rfl, hb5, hc5⟩ := HV2.out.2.2.2.2.1 i hk2
                have hw5 := HV2.out.2.2.2.2.2 (Z2.getD i 0) (by have := HV2.out.1; rw [List.getD_eq_getElem?_getD, List.getElem?_eq_getElem (by omega)]; exact List.getElem_mem _)
                obtain ⟨zk, hzk⟩ : ∃ z : Int, Z2.getD i 0 = z := ⟨_, rfl⟩
                rw [hzk] at hc5 hw5
                have hc5' := (M5.out.bel.cell (p := ⟨b5, o5 + i, none⟩) hb5).trans hc5
                have HK5 := Lib.hid (crash_one HD.out M5.out zk hw5)
                have HR5 := Lib.hid (HA5.out.crash [zk])
                have HO5 := Lib.hid (owns_below HO.out ((Below.refl _ _).alloc (Nat.le_refl _) (.cells #[.int .i64 zk] 3)))
                obtain ⟨rc, hrc⟩ : ∃ r, crash σ [zk] = r := ⟨_, rfl⟩
                rw [hrc] at HK5 HR5
                clear hc5 hw5 hzk hrc M5 HO HA5
                go_wp2_with fail
                refine HK5.out.mono ?_
                rintro e w7 ⟨rfl, hm7, hk7⟩
                have MC := Lib.hid hm7
                have HOC := Lib.hid (row_keep HO5.out hk7)
                have HRC := HR5
                clear hm7 hk7 hc5' HK5 HO5 HR5
                by_cases hk1 : i < l1
                · obtain ⟨b6, o6, rfl, hb6, hc6⟩ := HV1.out.2.2.2.2.1 i hk1
                  have hw6 := HV1.out.2.2.2.2.2 (Z1.getD i 0) (by have := HV1.out.1; rw [List.getD_eq_getElem?_getD, List.getElem?_eq_getElem (by omega)]; exact List.getElem_mem _)
                  have hz6 := bounds_u8 hw6
                  obtain ⟨zf, hzf⟩ : ∃ z : Nat, Z1.getD i 0 = z := ⟨(Z1.getD i 0).toNat, by omega⟩
                  rw [hzf] at hc6 hz6
                  have hz256 : zf < 256 := by omega
                  have hc6' := (MC.out.bel.cell (p := ⟨b6, o6 + i, none⟩) hb6).trans hc6
                  clear hc6 hw6 hz6 hzf
                  go_wp2_with fail
                  refine (fuse_one HD.out MC.out zf hz256).mono ?_
                  rintro e w8 ⟨rfl, hm8, hk8⟩
                  have MF := Lib.hid hm8
                  have HOF := Lib.hid (row_keep HOC.out hk8)
                  have HRF := Lib.hid (HRC.out.fused (some zf))
                  clear hm8 hk8 hc6' MC HOC HRC
                  go_wp2_with fail
                  go_roundw
                  case rel => exact ⟨i + 1, Q, s, _, PA, m, pc, by omega, rfl, rfl, by go_num, HM, hsm, hm4, MF, HOF, HRF, HT5⟩
                  case measure => simp [intOf]; omega
                · have MF := MC
                  have HOF := HOC
                  have HRF := HRC
                  clear MC HOC HRC
                  go_wp2_with fail
                  go_roundw
                  case rel => exact ⟨i + 1, Q, s, _, PA, m, pc, by omega, rfl, rfl, by go_num, HM, hsm, hm4, MF, HOF, HRF, HT5⟩
                  case measure => simp [intOf]; omega
              · have HK5 := Lib.hid (crash_none HD.out M5.out)
                have HR5 := Lib.hid (HA5.out.crash [])
                obtain ⟨rc, hrc⟩ : ∃ r, crash σ [] = r := ⟨_, rfl⟩
                rw [hrc] at HK5 HR5
                have HO5 := HO
                clear hrc M5 HO HA5
                go_wp2_with fail
                refine HK5.out.mono ?_
                rintro e w7 ⟨rfl, hm7, hk7⟩
                have MC := Lib.hid hm7
                have HOC := Lib.hid (row_keep HO5.out hk7)
                have HRC := HR5
                clear hm7 hk7 HK5 HO5 HR5
                by_cases hk1 : i < l1
                · obtain ⟨b6, o6, rfl, hb6, hc6⟩ := HV1.out.2.2.2.2.1 i hk1
                  have hw6 := HV1.out.2.2.2.2.2 (Z1.getD i 0) (by have := HV1.out.1; rw [List.getD_eq_getElem?_getD, List.getElem?_eq_getElem (by omega)]; exact List.getElem_mem _)
                  have hz6 := bounds_u8 hw6
                  obtain ⟨zf, hzf⟩ : ∃ z : Nat, Z1.getD i 0 = z := ⟨(Z1.getD i 0).toNat, by omega⟩
                  rw [hzf] at hc6 hz6
                  have hz256 : zf < 256 := by omega
                  have hc6' := (MC.out.bel.cell (p := ⟨b6, o6 + i, none⟩) hb6).trans hc6
                  clear hc6 hw6 hz6 hzf
                  go_wp2_with fail
                  refine (fuse_one HD.out MC.out zf hz256).mono ?_
                  rintro e w8 ⟨rfl, hm8, hk8⟩
                  have MF := Lib.hid hm8
                  have HOF := Lib.hid (row_keep HOC.out hk8)
                  have HRF := Lib.hid (HRC.out.fused (some zf))
                  clear hm8 hk8 hc6' MC HOC HRC
                  go_wp2_with fail
                  go_roundw
                  case rel => exact ⟨i + 1, Q, s, _, PA, m, pc, by omega, rfl, rfl, by go_num, HM, hsm, hm4, MF, HOF, HRF, HT5⟩
                  case measure => simp [intOf]; omega
                · have MF := MC
                  have HOF := HOC
                  have HRF := HRC
                  clear MC HOC HRC
                  go_wp2_with fail
                  go_roundw
                  case rel => exact ⟨i + 1, Q, s, _, PA, m, pc, by omega, rfl, rfl, by go_num, HM, hsm, hm4, MF, HOF, HRF, HT5⟩
                  case measure => simp [intOf]; omega
      · go_wp2_with fail
        refine (HW.out _ (HT.out.below HB.out.bel)).mono ?_
        rintro e w2 ⟨rfl, hb⟩
        have HB2 := Lib.hid (HB.out.bel.trans (hb.mono HB.out.bel.size))
        clear hb
        go_wp2_with fail
        go_ret
        exact ⟨rfl, HB2.out⟩

end Go.Proofs.YtikbokbmaihdbaaDoor.logKeeps
