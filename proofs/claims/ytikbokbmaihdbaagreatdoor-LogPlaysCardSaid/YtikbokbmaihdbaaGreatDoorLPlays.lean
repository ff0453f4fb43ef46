/-
  The walk of the law LogPlays.
-/
import Derived.Test.YtikbokbmaihdbaaGreatDoorLDuo
import Derived.Test.YtikbokbmaihdbaaGreatDoorLAppend
import Derived.Test.YtikbokbmaihdbaaGreatDoorLSync
import Derived.Test.YtikbokbmaihdbaaGreatDoorLHeavy
import Derived.Test.YtikbokbmaihdbaaGreatDoorLSame
import Derived.Test.YtikbokbmaihdbaaGreatDoorRNew
import Derived.Test.YtikbokbmaihdbaaGreatDoorRTold
import Derived.Test.YtikbokbmaihdbaaGreatDoorRAlike
import Derived.Lib.QuietBelow
import Derived.BigRegion
namespace Go.Proofs.YtikbokbmaihdbaaGreatDoor.logPlays
open Go.RowKit Go.ChangeShapes Go.WideShapes

def Wants (D : Disks) (L : Logs) : Prop := DoorB D ∧ LDoor D L

theorem tot_len (ss : List ByteArray) : ss.length ≤ tot 1 ss := by
  induction ss with
  | nil => simp [tot]
  | cons t ss ih => simp only [tot, List.map_cons, List.sum_cons, List.length_cons] at ih ⊢; omega
theorem frs_fits {P : List ByteArray} {m : Nat} (h : tot 1 P ≤ m) : (frs P).length ≤ 8 * m := by
  have h1 := frs_tot 1 (by decide) P
  have h2 := tot_len P
  omega
theorem lopen_recs {σ : Dsk} (hi : Inv σ) (hr : σ.room ≤ 65535) : (frs (lopen σ rA).2.2).length ≤ 65535 := by
  unfold lopen
  split
  · exact Nat.zero_le _
  · split
    · exact Nat.zero_le _
    · show (frs (recsOf (made σ rA).1 rA)).length ≤ 65535
      unfold recsOf
      have hi2 := hi.made rA
      have hr2 : (made σ rA).1.room ≤ 65535 := by rw [room_made]; exact hr
      cases hg : get (made σ rA).1.fs rA with
      | none => exact Nat.zero_le _
      | some f =>
        have h1 := used_upd (f := ⟨⟨#[]⟩, 0, false⟩) hi2.srt hg
        have h2 := hi2.room
        have h3 : (⟨⟨#[]⟩, 0, false⟩ : Fil).text.size = 0 := rfl
        have h4 := sc_size _ f.text.data.toList (Nat.le_refl _)
        have h5 : f.text.data.toList.length = f.text.size := by simp
        show (frs (sc f.text.data.toList).1).length ≤ 65535
        omega
theorem room_spoil (σ : Dsk) (n : ByteArray) (k : Int) (b : UInt8) : (spoil σ n k b).1.room = σ.room := by
  unfold spoil
  repeat' split
  all_goals rfl
theorem room_onA (σ : Dsk) (s : SV) : (onA σ s).room = σ.room := by
  unfold onA
  repeat' split
  · exact room_append _ _ _
  · exact room_cut _ _ _
  · exact room_spoil _ _ _ _
  · unfold fuse; split <;> rfl
  · rfl
  · rfl
theorem recs_append (σ : Dsk) (l : Lg) (rs : List ByteArray) : (frs (lappend σ rA l rs).2.1.recs).length ≤ (frs l.recs).length + (frs rs).length := by
  unfold lappend
  repeat' split
  all_goals first | exact Nat.le_add_right _ _ | (rw [frs_append, List.length_append]; exact Nat.le_refl _)
theorem recs_sync (σ : Dsk) (l : Lg) : (lsync σ rA l).2.1.recs = l.recs := by
  unfold lsync
  repeat' split
  all_goals rfl
def bnd (i : Nat) : Nat := 65535 + i * 1048576
theorem bnd_more {a b i : Nat} (h : a ≤ bnd i) (hb : b ≤ 1048576) : a + b ≤ bnd (i + 1) := by unfold bnd at *; omega
theorem bnd_next {a i : Nat} (h : a ≤ bnd i) : a ≤ bnd (i + 1) := bnd_more (b := 0) h (Nat.zero_le _)
theorem bnd_new {a : Nat} (i : Nat) (h : a ≤ 65535) : a ≤ bnd i := by unfold bnd; omega
theorem bnd_great {a i : Nat} (h : a ≤ bnd i) (hi : i ≤ 150) : a ≤ 1099511627776 := by unfold bnd at h; omega
theorem svok_below {w w' : World} {v : SV8} (h : SV8ok w v) (hb : Below w.heap.size w w') : SV8ok w' v :=
  ⟨⟨h.s.what, h.s.n, h.s.by_, h.s.name, h.s.text, h.s.keep.below hb, h.s.few⟩, ⟨h.l.row.below hb, h.l.short, h.l.few, h.l.fits, h.l.none⟩⟩

/-- Before the document's disk is opened. -/
def Pre (gr rm : Nat) : Parts := fun P w => RHead w gr rm (.slice none 0 0) none ∧ ∀ k, P k ↔ k = gr
theorem firmPre (gr rm : Nat) : Firm (Pre gr rm) := ⟨fun h k => ⟨(k gr ((h.2 gr).2 rfl)).trans h.1, h.2⟩, fun h k hk => by rw [(h.2 k).1 hk]; exact lt_of_heap h.1⟩
/-- What both logs and both disks answer, where both are the same. -/
structure Asks (D : Disks) (g gr : Nat) (σ : Dsk) (w : World) : Prop where
  alike : ∀ W, Below w.heap.size w W → Calls Tryz.prog 17 #[ptr g, ptr gr] W fun e w' => e = .returned (.bool true) ∧ Below W.heap.size W w'
theorem asks_of {D : Disks} (hD : DoorB D) {w0 w : World} {g gr : Nat} {σ : Dsk} {lo lr : Option (Nat × Lg)} {F : Nat → Prop} (h : Duo w0 w (Side D TheLog g σ lo) (Side TheRef TheRLog gr σ lr) F) : Asks D g gr σ w := by
  refine ⟨fun W hW => ?_⟩
  obtain ⟨P, P', h1, h2, _⟩ := h.below (firmP hD _ _ _) (firmR _ _ _) hW
  obtain ⟨O, hd, _⟩ := h1.disk
  obtain ⟨O', hr, _⟩ := h2.disk
  exact alike_at hD hd hr
structure Logged (x xr : Nat) (l : Lg) (w : World) (N C : Nat) (A2 : Option Addr) (c2 : Nat) : Prop where
  len : ∀ W, Below w.heap.size w W → Calls Tryz.prog 18 #[ptr x] W fun e w' => e = .returned (.int .i64 (N : Nat)) ∧ Below W.heap.size W w'
  rlen : ∀ W, Below w.heap.size w W → Calls Tryz.prog 19 #[ptr xr] W fun e w' => e = .returned (.int .i64 (N : Nat)) ∧ Below W.heap.size W w'
  count : ∀ W, Below w.heap.size w W → Calls Tryz.prog 20 #[ptr x] W fun e w' => e = .returned (.int .i64 (C : Nat)) ∧ Below W.heap.size W w'
  sure : ∀ W, Below w.heap.size w W → Calls Tryz.prog 21 #[ptr x] W fun e w' => e = .returned (.int .i64 (l.sure : Nat)) ∧ Below W.heap.size W w'
  row : ∀ W, Below w.heap.size w W → W.cell? ⟨xr, 2, none⟩ = some (.slice A2 C c2)
  su : ∀ W, Below w.heap.size w W → W.cell? ⟨xr, 3, none⟩ = some (.int .i64 (l.sure : Nat))
  strs : Strs w A2 C l.recs
theorem logged_of {D : Disks} {w0 w : World} {g gr x xr : Nat} {σ τ : Dsk} {l : Lg} {F : Nat → Prop} (h : Duo w0 w (Side D TheLog g σ (some (x, l))) (Side TheRef TheRLog gr τ (some (xr, l))) F) : ∃ N C A2 c2, l.recs.length = C ∧ Logged x xr l w N C A2 c2 := by
  obtain ⟨P, P', h1, h2, _⟩ := h
  obtain ⟨Q, hl⟩ := h1.log
  obtain ⟨Q', hr⟩ := h2.log
  have hL : ∀ W, Below w.heap.size w W → TheLog Q W x g rA l := fun W hW => hl.stays (fun k hk => hW.block k (hl.own k hk))
  have hR : ∀ W, Below w.heap.size w W → TheRLog Q' W xr gr rA l := fun W hW => hr.stays (fun k hk => hW.block k (hr.own k hk))
  obtain ⟨_, v, hh, hrow, _, _⟩ := hr
  obtain ⟨A2, c2, rfl, hst, _, _⟩ := row_strs hrow rfl
  refine ⟨llen l, l.recs.length, A2, c2, rfl, fun W hW => llen_h (hL W hW).2.2.1, fun W hW => ?_, fun W hW => lcount_h (hL W hW).2.2.1, fun W hW => lsure_h (hL W hW).2.2.1, fun W hW => ?_, fun W hW => ?_, hst⟩
  · refine (rlog_len (hR W hW)).mono ?_
    rintro e w' ⟨rfl, rfl⟩
    exact ⟨rfl, Below.refl _ _⟩
  · exact (hW.cell (p := ⟨xr, 2, none⟩) hh.lt).trans hh.c2
  · exact (hW.cell (p := ⟨xr, 3, none⟩) hh.lt).trans hh.c3
/-- 'append([]string(nil), l...)', its run. -/
theorem copy_want {Q : Exit → Act → World → Prop} {K : Act → World → Prop} {o : Oper} {a : Act} {w : World} (s x : Operand)
    (ho : o.op = .call { callee := .builtin .append, args := #[s, x], argTypes := #[33, 33] }) (hs : a.eval s = .slice none 0 0) (A : Option Addr) (len cap : Nat) (ss : List ByteArray) (hx : a.eval x = .slice A len cap) (hv : Hid (Strs w A len ss)) (hfew : len ≤ 1000000) (hn : A = none → cap = 0)
    (h : ∀ A6 c6 w', Hid (Strs w' A6 len ss) → Hid (Below w.heap.size w w') → K (a.put o.dst (.slice A6 len c6)) w') : o.wp Tryz.prog a w K Q := by
  refine wp_copy_row s x ho hs A len cap ss hx hv hfew hn ?_
  intro v' w' hown hb
  have hl := hv.out.len
  obtain ⟨A6, c6, rfl, hst⟩ := owns_strs hown.out hl
  exact h A6 c6 w' hst hb

set_option maxRecDepth 100000 in
set_option maxHeartbeats 8000000 in
theorem walk {D : Disks} {L : Logs} (h : Wants D L) (room : Int) (A : Option Addr) (len cap : Nat) (sl : List SV8) (w : World) (hroom : (Lit.int .u16 room).wf = true) (hv : Steps8View w A len cap sl) (hT : Tab w) :
    Calls Tryz.prog 3 #[.int .u16 room, .slice A len cap] w fun e w' => e = .returned (.bool true) ∧ Below w.heap.size w w' := by
  have HD := Lib.hid h.1
  have HW : Hid (∀ w' : World, Below w.heap.size w w' → Calls Tryz.prog 5 #[] w' fun e w'' => e = .returned (.bool true) ∧ Below w'.heap.size w' w'') := fun w' hb => lworks_any h.1 h.2 w' (hT.below hb)
  have HT := Lib.hid hT
  have HV := Lib.hid hv
  have HLN := Lib.hid hv.length
  have hfit := hv.fits
  obtain ⟨rm, rfl⟩ : ∃ rm : Nat, room = rm := by
    simp only [Lit.wf, Bool.and_eq_true, decide_eq_true_eq] at hroom
    have : 0 ≤ room := hroom.1
    exact ⟨room.toNat, by omega⟩
  have hrm : rm ≤ 65535 := by
    simp only [Lit.wf, Bool.and_eq_true, decide_eq_true_eq] at hroom
    have h1 : (rm : Int) ≤ 65535 := hroom.2
    omega
  have KH := LHeavy_any A len cap sl w HV
  clear h hT hv hroom
  go_enter Tryz.func3, Tryz.ntmps3
  go_wp2_with fail
  refine KH.mono ?_
  rintro e w1 ⟨b, rfl, hb, hd1⟩
  have HB1 : Hid (Below w.heap.size w w1) := of_drewN hd1
  clear hd1 KH
  cases b with
  | true =>
    clear hb
    go_wp2_with (go_at_call 5; refine (HW.out _ HB1.out).mono ?_; rintro e w' ⟨rfl, hb'⟩)
    go_ret
    exact ⟨rfl, HB1.out.trans (hb'.mono HB1.out.size)⟩
  | false =>
    obtain ⟨hlen, hbulk, hll⟩ := hb rfl
    have HBK := Lib.hid hbulk
    have HLL := Lib.hid hll
    clear hb hbulk hll
    have KN := HD.out.new rm w1 (by omega)
    go_wp2_with fail
    refine KN.mono ?_
    rintro e w2 ⟨g, O, rfl, hd, hO, hb2⟩
    have HB2 := Lib.hid (HB1.out.trans (hb2.mono HB1.out.size))
    have HD2 := Lib.hid hd
    have HO2 : Hid (∀ k, O k → w.heap.size ≤ k) := fun k hk => Nat.le_trans HB1.out.size (hO k hk)
    clear hd hO hb2 HB1 KN
    go_wp2_with fail
    refine (rnew_at rm w2).mono ?_
    rintro e w3 ⟨rfl, hh, hb3⟩
    obtain ⟨gr, hgr⟩ : ∃ gr, w2.heap.size = gr := ⟨_, rfl⟩
    have HDU : Hid (Duo w w3 (Side D TheLog g ⟨rm, none, []⟩ none) (Pre gr rm) noF) := by
      have hs := HB2.out.size
      refine ⟨O, fun k => k = gr, HD.out.below HD2.out hb3, ⟨by rw [← hgr]; exact hh, fun k => Iff.rfl⟩, fun k hk e => ?_, HO2.out, fun k hk => by omega, HB2.out.trans (hb3.mono hs), fun k hk => hk.elim⟩
      have := HD.out.own HD2.out k hk
      omega
    rw [hgr]
    clear hh hb3 hgr HB2 HD2 HO2
    have hln : lopen ⟨rm, none, []⟩ rA = (⟨rm, none, [(rA, ⟨⟨#[]⟩, 0, false⟩)]⟩, 0, []) := lopen_new List.Pairwise.nil rfl rfl rfl (show (0 : Nat) < 16 by decide)
    have HLNW := Lib.hid hln
    clear hln
    go_wp2_with fail
    have KO := duo_popen HD.out (firmPre _ _) HDU.out (show rm ≤ 1048576 by omega) HT
    rw [HLNW.out] at KO
    refine KO.mono ?_
    rintro e w4 ⟨y, hy, hdu, _⟩
    cases y with
    | not A4 c4 => exact absurd rfl hy.1
    | made x A4 c4 =>
    obtain ⟨_, rfl, _, _⟩ := hy
    have HDU4 := Lib.hid hdu.drop
    clear hdu KO HDU
    dsimp only [openLo, List.length_nil] at HDU4
    go_wp2_with fail
    have KR := duo_ropen (r := lopen ⟨rm, none, []⟩ rA) (firmP HD.out _ _ _) HDU4.out.swap (fun P hP => ⟨fun k => k = gr, fun k hk => (hP.2 k).2 hk, ropen_new hP.1 (by omega)⟩)
    rw [HLNW.out] at KR
    refine KR.mono ?_
    rintro e w5 ⟨y, hy, hdu, _⟩
    cases y with
    | none => exact absurd rfl hy.1
    | some xr =>
    obtain ⟨_, rfl⟩ := hy
    have HDU5 := Lib.hid hdu.swap
    clear hdu KR HDU4 HLNW
    dsimp only [ropenLo, List.length_nil] at HDU5
    obtain ⟨σ0, hσ0⟩ : ∃ σ0 : Dsk, (⟨rm, none, [(rA, ⟨⟨#[]⟩, 0, false⟩)]⟩ : Dsk) = σ0 := ⟨_, rfl⟩
    have hr0 : σ0.room = rm := by rw [← hσ0]
    rw [hσ0] at HDU5
    clear hσ0
    go_wp2_with fail
    go_loopw [8, 11, 13, 14, 15, 16, 17, 18, 19, 20] (fun lv gv iv _ _ _ _ _ _ _ wr => ∃ (i : Nat) (σ : Dsk), i ≤ len ∧ iv = .int .i64 i ∧ σ.room = rm ∧ ((lv = .pointer none ∧ gv = .pointer none ∧ Hid (Duo w wr (Side D TheLog g σ none) (Side TheRef TheRLog gr σ none) noF)) ∨ ∃ (x xr : Nat) (l : Lg), lv = ptr x ∧ gv = ptr xr ∧ Hid (Duo w wr (Side D TheLog g σ (some (x, l))) (Side TheRef TheRLog gr σ (some (xr, l))) noF) ∧ Hid ((frs l.recs).length ≤ bnd i))) (fun _ _ iv _ _ _ _ _ _ _ _ => len - (intOf iv).toNat)
    case atStart => exact ⟨0, σ0, Nat.zero_le _, rfl, hr0, Or.inr ⟨x, xr, ⟨[], 0, false⟩, rfl, rfl, HDU5, bnd_new 0 (Nat.zero_le _)⟩⟩
    case round =>
      clear HDU5 hr0
      obtain ⟨i, σ, hi, rfl, hrs, hst⟩ := hrel
      by_cases hlt : i < len
      · have hil : i < sl.length := by rw [HLN.out]; exact hlt
        obtain ⟨b, off, rfl, hat⟩ := HV.out.cell i hil
        have hok := HV.out.ok sl[i] (List.getElem_mem _)
        have hl100 := HLL.out sl[i] (List.getElem_mem _)
        have hbm := bulk8_mem (List.getElem_mem hil)
        obtain ⟨v, hv⟩ : ∃ v, sl[i] = v := ⟨_, rfl⟩
        rw [hv] at hat hok hl100 hbm
        clear hv
        have HTS : Hid (tot 1 v.ts ≤ 8192) := by have := HBK.out; unfold lone8 at hbm; show _ ≤ _; omega
        obtain ⟨⟨what, name, text, n, by_, K, kl, kc, ks⟩, L, ll, lc, ts⟩ := v
        have HAT := Lib.hid hat
        have HOK := Lib.hid hok
        dsimp only at hl100 HTS
        clear hat hok hbm
        have HR9 : Hid (σ.room ≤ 1048576) := by show _ ≤ _; omega
        have hok8 : Hid (∀ W, Below w.heap.size w W → SV8ok W ⟨⟨what, name, text, n, by_, K, kl, kc, ks⟩, L, ll, lc, ts⟩) := fun W hW => svok_below HOK.out hW
        rcases hst with ⟨rfl, rfl, HDU⟩ | ⟨x, xr, l, rfl, rfl, HDU, HBD⟩
        · have e0 := (HAT.out.below HDU.out.bel).s.c0
          have e1 := (HAT.out.below HDU.out.bel).s.c1
          have e2 := (HAT.out.below HDU.out.bel).s.c2
          have e3 := (HAT.out.below HDU.out.bel).s.c3
          have e4 := (HAT.out.below HDU.out.bel).s.c4
          have e5 := (HAT.out.below HDU.out.bel).s.c5
          have e6 := (HAT.out.below HDU.out.bel).c6
          dsimp only at e0 e1 e2 e3 e4 e5 e6
          by_cases w10 : what = 10
          · subst w10
            have HDA := Lib.hid (fun o => HDU.out.alloc (firmP HD.out _ _ _) (firmR _ _ _) o)
            clear HDU
            go_wp2_with fail
            have HD5 := Lib.hid (HDA.out (Obj.cells #[Value.int IntKind.i64 10, Value.string name, Value.string text, Value.int IntKind.i64 n, Value.int IntKind.u8 by_, Value.slice K kl kc, Value.slice L ll lc] 43))
            clear HDA e0 e1 e2 e3 e4 e5 e6
            generalize wr.alloc (Obj.cells #[Value.int IntKind.i64 10, Value.string name, Value.string text, Value.int IntKind.i64 n, Value.int IntKind.u8 by_, Value.slice K kl kc, Value.slice L ll lc] 43) = w5 at *
            go_quiet (fail)
            have HD6 := Lib.hid (HD5.out.below (firmP HD.out _ _ _) (firmR _ _ _) ((Below.refl _ w5).drewN nq))
            clear HD5
            generalize w5.drewN nq = w6 at *
            go_wp2_with fail
            have AK := Lib.hid (asks_of HD.out HD6.out)
            refine wp_region_quiet_below (by kernel_rfl) (by kernel_rfl) ?_
            repeat (go_big_quiet_step (first | (go_at_call 17; exact Calls.regrown_of (AK.out.alike _ (below_regrown w6 _ _)))))
            refine wpQuiet_nil ?_
            intro w9 hw9
            obtain ⟨⟨dq, osq⟩, hw8⟩ := hw9
            have HD9 := Lib.hid ((HD6.out.drop).below (firmP HD.out _ _ _) (firmR _ _ _) (by rw [hw8]; exact below_regrown w6 dq osq : Below w6.heap.size w6 w9))
            clear hw8 AK HD6
            go_wp2_with fail
            go_roundw
            case rel => exact ⟨i + 1, σ, by omega, by go_num, hrs, Or.inl ⟨rfl, rfl, HD9⟩⟩
            case measure => simp [intOf]; omega
          by_cases w11 : what = 11
          · subst w11
            have HDA := Lib.hid (fun o => HDU.out.alloc (firmP HD.out _ _ _) (firmR _ _ _) o)
            clear HDU
            go_wp2_with fail
            have HD5 := Lib.hid (HDA.out (Obj.cells #[Value.int IntKind.i64 11, Value.string name, Value.string text, Value.int IntKind.i64 n, Value.int IntKind.u8 by_, Value.slice K kl kc, Value.slice L ll lc] 43))
            clear HDA e0 e1 e2 e3 e4 e5 e6
            generalize wr.alloc (Obj.cells #[Value.int IntKind.i64 11, Value.string name, Value.string text, Value.int IntKind.i64 n, Value.int IntKind.u8 by_, Value.slice K kl kc, Value.slice L ll lc] 43) = w6 at *
            have AK := Lib.hid (asks_of HD.out HD5.out)
            refine wp_region_quiet_below (by kernel_rfl) (by kernel_rfl) ?_
            repeat (go_big_quiet_step (first | (go_at_call 17; exact Calls.regrown_of (AK.out.alike _ (below_regrown w6 _ _)))))
            refine wpQuiet_nil ?_
            intro w9 hw9
            obtain ⟨⟨dq, osq⟩, hw8⟩ := hw9
            have HD9 := Lib.hid ((HD5.out.drop).below (firmP HD.out _ _ _) (firmR _ _ _) (by rw [hw8]; exact below_regrown w6 dq osq : Below w6.heap.size w6 w9))
            clear hw8 AK HD5
            go_wp2_with fail
            go_roundw
            case rel => exact ⟨i + 1, σ, by omega, by go_num, hrs, Or.inl ⟨rfl, rfl, HD9⟩⟩
            case measure => simp [intOf]; omega
          by_cases w12 : what = 12
          · subst w12
            have HDA := Lib.hid (fun o => HDU.out.alloc (firmP HD.out _ _ _) (firmR _ _ _) o)
            clear HDU
            have HRT : Hid ((lopen σ rA).1.room = rm) := by show _ = _; rw [room_lopen]; exact hrs
            obtain ⟨r, hr⟩ : ∃ r, lopen σ rA = r := ⟨_, rfl⟩
            have HLR : Hid ((frs r.2.2).length ≤ 65535) := by
              obtain ⟨P, P', h1, _⟩ := HDA.out (Obj.cells #[Value.int IntKind.i64 12, Value.string name, Value.string text, Value.int IntKind.i64 n, Value.int IntKind.u8 by_, Value.slice K kl kc, Value.slice L ll lc] 43)
              obtain ⟨O9, hd9, _⟩ := h1.disk
              have h9 := lopen_recs (HD.out.inv hd9) (by omega)
              rw [hr] at h9
              exact h9
            rw [hr] at HRT
            go_wp2_with fail
            have KO := duo_popen HD.out (firmR _ _ _) (HDA.out (Obj.cells #[Value.int IntKind.i64 12, Value.string name, Value.string text, Value.int IntKind.i64 n, Value.int IntKind.u8 by_, Value.slice K kl kc, Value.slice L ll lc] 43)) HR9.out HT
            have KRO : Hid (∀ P' W, Side TheRef TheRLog gr σ none P' W → ∃ O, (∀ k, O k → P' k) ∧ Calls Tryz.prog 9 #[ptr gr, .string rA] W (ROpened O W gr r)) := fun P' W h => by
              obtain ⟨O9, hd9, ho9⟩ := h.disk
              refine ⟨O9, ho9, ?_⟩
              rw [← hr]
              exact ropen_at hd9 HR9.out
            rw [hr] at KO
            clear hr
            obtain ⟨τ, er, us⟩ := r
            dsimp only at HRT HLR KO
            refine KO.mono ?_
            rintro e w5 ⟨y, hy, hdu, _⟩
            have HDU5 := Lib.hid hdu
            clear hdu KO HDA e0 e1 e2 e3 e4 e5 e6
            cases y with
            | made x5 A5 c5 =>
              obtain ⟨h0, rfl, hst5, hnil5⟩ := hy
              dsimp only at h0 hst5 HDU5
              subst h0
              have HS5 := Lib.hid hst5
              clear hst5 hnil5
              dsimp only [openLo, openG] at HDU5
              obtain ⟨m5, hm5⟩ : ∃ m5, us.length = m5 := ⟨_, rfl⟩
              dsimp only
              rw [hm5] at HS5 HDU5 ⊢
              go_wp2_with fail
              have KR := duo_ropen (r := (τ, 0, us)) (firmP HD.out _ _ _) HDU5.out.swap (fun P hP => KRO.out P _ hP)
              refine KR.mono ?_
              rintro e w6 ⟨y, hy, hdu, hk⟩
              cases y with
              | none => exact absurd rfl hy.1
              | some xr5 =>
              obtain ⟨_, rfl⟩ := hy
              have HDU6 := Lib.hid hdu.swap
              dsimp only [ropenLo] at HDU6
              rw [hm5] at HDU6
              have HS6 : Hid (Strs w6 A5 m5 us) := rowG_strs HS5.out (fun k hk9 => hk.1 k (Or.inr hk9)) hk.2
              clear hdu hk KR HDU5 HS5 KRO
              have hm9 : m5 ≤ 1000000 := by have h9 := count_le us; have h8 := HLR.out; omega
              obtain ⟨N8, C8, A8, c8, hC8, hlg8⟩ := logged_of HDU6.out
              obtain rfl : m5 = C8 := hm5.symm.trans hC8
              have r8 := hlg8.row _ (Below.refl _ _)
              have HS8 := Lib.hid hlg8.strs
              clear hlg8 hC8
              go_wp2_with (go_at_call 14; refine (same_true A5 A8 m5 c5 c8 us hm9 _ HS6 HS8).mono ?_; rintro e w7 ⟨rfl, hd7⟩; have HDU7 := Lib.hid (HDU6.out.below (firmP HD.out _ _ _) (firmR _ _ _) (of_drewN hd7)))
              clear HDU6 HS6 HS8 r8
              have AK := Lib.hid (asks_of HD.out HDU7.out)
              obtain ⟨N9, C9, A9, c9, hC9, hlg⟩ := logged_of HDU7.out
              have LG := Lib.hid hlg
              obtain ⟨S9, hS9⟩ : ∃ S9, ((⟨us, m5, false⟩ : Lg)).sure = S9 := ⟨_, rfl⟩
              have KS9 := Lib.hid hlg.sure
              have ks9 := hlg.su
              rw [hS9] at KS9 ks9
              have z2 : ∀ d os, (Sort.grow (redrawn w7 d) os).cell? ⟨xr5, 2, none⟩ = some (.slice A9 C9 c9) := fun d os => LG.out.row _ (below_regrown w7 d os)
              have z3 : ∀ d os, (Sort.grow (redrawn w7 d) os).cell? ⟨xr5, 3, none⟩ = some (.int .i64 (S9 : Nat)) := fun d os => ks9 _ (below_regrown w7 d os)
              clear hlg hS9 ks9 hC9
              refine wp_region_quiet_below (by kernel_rfl) (by kernel_rfl) ?_
              repeat (go_big_quiet_step (first | (go_at_call 17; exact Calls.regrown_of (AK.out.alike _ (below_regrown w7 _ _))) | (go_at_call 18; exact Calls.regrown_of (LG.out.len _ (below_regrown w7 _ _))) | (go_at_call 19; exact Calls.regrown_of (LG.out.rlen _ (below_regrown w7 _ _))) | (go_at_call 20; exact Calls.regrown_of (LG.out.count _ (below_regrown w7 _ _))) | (go_at_call 21; exact Calls.regrown_of (KS9.out _ (below_regrown w7 _ _)))))
              refine wpQuiet_nil ?_
              intro w9 hw9
              obtain ⟨⟨dq, osq⟩, hw8⟩ := hw9
              have HD9 := Lib.hid ((HDU7.out.drop).below (firmP HD.out _ _ _) (firmR _ _ _) (by rw [hw8]; exact below_regrown w7 dq osq : Below w7.heap.size w7 w9))
              clear hw8 AK HDU7 LG KS9 z2 z3
              go_wp2_with fail
              go_roundw
              case rel => exact ⟨i + 1, τ, by omega, by go_num, HRT.out, Or.inr ⟨x5, xr5, (⟨us, m5, false⟩ : Lg), rfl, rfl, HD9, bnd_new _ HLR.out⟩⟩
              case measure => simp [intOf]; omega
            | not A5 c5 =>
              obtain ⟨h0, rfl⟩ := hy
              dsimp only at h0 HDU5
              dsimp only [openLo, openG] at HDU5
              have q : ((er : Int) == 0) = false := by rw [beq_eq_false_iff_ne]; omega
              go_wp2_with fail
              have KR := duo_ropen (r := (τ, er, us)) (firmP HD.out _ _ _) HDU5.out.swap (fun P hP => KRO.out P _ hP)
              refine KR.mono ?_
              rintro e w6 ⟨y, hy, hdu, hk⟩
              cases y with
              | some xr5 => exact absurd hy.1 h0
              | none =>
              obtain ⟨_, rfl⟩ := hy
              have HDU6 := Lib.hid hdu.swap
              dsimp only [ropenLo] at HDU6
              clear hdu hk KR HDU5 KRO
              go_wp2_with fail
              have AK := Lib.hid (asks_of HD.out HDU6.out)
              refine wp_region_quiet_below (by kernel_rfl) (by kernel_rfl) ?_
              repeat (go_big_quiet_step (first | (go_at_call 17; exact Calls.regrown_of (AK.out.alike _ (below_regrown w6 _ _)))))
              refine wpQuiet_nil ?_
              intro w9 hw9
              obtain ⟨⟨dq, osq⟩, hw8⟩ := hw9
              have HD9 := Lib.hid ((HDU6.out.drop).below (firmP HD.out _ _ _) (firmR _ _ _) (by rw [hw8]; exact below_regrown w6 dq osq : Below w6.heap.size w6 w9))
              clear hw8 AK HDU6
              go_wp2_with fail
              go_roundw
              case rel => exact ⟨i + 1, τ, by omega, by go_num, HRT.out, Or.inl ⟨rfl, rfl, HD9⟩⟩
              case measure => simp [intOf]; omega
          have HDA := Lib.hid (fun o => HDU.out.alloc (firmP HD.out _ _ _) (firmR _ _ _) o)
          have q10 : (what == 10) = false := by rw [beq_eq_false_iff_ne]; exact w10
          have q11 : (what == 11) = false := by rw [beq_eq_false_iff_ne]; exact w11
          have q12 : (what == 12) = false := by rw [beq_eq_false_iff_ne]; exact w12
          clear w10 w11 w12
          go_wp2_with fail
          refine (duo_quiet (L := TheLog) TheLog.stays TheLog.own (firmR _ _ _) (HDA.out _) (fun O hO => disked_did HD.out ⟨⟨what, name, text, n, by_, K, kl, kc, ks⟩, L, ll, lc, ts⟩ hO (hok8.out _ (HDA.out _).bel))).mono ?_
          rintro e w5 ⟨rfl, hdu5, hk5⟩
          have HDU5 := Lib.hid hdu5
          have KEPT := Lib.hid hk5
          clear hdu5 hk5 HDU HDA e0 e1 e2 e3 e4 e5 e6
          dsimp only at HDU5
          obtain ⟨τ, hτ⟩ : ∃ τ, onA σ ⟨what, name, text, n, by_, K, kl, kc, ks⟩ = τ := ⟨_, rfl⟩
          have hrt : τ.room = rm := by rw [← hτ, room_onA]; exact hrs
          have HTAU := Lib.hid hτ
          rw [hτ] at HDU5
          clear hτ
          have hnb := (KEPT.out _ rfl).trans (heap_alloc_new wr (Obj.cells #[Value.int IntKind.i64 what, Value.string name, Value.string text, Value.int IntKind.i64 n, Value.int IntKind.u8 by_, Value.slice K kl kc, Value.slice L ll lc] 43))
          have p0 := (cell_hp hnb 0)
          have p1 := (cell_hp hnb 1)
          have p2 := (cell_hp hnb 2)
          have p3 := (cell_hp hnb 3)
          have p4 := (cell_hp hnb 4)
          have p5 := (cell_hp hnb 5)
          have p6 := (cell_hp hnb 6)
          simp only [List.getElem?_toArray, List.getElem?_cons_zero, List.getElem?_cons_succ] at p0 p1 p2 p3 p4 p5 p6
          clear hnb
          go_wp2_with fail
          have KT := duo_quiet (L := TheRLog) (τ := τ) TheRLog.stays TheRLog.own (firmP HD.out _ _ _) HDU5.out.swap (f := 16) (args := #[ptr gr, SV8.val ⟨⟨what, name, text, n, by_, K, kl, kc, ks⟩, L, ll, lc, ts⟩]) (fun O hO => by rw [← HTAU.out]; exact told_at ⟨⟨what, name, text, n, by_, K, kl, kc, ks⟩, L, ll, lc, ts⟩ hO (hok8.out _ HDU5.out.bel))
          refine KT.mono ?_
          rintro e w6 ⟨rfl, hdu6, _⟩
          have HDU6 := Lib.hid hdu6.swap
          clear hdu6 KT HDU5 KEPT p0 p1 p2 p3 p4 p5 p6 HTAU
          go_wp2_with fail
          have AK := Lib.hid (asks_of HD.out HDU6.out)
          refine wp_region_quiet_below (by kernel_rfl) (by kernel_rfl) ?_
          repeat (go_big_quiet_step (first | (go_at_call 17; exact Calls.regrown_of (AK.out.alike _ (below_regrown w6 _ _)))))
          refine wpQuiet_nil ?_
          intro w9 hw9
          obtain ⟨⟨dq, osq⟩, hw8⟩ := hw9
          have HD9 := Lib.hid ((HDU6.out.drop).below (firmP HD.out _ _ _) (firmR _ _ _) (by rw [hw8]; exact below_regrown w6 dq osq : Below w6.heap.size w6 w9))
          clear hw8 AK HDU6
          go_wp2_with fail
          go_roundw
          case rel => exact ⟨i + 1, τ, by omega, by go_num, hrt, Or.inl ⟨rfl, rfl, HD9⟩⟩
          case measure => simp [intOf]; omega
        · have e0 := (HAT.out.below HDU.out.bel).s.c0
          have e1 := (HAT.out.below HDU.out.bel).s.c1
          have e2 := (HAT.out.below HDU.out.bel).s.c2
          have e3 := (HAT.out.below HDU.out.bel).s.c3
          have e4 := (HAT.out.below HDU.out.bel).s.c4
          have e5 := (HAT.out.below HDU.out.bel).s.c5
          have e6 := (HAT.out.below HDU.out.bel).c6
          dsimp only at e0 e1 e2 e3 e4 e5 e6
          by_cases w10 : what = 10
          · subst w10
            have HDA := Lib.hid (fun o => HDU.out.alloc (firmP HD.out _ _ _) (firmR _ _ _) o)
            clear HDU
            have hnl : L = none → lc = 0 := fun h => (HOK.out.l.none h).2
            have HNL := Lib.hid hnl
            have hll1 : ll ≤ 1000000 := by omega
            have hts : (frs ts).length ≤ 1048576 := by have h := frs_fits HTS.out; omega
            have HTSL := Lib.hid hts
            obtain ⟨τ, l2, er, hτ⟩ : ∃ τ l2 er, lappend σ rA l ts = (τ, l2, er) := ⟨_, _, _, rfl⟩
            have hrt : τ.room = rm := by have h := room_lappend σ rA l ts; rw [hτ] at h; exact h.trans hrs
            have HBL : Hid ((frs l2.recs).length ≤ bnd (i + 1)) := by have h := recs_append σ l ts; rw [hτ] at h; exact Nat.le_trans h (bnd_more HBD.out hts)
            have HGR := Lib.hid (bnd_great HBD.out (show i ≤ 150 by omega))
            have HTAU := Lib.hid hτ
            have HLT := Lib.hid HOK.out.l.row.len
            dsimp only at HLT
            have HSL : Hid (∀ W, Below w.heap.size w W → Hid (Strs W L ll ts)) := fun W hW => (hok8.out W hW).l.row
            clear hτ hts hnl
            go_wp2_with fail
            have HD5 := Lib.hid (HDA.out (Obj.cells #[Value.int IntKind.i64 10, Value.string name, Value.string text, Value.int IntKind.i64 n, Value.int IntKind.u8 by_, Value.slice K kl kc, Value.slice L ll lc] 43))
            have HNB := Lib.hid (heap_alloc_new wr (Obj.cells #[Value.int IntKind.i64 10, Value.string name, Value.string text, Value.int IntKind.i64 n, Value.int IntKind.u8 by_, Value.slice K kl kc, Value.slice L ll lc] 43))
            obtain ⟨nb, hnbe⟩ : ∃ nb, wr.heap.size = nb := ⟨_, rfl⟩
            clear HDA e0 e1 e2 e3 e4 e5 e6
            generalize wr.alloc (Obj.cells #[Value.int IntKind.i64 10, Value.string name, Value.string text, Value.int IntKind.i64 n, Value.int IntKind.u8 by_, Value.slice K kl kc, Value.slice L ll lc] 43) = wA at *
            rw [hnbe] at HNB HD5 ⊢
            clear hnbe
            refine wp_region_any (by kernel_rfl) ?_
            change wpAny _ _ _ _ _ _ _ (World.drew _)
            have HDU3 := Lib.hid (HD5.out.below (firmP HD.out _ _ _) (firmR _ _ _) ((Below.refl _ wA).drew))
            have HN3 : Hid (wA.drew.heap[nb]? = some (Obj.cells #[Value.int IntKind.i64 10, Value.string name, Value.string text, Value.int IntKind.i64 n, Value.int IntKind.u8 by_, Value.slice K kl kc, Value.slice L ll lc] 43 (0, 0))) := HNB.out
            clear HD5 HNB
            generalize wA.drew = w3 at *
            clear wA
            refine wpAny_take (i := 0) (v := ptr xr) rfl (by kernel_rfl) (by kernel_rfl) (by kernel_rfl) (fun _ _ _ h => h) (Or.inl ⟨by kernel_rfl, ?_⟩) ?_
            · intro w; go_simp
            refine wpAny_take (i := 1) (v := .bool false) rfl (by kernel_rfl) (by kernel_rfl) (by kernel_rfl) (fun _ _ _ h => h) (Or.inl ⟨by kernel_rfl, ?_⟩) ?_
            · intro w; go_simp
            refine wpAny_take (i := 2) (v := .bool false) rfl (by kernel_rfl) (by kernel_rfl) (by kernel_rfl) (fun _ _ _ h => h) (Or.inl ⟨by kernel_rfl, ?_⟩) ?_
            · intro w; go_simp
            refine wpAny_take (i := 3) (v := ptr x) rfl (by kernel_rfl) (by kernel_rfl) (by kernel_rfl) (fun _ _ _ h => h) (Or.inl ⟨by kernel_rfl, ?_⟩) ?_
            · intro w; go_simp
            refine wpAny_take (i := 4) (v := .pointer (some ⟨nb, 6, none⟩)) rfl (by kernel_rfl) (by kernel_rfl) (by kernel_rfl) (fun _ _ _ h => h) (Or.inl ⟨by kernel_rfl, ?_⟩) ?_
            · intro w; go_simp
            refine wpAny_take (i := 8) (v := ptr xr) rfl (by kernel_rfl) (by kernel_rfl) (by kernel_rfl) (fun _ _ _ h => h) (Or.inl ⟨by kernel_rfl, ?_⟩) ?_
            · intro w; go_simp
            refine wpAny_take (i := 9) (v := .pointer (some ⟨nb, 6, none⟩)) rfl (by kernel_rfl) (by kernel_rfl) (by kernel_rfl) (fun _ _ _ h => h) (Or.inl ⟨by kernel_rfl, ?_⟩) ?_
            · intro w; go_simp
            refine wpAny_ready (rs := [5, 10]) (by kernel_rfl) (by simp) ?_
            refine AllReady.cons rfl (fun K hK => ?_) (AllReady.cons rfl (fun K hK => ?_) AllReady.nil)
            · have p6 : w3.cell? ⟨nb, 6, none⟩ = some (.slice L ll lc) := by rw [cell_hp HN3.out]; rfl
              go_simp
              clear p6
              refine hK _ _ ?_
              clear hK K
              refine wpAny_ready (rs := [6, 10]) (by kernel_rfl) (by simp) ?_
              refine BigFrame.allReady_want rfl (by kernel_rfl) (fun K hK => ?_) (AllReady.cons rfl (fun K hK => ?_) AllReady.nil)
              · refine copy_want (.const (.slice none 0 0)) (.tmp 86) rfl rfl L ll lc ts rfl (HSL.out _ HDU3.out.bel) hll1 HNL.out ?_
                intro A62 c62 wa2 HSa2 HBx
                have HDUa2 := Lib.hid (HDU3.out.below (firmP HD.out _ _ _) (firmR _ _ _) HBx.out)
                have HNa2 := Lib.hid ((HBx.out.block nb (lt_of_heap HN3.out)).trans HN3.out)
                clear HBx
                refine hK _ _ ?_
                clear hK K
                refine wpAny_ready (rs := [7, 10]) (by kernel_rfl) (by simp) ?_
                refine AllReady.cons rfl (fun K hK => ?_) (AllReady.cons rfl (fun K hK => ?_) AllReady.nil)
                · go_simp
                  have KT := duo_put (r := (τ, l2, er)) (firmR _ _ _) HDUa2.out (f := 10) (args := #[ptr x, .slice A62 ll c62]) (fun O Q h1 h2 h3 _ => by
                    have k := lg_append HD.out A62 c62 ts h1 h2 h3 (tab_later HT HDUa2.out.bel) (by rw [HLT.out]; exact HSa2.out) HTSL.out HGR.out
                    rw [HLT.out, HTAU.out] at k
                    exact k)
                  refine KT.mono ?_
                  rintro e wb3 ⟨rfl, hdu, hk⟩
                  have HDUb3 := Lib.hid hdu
                  have HNb3 := Lib.hid ((hk nb rfl).trans HNa2.out)
                  clear hdu hk KT
                  refine hK _ _ ?_
                  clear hK K
                  refine wpAny_ready (rs := [10]) (by kernel_rfl) (by simp) ?_
                  refine AllReady.cons rfl (fun K hK => ?_) AllReady.nil
                  · have p6 : wb3.cell? ⟨nb, 6, none⟩ = some (.slice L ll lc) := by rw [cell_hp HNb3.out]; rfl
                    go_simp
                    clear p6
                    refine hK _ _ ?_
                    clear hK K
                    refine wpAny_ready (rs := [11]) (by kernel_rfl) (by simp) ?_
                    refine AllReady.cons rfl (fun K hK => ?_) AllReady.nil
                    · go_simp
                      have KT := duo_put (r := (τ, l2, er)) (firmP HD.out _ _ _) HDUb3.out.swap (f := 11) (args := #[ptr xr, .slice L ll lc]) (fun O Q h1 h2 h3 h4 => by
                        have k := rlog_append L lc ts h1 h2 h3 (by rw [HLT.out]; exact (HSL.out _ HDUb3.out.bel).out) (fun ad had hne ho => by
                          obtain ⟨b9, o9, e9, hb9, _⟩ := (HSL.out _ (Below.refl _ _)).out.cell 0 (List.length_pos_iff.2 hne)
                          have h9 := h4 _ ho
                          rw [had] at e9
                          injection e9 with e9
                          rw [e9] at h9
                          simp only at h9
                          omega) HTSL.out HGR.out
                        rw [HLT.out, HTAU.out] at k
                        exact k)
                      refine KT.mono ?_
                      rintro e wc5 ⟨rfl, hdu, hk⟩
                      have HDUc5 := Lib.hid hdu.swap
                      have HNc5 := Lib.hid ((hk nb rfl).trans HNb3.out)
                      clear hdu hk KT
                      dsimp only at HDUc5
                      refine hK _ _ ?_
                      clear hK K
                      refine wpAny_ready (rs := [12]) (by kernel_rfl) (by simp) ?_
                      refine AllReady.cons rfl (fun K hK => ?_) AllReady.nil
                      · go_simp
                        refine hK _ _ ?_
                        clear hK K
                        refine wpAny_ready (rs := [13]) (by kernel_rfl) (by simp) ?_
                        refine AllReady.cons rfl (fun K hK => ?_) AllReady.nil
                        · go_simp
                          refine hK _ _ ?_
                          clear hK K
                          refine wpAny_ready (rs := [14]) (by kernel_rfl) (by simp) ?_
                          refine AllReady.cons rfl (fun K hK => ?_) AllReady.nil
                          · go_simp
                            refine hK _ _ ?_
                            clear hK K
                            refine wpAny_done (by kernel_rfl) ?_ _
                            clear HNc5
                            go_wp2_with fail
                            have AK := Lib.hid (asks_of HD.out HDUc5.out)
                            obtain ⟨N9, C9, A9, c9, hC9, hlg⟩ := logged_of HDUc5.out
                            have LG := Lib.hid hlg
                            obtain ⟨S9, hS9⟩ : ∃ S9, (l2).sure = S9 := ⟨_, rfl⟩
                            have KS9 := Lib.hid hlg.sure
                            have ks9 := hlg.su
                            rw [hS9] at KS9 ks9
                            have z2 : ∀ d os, (Sort.grow (redrawn wc5 d) os).cell? ⟨xr, 2, none⟩ = some (.slice A9 C9 c9) := fun d os => LG.out.row _ (below_regrown wc5 d os)
                            have z3 : ∀ d os, (Sort.grow (redrawn wc5 d) os).cell? ⟨xr, 3, none⟩ = some (.int .i64 (S9 : Nat)) := fun d os => ks9 _ (below_regrown wc5 d os)
                            clear hlg hS9 ks9 hC9
                            refine wp_region_quiet_below (by kernel_rfl) (by kernel_rfl) ?_
                            repeat (go_big_quiet_step (first | (go_at_call 17; exact Calls.regrown_of (AK.out.alike _ (below_regrown wc5 _ _))) | (go_at_call 18; exact Calls.regrown_of (LG.out.len _ (below_regrown wc5 _ _))) | (go_at_call 19; exact Calls.regrown_of (LG.out.rlen _ (below_regrown wc5 _ _))) | (go_at_call 20; exact Calls.regrown_of (LG.out.count _ (below_regrown wc5 _ _))) | (go_at_call 21; exact Calls.regrown_of (KS9.out _ (below_regrown wc5 _ _)))))
                            refine wpQuiet_nil ?_
                            intro w9 hw9
                            obtain ⟨⟨dq, osq⟩, hw8⟩ := hw9
                            have HD9 := Lib.hid ((HDUc5.out.drop).below (firmP HD.out _ _ _) (firmR _ _ _) (by rw [hw8]; exact below_regrown wc5 dq osq : Below wc5.heap.size wc5 w9))
                            clear hw8 AK HDUc5 LG KS9 z2 z3
                            go_wp2_with fail
                            go_roundw
                            case rel => exact ⟨i + 1, τ, by omega, by go_num, hrt, Or.inr ⟨x, xr, l2, rfl, rfl, HD9, HBL⟩⟩
                            case measure => simp [intOf]; omega
                · have p6 : wa2.cell? ⟨nb, 6, none⟩ = some (.slice L ll lc) := by rw [cell_hp HNa2.out]; rfl
                  go_simp
                  clear p6
                  refine hK _ _ ?_
                  clear hK K
                  refine wpAny_ready (rs := [7]) (by kernel_rfl) (by simp) ?_
                  refine AllReady.cons rfl (fun K hK => ?_) AllReady.nil
                  · go_simp
                    have KT := duo_put (r := (τ, l2, er)) (firmR _ _ _) HDUa2.out (f := 10) (args := #[ptr x, .slice A62 ll c62]) (fun O Q h1 h2 h3 _ => by
                      have k := lg_append HD.out A62 c62 ts h1 h2 h3 (tab_later HT HDUa2.out.bel) (by rw [HLT.out]; exact HSa2.out) HTSL.out HGR.out
                      rw [HLT.out, HTAU.out] at k
                      exact k)
                    refine KT.mono ?_
                    rintro e wb10 ⟨rfl, hdu, hk⟩
                    have HDUb10 := Lib.hid hdu
                    have HNb10 := Lib.hid ((hk nb rfl).trans HNa2.out)
                    clear hdu hk KT
                    refine hK _ _ ?_
                    clear hK K
                    refine wpAny_ready (rs := [11]) (by kernel_rfl) (by simp) ?_
                    refine AllReady.cons rfl (fun K hK => ?_) AllReady.nil
                    · go_simp
                      have KT := duo_put (r := (τ, l2, er)) (firmP HD.out _ _ _) HDUb10.out.swap (f := 11) (args := #[ptr xr, .slice L ll lc]) (fun O Q h1 h2 h3 h4 => by
                        have k := rlog_append L lc ts h1 h2 h3 (by rw [HLT.out]; exact (HSL.out _ HDUb10.out.bel).out) (fun ad had hne ho => by
                          obtain ⟨b9, o9, e9, hb9, _⟩ := (HSL.out _ (Below.refl _ _)).out.cell 0 (List.length_pos_iff.2 hne)
                          have h9 := h4 _ ho
                          rw [had] at e9
                          injection e9 with e9
                          rw [e9] at h9
                          simp only at h9
                          omega) HTSL.out HGR.out
                        rw [HLT.out, HTAU.out] at k
                        exact k)
                      refine KT.mono ?_
                      rintro e wc11 ⟨rfl, hdu, hk⟩
                      have HDUc11 := Lib.hid hdu.swap
                      have HNc11 := Lib.hid ((hk nb rfl).trans HNb10.out)
                      clear hdu hk KT
                      dsimp only at HDUc11
                      refine hK _ _ ?_
                      clear hK K
                      refine wpAny_ready (rs := [12]) (by kernel_rfl) (by simp) ?_
                      refine AllReady.cons rfl (fun K hK => ?_) AllReady.nil
                      · go_simp
                        refine hK _ _ ?_
                        clear hK K
                        refine wpAny_ready (rs := [13]) (by kernel_rfl) (by simp) ?_
                        refine AllReady.cons rfl (fun K hK => ?_) AllReady.nil
                        · go_simp
                          refine hK _ _ ?_
                          clear hK K
                          refine wpAny_ready (rs := [14]) (by kernel_rfl) (by simp) ?_
                          refine AllReady.cons rfl (fun K hK => ?_) AllReady.nil
                          · go_simp
                            refine hK _ _ ?_
                            clear hK K
                            refine wpAny_done (by kernel_rfl) ?_ _
                            clear HNc11
                            go_wp2_with fail
                            have AK := Lib.hid (asks_of HD.out HDUc11.out)
                            obtain ⟨N9, C9, A9, c9, hC9, hlg⟩ := logged_of HDUc11.out
                            have LG := Lib.hid hlg
                            obtain ⟨S9, hS9⟩ : ∃ S9, (l2).sure = S9 := ⟨_, rfl⟩
                            have KS9 := Lib.hid hlg.sure
                            have ks9 := hlg.su
                            rw [hS9] at KS9 ks9
                            have z2 : ∀ d os, (Sort.grow (redrawn wc11 d) os).cell? ⟨xr, 2, none⟩ = some (.slice A9 C9 c9) := fun d os => LG.out.row _ (below_regrown wc11 d os)
                            have z3 : ∀ d os, (Sort.grow (redrawn wc11 d) os).cell? ⟨xr, 3, none⟩ = some (.int .i64 (S9 : Nat)) := fun d os => ks9 _ (below_regrown wc11 d os)
                            clear hlg hS9 ks9 hC9
                            refine wp_region_quiet_below (by kernel_rfl) (by kernel_rfl) ?_
                            repeat (go_big_quiet_step (first | (go_at_call 17; exact Calls.regrown_of (AK.out.alike _ (below_regrown wc11 _ _))) | (go_at_call 18; exact Calls.regrown_of (LG.out.len _ (below_regrown wc11 _ _))) | (go_at_call 19; exact Calls.regrown_of (LG.out.rlen _ (below_regrown wc11 _ _))) | (go_at_call 20; exact Calls.regrown_of (LG.out.count _ (below_regrown wc11 _ _))) | (go_at_call 21; exact Calls.regrown_of (KS9.out _ (below_regrown wc11 _ _)))))
                            refine wpQuiet_nil ?_
                            intro w9 hw9
                            obtain ⟨⟨dq, osq⟩, hw8⟩ := hw9
                            have HD9 := Lib.hid ((HDUc11.out.drop).below (firmP HD.out _ _ _) (firmR _ _ _) (by rw [hw8]; exact below_regrown wc11 dq osq : Below wc11.heap.size wc11 w9))
                            clear hw8 AK HDUc11 LG KS9 z2 z3
                            go_wp2_with fail
                            go_roundw
                            case rel => exact ⟨i + 1, τ, by omega, by go_num, hrt, Or.inr ⟨x, xr, l2, rfl, rfl, HD9, HBL⟩⟩
                            case measure => simp [intOf]; omega
              · have p6 : w3.cell? ⟨nb, 6, none⟩ = some (.slice L ll lc) := by rw [cell_hp HN3.out]; rfl
                go_simp
                clear p6
                refine hK _ _ ?_
                clear hK K
                refine wpAny_ready (rs := [6]) (by kernel_rfl) (by simp) ?_
                refine BigFrame.allReady_want rfl (by kernel_rfl) (fun K hK => ?_) AllReady.nil
                · refine copy_want (.const (.slice none 0 0)) (.tmp 86) rfl rfl L ll lc ts rfl (HSL.out _ HDU3.out.bel) hll1 HNL.out ?_
                  intro A616 c616 wa16 HSa16 HBx
                  have HDUa16 := Lib.hid (HDU3.out.below (firmP HD.out _ _ _) (firmR _ _ _) HBx.out)
                  have HNa16 := Lib.hid ((HBx.out.block nb (lt_of_heap HN3.out)).trans HN3.out)
                  clear HBx
                  refine hK _ _ ?_
                  clear hK K
                  refine wpAny_ready (rs := [7]) (by kernel_rfl) (by simp) ?_
                  refine AllReady.cons rfl (fun K hK => ?_) AllReady.nil
                  · go_simp
                    have KT := duo_put (r := (τ, l2, er)) (firmR _ _ _) HDUa16.out (f := 10) (args := #[ptr x, .slice A616 ll c616]) (fun O Q h1 h2 h3 _ => by
                      have k := lg_append HD.out A616 c616 ts h1 h2 h3 (tab_later HT HDUa16.out.bel) (by rw [HLT.out]; exact HSa16.out) HTSL.out HGR.out
                      rw [HLT.out, HTAU.out] at k
                      exact k)
                    refine KT.mono ?_
                    rintro e wb17 ⟨rfl, hdu, hk⟩
                    have HDUb17 := Lib.hid hdu
                    have HNb17 := Lib.hid ((hk nb rfl).trans HNa16.out)
                    clear hdu hk KT
                    refine hK _ _ ?_
                    clear hK K
                    refine wpAny_ready (rs := [11]) (by kernel_rfl) (by simp) ?_
                    refine AllReady.cons rfl (fun K hK => ?_) AllReady.nil
                    · go_simp
                      have KT := duo_put (r := (τ, l2, er)) (firmP HD.out _ _ _) HDUb17.out.swap (f := 11) (args := #[ptr xr, .slice L ll lc]) (fun O Q h1 h2 h3 h4 => by
                        have k := rlog_append L lc ts h1 h2 h3 (by rw [HLT.out]; exact (HSL.out _ HDUb17.out.bel).out) (fun ad had hne ho => by
                          obtain ⟨b9, o9, e9, hb9, _⟩ := (HSL.out _ (Below.refl _ _)).out.cell 0 (List.length_pos_iff.2 hne)
                          have h9 := h4 _ ho
                          rw [had] at e9
                          injection e9 with e9
                          rw [e9] at h9
                          simp only at h9
                          omega) HTSL.out HGR.out
                        rw [HLT.out, HTAU.out] at k
                        exact k)
                      refine KT.mono ?_
                      rintro e wc18 ⟨rfl, hdu, hk⟩
                      have HDUc18 := Lib.hid hdu.swap
                      have HNc18 := Lib.hid ((hk nb rfl).trans HNb17.out)
                      clear hdu hk KT
                      dsimp only at HDUc18
                      refine hK _ _ ?_
                      clear hK K
                      refine wpAny_ready (rs := [12]) (by kernel_rfl) (by simp) ?_
                      refine AllReady.cons rfl (fun K hK => ?_) AllReady.nil
                      · go_simp
                        refine hK _ _ ?_
                        clear hK K
                        refine wpAny_ready (rs := [13]) (by kernel_rfl) (by simp) ?_
                        refine AllReady.cons rfl (fun K hK => ?_) AllReady.nil
                        · go_simp
                          refine hK _ _ ?_
                          clear hK K
                          refine wpAny_ready (rs := [14]) (by kernel_rfl) (by simp) ?_
                          refine AllReady.cons rfl (fun K hK => ?_) AllReady.nil
                          · go_simp
                            refine hK _ _ ?_
                            clear hK K
                            refine wpAny_done (by kernel_rfl) ?_ _
                            clear HNc18
                            go_wp2_with fail
                            have AK := Lib.hid (asks_of HD.out HDUc18.out)
                            obtain ⟨N9, C9, A9, c9, hC9, hlg⟩ := logged_of HDUc18.out
                            have LG := Lib.hid hlg
                            obtain ⟨S9, hS9⟩ : ∃ S9, (l2).sure = S9 := ⟨_, rfl⟩
                            have KS9 := Lib.hid hlg.sure
                            have ks9 := hlg.su
                            rw [hS9] at KS9 ks9
                            have z2 : ∀ d os, (Sort.grow (redrawn wc18 d) os).cell? ⟨xr, 2, none⟩ = some (.slice A9 C9 c9) := fun d os => LG.out.row _ (below_regrown wc18 d os)
                            have z3 : ∀ d os, (Sort.grow (redrawn wc18 d) os).cell? ⟨xr, 3, none⟩ = some (.int .i64 (S9 : Nat)) := fun d os => ks9 _ (below_regrown wc18 d os)
                            clear hlg hS9 ks9 hC9
                            refine wp_region_quiet_below (by kernel_rfl) (by kernel_rfl) ?_
                            repeat (go_big_quiet_step (first | (go_at_call 17; exact Calls.regrown_of (AK.out.alike _ (below_regrown wc18 _ _))) | (go_at_call 18; exact Calls.regrown_of (LG.out.len _ (below_regrown wc18 _ _))) | (go_at_call 19; exact Calls.regrown_of (LG.out.rlen _ (below_regrown wc18 _ _))) | (go_at_call 20; exact Calls.regrown_of (LG.out.count _ (below_regrown wc18 _ _))) | (go_at_call 21; exact Calls.regrown_of (KS9.out _ (below_regrown wc18 _ _)))))
                            refine wpQuiet_nil ?_
                            intro w9 hw9
                            obtain ⟨⟨dq, osq⟩, hw8⟩ := hw9
                            have HD9 := Lib.hid ((HDUc18.out.drop).below (firmP HD.out _ _ _) (firmR _ _ _) (by rw [hw8]; exact below_regrown wc18 dq osq : Below wc18.heap.size wc18 w9))
                            clear hw8 AK HDUc18 LG KS9 z2 z3
                            go_wp2_with fail
                            go_roundw
                            case rel => exact ⟨i + 1, τ, by omega, by go_num, hrt, Or.inr ⟨x, xr, l2, rfl, rfl, HD9, HBL⟩⟩
                            case measure => simp [intOf]; omega
            · have p6 : w3.cell? ⟨nb, 6, none⟩ = some (.slice L ll lc) := by rw [cell_hp HN3.out]; rfl
              go_simp
              clear p6
              refine hK _ _ ?_
              clear hK K
              refine wpAny_ready (rs := [5]) (by kernel_rfl) (by simp) ?_
              refine AllReady.cons rfl (fun K hK => ?_) AllReady.nil
              · have p6 : w3.cell? ⟨nb, 6, none⟩ = some (.slice L ll lc) := by rw [cell_hp HN3.out]; rfl
                go_simp
                clear p6
                refine hK _ _ ?_
                clear hK K
                refine wpAny_ready (rs := [6]) (by kernel_rfl) (by simp) ?_
                refine BigFrame.allReady_want rfl (by kernel_rfl) (fun K hK => ?_) AllReady.nil
                · refine copy_want (.const (.slice none 0 0)) (.tmp 86) rfl rfl L ll lc ts rfl (HSL.out _ HDU3.out.bel) hll1 HNL.out ?_
                  intro A624 c624 wa24 HSa24 HBx
                  have HDUa24 := Lib.hid (HDU3.out.below (firmP HD.out _ _ _) (firmR _ _ _) HBx.out)
                  have HNa24 := Lib.hid ((HBx.out.block nb (lt_of_heap HN3.out)).trans HN3.out)
                  clear HBx
                  refine hK _ _ ?_
                  clear hK K
                  refine wpAny_ready (rs := [7]) (by kernel_rfl) (by simp) ?_
                  refine AllReady.cons rfl (fun K hK => ?_) AllReady.nil
                  · go_simp
                    have KT := duo_put (r := (τ, l2, er)) (firmR _ _ _) HDUa24.out (f := 10) (args := #[ptr x, .slice A624 ll c624]) (fun O Q h1 h2 h3 _ => by
                      have k := lg_append HD.out A624 c624 ts h1 h2 h3 (tab_later HT HDUa24.out.bel) (by rw [HLT.out]; exact HSa24.out) HTSL.out HGR.out
                      rw [HLT.out, HTAU.out] at k
                      exact k)
                    refine KT.mono ?_
                    rintro e wb25 ⟨rfl, hdu, hk⟩
                    have HDUb25 := Lib.hid hdu
                    have HNb25 := Lib.hid ((hk nb rfl).trans HNa24.out)
                    clear hdu hk KT
                    refine hK _ _ ?_
                    clear hK K
                    refine wpAny_ready (rs := [11]) (by kernel_rfl) (by simp) ?_
                    refine AllReady.cons rfl (fun K hK => ?_) AllReady.nil
                    · go_simp
                      have KT := duo_put (r := (τ, l2, er)) (firmP HD.out _ _ _) HDUb25.out.swap (f := 11) (args := #[ptr xr, .slice L ll lc]) (fun O Q h1 h2 h3 h4 => by
                        have k := rlog_append L lc ts h1 h2 h3 (by rw [HLT.out]; exact (HSL.out _ HDUb25.out.bel).out) (fun ad had hne ho => by
                          obtain ⟨b9, o9, e9, hb9, _⟩ := (HSL.out _ (Below.refl _ _)).out.cell 0 (List.length_pos_iff.2 hne)
                          have h9 := h4 _ ho
                          rw [had] at e9
                          injection e9 with e9
                          rw [e9] at h9
                          simp only at h9
                          omega) HTSL.out HGR.out
                        rw [HLT.out, HTAU.out] at k
                        exact k)
                      refine KT.mono ?_
                      rintro e wc26 ⟨rfl, hdu, hk⟩
                      have HDUc26 := Lib.hid hdu.swap
                      have HNc26 := Lib.hid ((hk nb rfl).trans HNb25.out)
                      clear hdu hk KT
                      dsimp only at HDUc26
                      refine hK _ _ ?_
                      clear hK K
                      refine wpAny_ready (rs := [12]) (by kernel_rfl) (by simp) ?_
                      refine AllReady.cons rfl (fun K hK => ?_) AllReady.nil
                      · go_simp
                        refine hK _ _ ?_
                        clear hK K
                        refine wpAny_ready (rs := [13]) (by kernel_rfl) (by simp) ?_
                        refine AllReady.cons rfl (fun K hK => ?_) AllReady.nil
                        · go_simp
                          refine hK _ _ ?_
                          clear hK K
                          refine wpAny_ready (rs := [14]) (by kernel_rfl) (by simp) ?_
                          refine AllReady.cons rfl (fun K hK => ?_) AllReady.nil
                          · go_simp
                            refine hK _ _ ?_
                            clear hK K
                            refine wpAny_done (by kernel_rfl) ?_ _
                            clear HNc26
                            go_wp2_with fail
                            have AK := Lib.hid (asks_of HD.out HDUc26.out)
                            obtain ⟨N9, C9, A9, c9, hC9, hlg⟩ := logged_of HDUc26.out
                            have LG := Lib.hid hlg
                            obtain ⟨S9, hS9⟩ : ∃ S9, (l2).sure = S9 := ⟨_, rfl⟩
                            have KS9 := Lib.hid hlg.sure
                            have ks9 := hlg.su
                            rw [hS9] at KS9 ks9
                            have z2 : ∀ d os, (Sort.grow (redrawn wc26 d) os).cell? ⟨xr, 2, none⟩ = some (.slice A9 C9 c9) := fun d os => LG.out.row _ (below_regrown wc26 d os)
                            have z3 : ∀ d os, (Sort.grow (redrawn wc26 d) os).cell? ⟨xr, 3, none⟩ = some (.int .i64 (S9 : Nat)) := fun d os => ks9 _ (below_regrown wc26 d os)
                            clear hlg hS9 ks9 hC9
                            refine wp_region_quiet_below (by kernel_rfl) (by kernel_rfl) ?_
                            repeat (go_big_quiet_step (first | (go_at_call 17; exact Calls.regrown_of (AK.out.alike _ (below_regrown wc26 _ _))) | (go_at_call 18; exact Calls.regrown_of (LG.out.len _ (below_regrown wc26 _ _))) | (go_at_call 19; exact Calls.regrown_of (LG.out.rlen _ (below_regrown wc26 _ _))) | (go_at_call 20; exact Calls.regrown_of (LG.out.count _ (below_regrown wc26 _ _))) | (go_at_call 21; exact Calls.regrown_of (KS9.out _ (below_regrown wc26 _ _)))))
                            refine wpQuiet_nil ?_
                            intro w9 hw9
                            obtain ⟨⟨dq, osq⟩, hw8⟩ := hw9
                            have HD9 := Lib.hid ((HDUc26.out.drop).below (firmP HD.out _ _ _) (firmR _ _ _) (by rw [hw8]; exact below_regrown wc26 dq osq : Below wc26.heap.size wc26 w9))
                            clear hw8 AK HDUc26 LG KS9 z2 z3
                            go_wp2_with fail
                            go_roundw
                            case rel => exact ⟨i + 1, τ, by omega, by go_num, hrt, Or.inr ⟨x, xr, l2, rfl, rfl, HD9, HBL⟩⟩
                            case measure => simp [intOf]; omega
          by_cases w11 : what = 11
          · subst w11
            have HDA := Lib.hid (fun o => HDU.out.alloc (firmP HD.out _ _ _) (firmR _ _ _) o)
            clear HDU
            obtain ⟨τ, l2, er, hτ⟩ : ∃ τ l2 er, lsync σ rA l = (τ, l2, er) := ⟨_, _, _, rfl⟩
            have hrt : τ.room = rm := by have h := room_lsync σ rA l; rw [hτ] at h; exact h.trans hrs
            have hl2 : l2.recs = l.recs := by have h := recs_sync σ l; rw [hτ] at h; exact h
            have HBL : Hid ((frs l2.recs).length ≤ bnd (i + 1)) := by show _ ≤ _; rw [hl2]; exact bnd_next HBD.out
            clear hl2
            have HTAU := Lib.hid hτ
            clear hτ
            go_wp2_with fail
            have KT := duo_put (r := (τ, l2, er)) (firmR _ _ _) (HDA.out (Obj.cells #[Value.int IntKind.i64 11, Value.string name, Value.string text, Value.int IntKind.i64 n, Value.int IntKind.u8 by_, Value.slice K kl kc, Value.slice L ll lc] 43)) (f := 12) (args := #[ptr x]) (fun O Q h1 h2 h3 _ => by rw [← HTAU.out]; exact lg_sync HD.out h1 h2 h3)
            refine KT.mono ?_
            rintro e w5 ⟨rfl, hdu5, _⟩
            have HDU5 := Lib.hid hdu5
            clear hdu5 KT HDA e0 e1 e2 e3 e4 e5 e6
            go_wp2_with fail
            have KT := duo_put (r := (τ, l2, er)) (firmP HD.out _ _ _) HDU5.out.swap (f := 13) (args := #[ptr xr]) (fun O Q h1 h2 h3 _ => by rw [← HTAU.out]; exact rlog_sync h1 h2 h3)
            refine KT.mono ?_
            rintro e w6 ⟨rfl, hdu6, _⟩
            have HDU6 := Lib.hid hdu6.swap
            clear hdu6 KT HDU5 HTAU
            dsimp only at HDU6
            go_wp2_with fail
            have AK := Lib.hid (asks_of HD.out HDU6.out)
            obtain ⟨N9, C9, A9, c9, hC9, hlg⟩ := logged_of HDU6.out
            have LG := Lib.hid hlg
            obtain ⟨S9, hS9⟩ : ∃ S9, (l2).sure = S9 := ⟨_, rfl⟩
            have KS9 := Lib.hid hlg.sure
            have ks9 := hlg.su
            rw [hS9] at KS9 ks9
            have z2 : ∀ d os, (Sort.grow (redrawn w6 d) os).cell? ⟨xr, 2, none⟩ = some (.slice A9 C9 c9) := fun d os => LG.out.row _ (below_regrown w6 d os)
            have z3 : ∀ d os, (Sort.grow (redrawn w6 d) os).cell? ⟨xr, 3, none⟩ = some (.int .i64 (S9 : Nat)) := fun d os => ks9 _ (below_regrown w6 d os)
            clear hlg hS9 ks9 hC9
            refine wp_region_quiet_below (by kernel_rfl) (by kernel_rfl) ?_
            repeat (go_big_quiet_step (first | (go_at_call 17; exact Calls.regrown_of (AK.out.alike _ (below_regrown w6 _ _))) | (go_at_call 18; exact Calls.regrown_of (LG.out.len _ (below_regrown w6 _ _))) | (go_at_call 19; exact Calls.regrown_of (LG.out.rlen _ (below_regrown w6 _ _))) | (go_at_call 20; exact Calls.regrown_of (LG.out.count _ (below_regrown w6 _ _))) | (go_at_call 21; exact Calls.regrown_of (KS9.out _ (below_regrown w6 _ _)))))
            refine wpQuiet_nil ?_
            intro w9 hw9
            obtain ⟨⟨dq, osq⟩, hw8⟩ := hw9
            have HD9 := Lib.hid ((HDU6.out.drop).below (firmP HD.out _ _ _) (firmR _ _ _) (by rw [hw8]; exact below_regrown w6 dq osq : Below w6.heap.size w6 w9))
            clear hw8 AK HDU6 LG KS9 z2 z3
            go_wp2_with fail
            go_roundw
            case rel => exact ⟨i + 1, τ, by omega, by go_num, hrt, Or.inr ⟨x, xr, l2, rfl, rfl, HD9, HBL⟩⟩
            case measure => simp [intOf]; omega
          by_cases w12 : what = 12
          · subst w12
            have HDA := Lib.hid (fun o => HDU.out.alloc (firmP HD.out _ _ _) (firmR _ _ _) o)
            clear HDU HBD
            have HRT : Hid ((lopen σ rA).1.room = rm) := by show _ = _; rw [room_lopen]; exact hrs
            obtain ⟨r, hr⟩ : ∃ r, lopen σ rA = r := ⟨_, rfl⟩
            have HLR : Hid ((frs r.2.2).length ≤ 65535) := by
              obtain ⟨P, P', h1, _⟩ := HDA.out (Obj.cells #[Value.int IntKind.i64 12, Value.string name, Value.string text, Value.int IntKind.i64 n, Value.int IntKind.u8 by_, Value.slice K kl kc, Value.slice L ll lc] 43)
              obtain ⟨O9, hd9, _⟩ := h1.disk
              have h9 := lopen_recs (HD.out.inv hd9) (by omega)
              rw [hr] at h9
              exact h9
            rw [hr] at HRT
            go_wp2_with fail
            have KO := duo_popen HD.out (firmR _ _ _) (HDA.out (Obj.cells #[Value.int IntKind.i64 12, Value.string name, Value.string text, Value.int IntKind.i64 n, Value.int IntKind.u8 by_, Value.slice K kl kc, Value.slice L ll lc] 43)) HR9.out HT
            have KRO : Hid (∀ P' W, Side TheRef TheRLog gr σ (some (xr, l)) P' W → ∃ O, (∀ k, O k → P' k) ∧ Calls Tryz.prog 9 #[ptr gr, .string rA] W (ROpened O W gr r)) := fun P' W h => by
              obtain ⟨O9, hd9, ho9⟩ := h.disk
              refine ⟨O9, ho9, ?_⟩
              rw [← hr]
              exact ropen_at hd9 HR9.out
            rw [hr] at KO
            clear hr
            obtain ⟨τ, er, us⟩ := r
            dsimp only at HRT HLR KO
            refine KO.mono ?_
            rintro e w5 ⟨y, hy, hdu, _⟩
            have HDU5 := Lib.hid hdu
            clear hdu KO HDA e0 e1 e2 e3 e4 e5 e6
            cases y with
            | made x5 A5 c5 =>
              obtain ⟨h0, rfl, hst5, hnil5⟩ := hy
              dsimp only at h0 hst5 HDU5
              subst h0
              have HS5 := Lib.hid hst5
              clear hst5 hnil5
              dsimp only [openLo, openG] at HDU5
              obtain ⟨m5, hm5⟩ : ∃ m5, us.length = m5 := ⟨_, rfl⟩
              dsimp only
              rw [hm5] at HS5 HDU5 ⊢
              go_wp2_with fail
              have KR := duo_ropen (r := (τ, 0, us)) (firmP HD.out _ _ _) HDU5.out.swap (fun P hP => KRO.out P _ hP)
              refine KR.mono ?_
              rintro e w6 ⟨y, hy, hdu, hk⟩
              cases y with
              | none => exact absurd rfl hy.1
              | some xr5 =>
              obtain ⟨_, rfl⟩ := hy
              have HDU6 := Lib.hid hdu.swap
              dsimp only [ropenLo] at HDU6
              rw [hm5] at HDU6
              have HS6 : Hid (Strs w6 A5 m5 us) := rowG_strs HS5.out (fun k hk9 => hk.1 k (Or.inr hk9)) hk.2
              clear hdu hk KR HDU5 HS5 KRO
              have hm9 : m5 ≤ 1000000 := by have h9 := count_le us; have h8 := HLR.out; omega
              obtain ⟨N8, C8, A8, c8, hC8, hlg8⟩ := logged_of HDU6.out
              obtain rfl : m5 = C8 := hm5.symm.trans hC8
              have r8 := hlg8.row _ (Below.refl _ _)
              have HS8 := Lib.hid hlg8.strs
              clear hlg8 hC8
              go_wp2_with (go_at_call 14; refine (same_true A5 A8 m5 c5 c8 us hm9 _ HS6 HS8).mono ?_; rintro e w7 ⟨rfl, hd7⟩; have HDU7 := Lib.hid (HDU6.out.below (firmP HD.out _ _ _) (firmR _ _ _) (of_drewN hd7)))
              clear HDU6 HS6 HS8 r8
              have AK := Lib.hid (asks_of HD.out HDU7.out)
              obtain ⟨N9, C9, A9, c9, hC9, hlg⟩ := logged_of HDU7.out
              have LG := Lib.hid hlg
              obtain ⟨S9, hS9⟩ : ∃ S9, ((⟨us, m5, false⟩ : Lg)).sure = S9 := ⟨_, rfl⟩
              have KS9 := Lib.hid hlg.sure
              have ks9 := hlg.su
              rw [hS9] at KS9 ks9
              have z2 : ∀ d os, (Sort.grow (redrawn w7 d) os).cell? ⟨xr5, 2, none⟩ = some (.slice A9 C9 c9) := fun d os => LG.out.row _ (below_regrown w7 d os)
              have z3 : ∀ d os, (Sort.grow (redrawn w7 d) os).cell? ⟨xr5, 3, none⟩ = some (.int .i64 (S9 : Nat)) := fun d os => ks9 _ (below_regrown w7 d os)
              clear hlg hS9 ks9 hC9
              refine wp_region_quiet_below (by kernel_rfl) (by kernel_rfl) ?_
              repeat (go_big_quiet_step (first | (go_at_call 17; exact Calls.regrown_of (AK.out.alike _ (below_regrown w7 _ _))) | (go_at_call 18; exact Calls.regrown_of (LG.out.len _ (below_regrown w7 _ _))) | (go_at_call 19; exact Calls.regrown_of (LG.out.rlen _ (below_regrown w7 _ _))) | (go_at_call 20; exact Calls.regrown_of (LG.out.count _ (below_regrown w7 _ _))) | (go_at_call 21; exact Calls.regrown_of (KS9.out _ (below_regrown w7 _ _)))))
              refine wpQuiet_nil ?_
              intro w9 hw9
              obtain ⟨⟨dq, osq⟩, hw8⟩ := hw9
              have HD9 := Lib.hid ((HDU7.out.drop).below (firmP HD.out _ _ _) (firmR _ _ _) (by rw [hw8]; exact below_regrown w7 dq osq : Below w7.heap.size w7 w9))
              clear hw8 AK HDU7 LG KS9 z2 z3
              go_wp2_with fail
              go_roundw
              case rel => exact ⟨i + 1, τ, by omega, by go_num, HRT.out, Or.inr ⟨x5, xr5, (⟨us, m5, false⟩ : Lg), rfl, rfl, HD9, bnd_new _ HLR.out⟩⟩
              case measure => simp [intOf]; omega
            | not A5 c5 =>
              obtain ⟨h0, rfl⟩ := hy
              dsimp only at h0 HDU5
              dsimp only [openLo, openG] at HDU5
              have q : ((er : Int) == 0) = false := by rw [beq_eq_false_iff_ne]; omega
              go_wp2_with fail
              have KR := duo_ropen (r := (τ, er, us)) (firmP HD.out _ _ _) HDU5.out.swap (fun P hP => KRO.out P _ hP)
              refine KR.mono ?_
              rintro e w6 ⟨y, hy, hdu, hk⟩
              cases y with
              | some xr5 => exact absurd hy.1 h0
              | none =>
              obtain ⟨_, rfl⟩ := hy
              have HDU6 := Lib.hid hdu.swap
              dsimp only [ropenLo] at HDU6
              clear hdu hk KR HDU5 KRO
              go_wp2_with fail
              have AK := Lib.hid (asks_of HD.out HDU6.out)
              refine wp_region_quiet_below (by kernel_rfl) (by kernel_rfl) ?_
              repeat (go_big_quiet_step (first | (go_at_call 17; exact Calls.regrown_of (AK.out.alike _ (below_regrown w6 _ _)))))
              refine wpQuiet_nil ?_
              intro w9 hw9
              obtain ⟨⟨dq, osq⟩, hw8⟩ := hw9
              have HD9 := Lib.hid ((HDU6.out.drop).below (firmP HD.out _ _ _) (firmR _ _ _) (by rw [hw8]; exact below_regrown w6 dq osq : Below w6.heap.size w6 w9))
              clear hw8 AK HDU6
              go_wp2_with fail
              go_roundw
              case rel => exact ⟨i + 1, τ, by omega, by go_num, HRT.out, Or.inl ⟨rfl, rfl, HD9⟩⟩
              case measure => simp [intOf]; omega
          have HDA := Lib.hid (fun o => HDU.out.alloc (firmP HD.out _ _ _) (firmR _ _ _) o)
          have q10 : (what == 10) = false := by rw [beq_eq_false_iff_ne]; exact w10
          have q11 : (what == 11) = false := by rw [beq_eq_false_iff_ne]; exact w11
          have q12 : (what == 12) = false := by rw [beq_eq_false_iff_ne]; exact w12
          clear w10 w11 w12
          go_wp2_with fail
          refine (duo_quiet (L := TheLog) TheLog.stays TheLog.own (firmR _ _ _) (HDA.out _) (fun O hO => disked_did HD.out ⟨⟨what, name, text, n, by_, K, kl, kc, ks⟩, L, ll, lc, ts⟩ hO (hok8.out _ (HDA.out _).bel))).mono ?_
          rintro e w5 ⟨rfl, hdu5, hk5⟩
          have HDU5 := Lib.hid hdu5
          have KEPT := Lib.hid hk5
          clear hdu5 hk5 HDU HDA e0 e1 e2 e3 e4 e5 e6
          dsimp only at HDU5
          obtain ⟨τ, hτ⟩ : ∃ τ, onA σ ⟨what, name, text, n, by_, K, kl, kc, ks⟩ = τ := ⟨_, rfl⟩
          have hrt : τ.room = rm := by rw [← hτ, room_onA]; exact hrs
          have HTAU := Lib.hid hτ
          rw [hτ] at HDU5
          clear hτ
          have hnb := (KEPT.out _ rfl).trans (heap_alloc_new wr (Obj.cells #[Value.int IntKind.i64 what, Value.string name, Value.string text, Value.int IntKind.i64 n, Value.int IntKind.u8 by_, Value.slice K kl kc, Value.slice L ll lc] 43))
          have p0 := (cell_hp hnb 0)
          have p1 := (cell_hp hnb 1)
          have p2 := (cell_hp hnb 2)
          have p3 := (cell_hp hnb 3)
          have p4 := (cell_hp hnb 4)
          have p5 := (cell_hp hnb 5)
          have p6 := (cell_hp hnb 6)
          simp only [List.getElem?_toArray, List.getElem?_cons_zero, List.getElem?_cons_succ] at p0 p1 p2 p3 p4 p5 p6
          clear hnb
          go_wp2_with fail
          have KT := duo_quiet (L := TheRLog) (τ := τ) TheRLog.stays TheRLog.own (firmP HD.out _ _ _) HDU5.out.swap (f := 16) (args := #[ptr gr, SV8.val ⟨⟨what, name, text, n, by_, K, kl, kc, ks⟩, L, ll, lc, ts⟩]) (fun O hO => by rw [← HTAU.out]; exact told_at ⟨⟨what, name, text, n, by_, K, kl, kc, ks⟩, L, ll, lc, ts⟩ hO (hok8.out _ HDU5.out.bel))
          refine KT.mono ?_
          rintro e w6 ⟨rfl, hdu6, _⟩
          have HDU6 := Lib.hid hdu6.swap
          clear hdu6 KT HDU5 KEPT p0 p1 p2 p3 p4 p5 p6 HTAU
          go_wp2_with fail
          have AK := Lib.hid (asks_of HD.out HDU6.out)
          obtain ⟨N9, C9, A9, c9, hC9, hlg⟩ := logged_of HDU6.out
          have LG := Lib.hid hlg
          obtain ⟨S9, hS9⟩ : ∃ S9, (l).sure = S9 := ⟨_, rfl⟩
          have KS9 := Lib.hid hlg.sure
          have ks9 := hlg.su
          rw [hS9] at KS9 ks9
          have z2 : ∀ d os, (Sort.grow (redrawn w6 d) os).cell? ⟨xr, 2, none⟩ = some (.slice A9 C9 c9) := fun d os => LG.out.row _ (below_regrown w6 d os)
          have z3 : ∀ d os, (Sort.grow (redrawn w6 d) os).cell? ⟨xr, 3, none⟩ = some (.int .i64 (S9 : Nat)) := fun d os => ks9 _ (below_regrown w6 d os)
          clear hlg hS9 ks9 hC9
          refine wp_region_quiet_below (by kernel_rfl) (by kernel_rfl) ?_
          repeat (go_big_quiet_step (first | (go_at_call 17; exact Calls.regrown_of (AK.out.alike _ (below_regrown w6 _ _))) | (go_at_call 18; exact Calls.regrown_of (LG.out.len _ (below_regrown w6 _ _))) | (go_at_call 19; exact Calls.regrown_of (LG.out.rlen _ (below_regrown w6 _ _))) | (go_at_call 20; exact Calls.regrown_of (LG.out.count _ (below_regrown w6 _ _))) | (go_at_call 21; exact Calls.regrown_of (KS9.out _ (below_regrown w6 _ _)))))
          refine wpQuiet_nil ?_
          intro w9 hw9
          obtain ⟨⟨dq, osq⟩, hw8⟩ := hw9
          have HD9 := Lib.hid ((HDU6.out.drop).below (firmP HD.out _ _ _) (firmR _ _ _) (by rw [hw8]; exact below_regrown w6 dq osq : Below w6.heap.size w6 w9))
          clear hw8 AK HDU6 LG KS9 z2 z3
          go_wp2_with fail
          go_roundw
          case rel => exact ⟨i + 1, τ, by omega, by go_num, hrt, Or.inr ⟨x, xr, l, rfl, rfl, HD9, bnd_next HBD.out⟩⟩
          case measure => simp [intOf]; omega
      · have HB9 : Hid (Below w.heap.size w wr) := by
          rcases hst with ⟨_, _, HDU⟩ | ⟨_, _, _, _, _, HDU, _⟩
          · exact HDU.out.bel
          · exact HDU.out.bel
        clear hst
        go_wp2_with (go_at_call 5; refine (HW.out _ HB9.out).mono ?_; rintro e w' ⟨rfl, hb'⟩)
        go_ret
        exact ⟨rfl, HB9.out.trans (hb'.mono HB9.out.size)⟩

end Go.Proofs.YtikbokbmaihdbaaGreatDoor.logPlays
