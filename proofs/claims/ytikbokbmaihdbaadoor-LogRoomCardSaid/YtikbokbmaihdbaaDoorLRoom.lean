/-
  LogRoom, the walk, over any disk and any log ('DoorB', 'LDoor').
-/
import Derived.Test.YtikbokbmaihdbaaDoorLWorks
import Derived.Test.YtikbokbmaihdbaaDoorLRow
import Derived.Test.YtikbokbmaihdbaaDoorLSame
import Derived.Test.YtikbokbmaihdbaaDoorFTot
import Derived.Test.YtikbokbmaihdbaaDoorStrArgs
import Derived.Test.YtikbokbmaihdbaaDoorSQTail
import Derived.OpenShut
import Derived.Lib.QuietBelow
namespace Go.Proofs.YtikbokbmaihdbaaDoor.logRoom
open Go.RowKit Go.ChangeShapes Go.WideShapes

def Wants (D : Disks) (L : Logs) : Prop := DoorB D ∧ LDoor D L

/-- The disk that the loop has: one file, of whole frames. -/
structure Has (σ : Dsk) (R : Nat) (ts : List ByteArray) : Prop where
  fuse : σ.fuse = none
  room : σ.room = R
  file : ∃ lo, σ.fs = [(rA, ⟨str (frs ts), lo, false⟩)]
theorem Has.used {σ : Dsk} {R : Nat} {ts : List ByteArray} (h : Has σ R ts) : used σ.fs = (frs ts).length := by
  obtain ⟨lo, e⟩ := h.file
  rw [e]
  simp [Proofs.YtikbokbmaihdbaaDoor.used, str_size]
theorem Has.got {σ : Dsk} {R : Nat} {ts : List ByteArray} (h : Has σ R ts) : ∃ lo, get σ.fs rA = some ⟨str (frs ts), lo, false⟩ := by
  obtain ⟨lo, e⟩ := h.file
  exact ⟨lo, by rw [e]; rfl⟩
theorem Has.new (R : Nat) : lopen ⟨R, none, []⟩ rA = (⟨R, none, [(rA, ⟨⟨#[]⟩, 0, false⟩)]⟩, 0, []) ∧ Has ⟨R, none, [(rA, ⟨⟨#[]⟩, 0, false⟩)]⟩ R [] :=
  ⟨lopen_new List.Pairwise.nil rfl rfl rfl (show 0 < 16 by decide), ⟨rfl, rfl, 0, rfl⟩⟩
theorem Has.fits {σ : Dsk} {R : Nat} {ts : List ByteArray} (h : Has σ R ts) (x : ByteArray) (hx : x.size ≤ 1048576) (hr : (frs ts).length + (8 + x.size) ≤ R) : ∃ τ, lappend σ rA ⟨ts, 0, false⟩ [x] = (τ, ⟨ts ++ [x], 0, false⟩, 0) ∧ Has τ R (ts ++ [x]) := by
  obtain ⟨lo, e⟩ := h.file
  have hl : (frs [x]).length = 8 + x.size := by simp [frs, fr_len]
  refine ⟨_, lappend_fits (f := ⟨str (frs ts), lo, false⟩) h.fuse (by rw [e]; rfl) rfl (by intro r hr; simp at hr; subst hr; exact hx) (by simp) (by rw [h.used, h.room, hl]; exact hr), ⟨rfl, h.room, lo + (frs [x]).length, ?_⟩⟩
  rw [e]
  show [(rA, (⟨str (frs ts) ++ str (frs [x]), lo + (frs [x]).length, false⟩ : Fil))] = _
  rw [str_append, ← frs_append]
theorem Has.full {σ : Dsk} {R : Nat} {ts : List ByteArray} (h : Has σ R ts) (x : ByteArray) (hx : x.size ≤ 1048576) (hr : R < (frs ts).length + (8 + x.size)) : lappend σ rA ⟨ts, 0, false⟩ [x] = (σ, ⟨ts, 0, false⟩, 6) := by
  obtain ⟨lo, hg⟩ := h.got
  have hl : (frs [x]).length = 8 + x.size := by simp [frs, fr_len]
  exact lappend_full h.fuse hg rfl (by intro r hr; simp at hr; subst hr; exact hx) (by simp) (by rw [h.used, h.room, hl]; exact hr)
theorem Has.again {σ : Dsk} {R : Nat} {ts : List ByteArray} (h : Has σ R ts) (hs : ∀ t ∈ ts, t.size ≤ 1048576) : ∃ τ, lopen σ rA = (τ, 0, ts) := by
  obtain ⟨lo, hg⟩ := h.got
  exact ⟨_, lopen_old h.fuse hg (er := 0) (by rw [scan_frs ts hs, str_size])⟩
theorem Has.text {σ : Dsk} {R : Nat} {ts : List ByteArray} (h : Has σ R ts) : textOf σ rA = str (frs ts) := by
  obtain ⟨lo, hg⟩ := h.got
  unfold textOf
  rw [hg]

set_option maxRecDepth 100000 in
set_option maxHeartbeats 4000000 in
theorem walk {D : Disks} {L : Logs} (h : Wants D L) (room : Int) (A : Option Addr) (len cap : Nat) (ss : List ByteArray) (w : World) (hroom : (Lit.int .u16 room).wf = true) (hv : StrsView w A len cap ss) (hT : Tab w) :
    Calls Tryd.prog 7 #[.int .u16 room, .slice A len cap] w fun e w' => e = .returned (.bool true) ∧ Below w.heap.size w w' := by
  have HD := Lib.hid h.1
  have HL := Lib.hid h.2
  have HW : Hid (∀ w : World, Tab w → Calls Tryd.prog 8 #[] w fun e w' => e = .returned (.bool true) ∧ Below w.heap.size w w') := fun w hT => lworks_any h.1 h.2 w hT
  have HT := Lib.hid hT
  have HV := Lib.hid hv
  have HLN := Lib.hid hv.row.len
  have hfew := hv.few
  obtain ⟨rm, rfl⟩ : ∃ rm : Nat, room = rm := by
    simp only [Lit.wf, Bool.and_eq_true, decide_eq_true_eq] at hroom
    have : 0 ≤ room := hroom.1
    exact ⟨room.toNat, by omega⟩
  clear h hT hv hroom
  go_enter Tryd.func7, Tryd.ntmps7
  go_wp2_with fail
  go_loopw [5, 6] (fun nv iv wr => ∃ i n : Nat, i ≤ len ∧ i ≤ 100 ∧ nv = .int .i64 n ∧ iv = .int .i64 i ∧ Hid (n = tot 1 (ss.take i)) ∧ n ≤ i * 140737488351233 ∧ w = wr) (fun _ iv _ => len - (intOf iv).toNat)
  case atStart => exact ⟨0, 0, Nat.zero_le _, by omega, rfl, rfl, by show _ = _; simp [tot], by omega, rfl⟩
  case round =>
    obtain ⟨i, n, hi, hi2, rfl, rfl, HN, hn, rfl⟩ := hrel
    by_cases hgo : i < len ∧ i < 100
    · have c1 := hgo.1
      have c2 := hgo.2
      clear hgo
      have hil : i < ss.length := by rw [HLN.out]; exact c1
      obtain ⟨b, off, rfl, hbl, hc⟩ := HV.out.row.cell i hil
      have hxs := HV.out.short ss[i] (List.getElem_mem _)
      obtain ⟨x, hx⟩ : ∃ x, ss[i] = x := ⟨_, rfl⟩
      rw [hx] at hc hxs
      have HE : Hid (n + (1 + x.size) = tot 1 (ss.take (i + 1))) := by show _ = _; rw [tot_snoc 1 ss i hil, hx, HN.out]
      clear hx
      go_wp2_with fail
      go_roundw
      case rel => exact ⟨i + 1, n + (1 + x.size), by omega, by omega, by go_num, by go_num, HE, by omega, trivial⟩
      case measure => simp [intOf]; omega
    by_cases hbig : 60 < len
    · by_cases c1 : i < len
      · have c2 : 100 ≤ i := by omega
        clear hgo
        go_wp2_with (go_at_call 8; refine (HW.out _ HT.out).mono ?_; rintro e w' ⟨rfl, hb⟩)
        go_ret
        exact ⟨rfl, hb⟩
      · clear hgo
        go_wp2_with (go_at_call 8; refine (HW.out _ HT.out).mono ?_; rintro e w' ⟨rfl, hb⟩)
        go_ret
        exact ⟨rfl, hb⟩
    have c1 : ¬ i < len := by omega
    have hie : ss.take i = ss := List.take_of_length_le (by rw [HLN.out]; omega)
    rw [hie] at HN
    clear hgo hie
    by_cases hsum : 4096 < n
    · go_wp2_with (go_at_call 8; refine (HW.out _ HT.out).mono ?_; rintro e w' ⟨rfl, hb⟩)
      go_ret
      exact ⟨rfl, hb⟩
    have hsm : Hid (∀ x ∈ ss, x.size ≤ 4096) := fun x hx => by
      have := tot_mem (c := 1) hx
      rw [← HN.out] at this
      omega
    have hl60 : len ≤ 60 := by omega
    have HN0 := Lib.hid hn
    clear HN hn
    obtain ⟨R, hR⟩ : ∃ R, rm % 500 = R := ⟨_, rfl⟩
    have hR5 : R < 500 := by rw [← hR]; exact Nat.mod_lt _ (by decide)
    have hRe : Value.int .i64 ((rm : Int) % 500) = .int .i64 (R : Nat) := by rw [← hR]; congr 1
    have HRE := Lib.hid hRe
    clear hR hRe
    go_wp2_with fail
    rw [HRE.out]
    refine (new_at HD.out (Below.refl _ _) R (by omega)).mono ?_
    rintro e w1 ⟨g, rfl, hm, _⟩
    have M1 := Lib.hid hm.lone
    clear hm HRE
    go_wp2_with fail
    have K := lopen_at HL.out rA M1.out (by show R ≤ 1048576; omega) (by decide) HT
    rw [(Has.new R).1] at K
    refine K.mono ?_
    rintro e w2 ⟨⟨_, x, A0, c0, rfl, hb, _⟩ | ⟨h0, _⟩, _⟩
    case inr => exact absurd rfl h0
    have hb' : Both D L w w2 g ⟨R, none, [(rA, ⟨⟨#[]⟩, 0, false⟩)]⟩ x rA ⟨[], 0, false⟩ noF := hb
    have B2 := Lib.hid (Both.frame (F' := rowF (.slice none 0 0)) HD.out HL.out hb' (Or.inl (Below.refl _ _)) (fun k hk => by cases hk))
    have HS2 := Lib.hid (Has.new R).2
    obtain ⟨σ2, hσ2⟩ : ∃ s : Dsk, (⟨R, none, [(rA, ⟨⟨#[]⟩, 0, false⟩)]⟩ : Dsk) = s := ⟨_, rfl⟩
    rw [hσ2] at B2 HS2
    clear hb hb' M1 K hσ2
    go_wp2_with fail
    go_loopw [12, 13] (fun pv iv wr => ∃ (i : Nat) (P : List ByteArray) (σ : Dsk) (PA : Option Addr) (m pc : Nat), i ≤ len ∧ pv = .slice PA m pc ∧ iv = .int .i64 i ∧ Hid (P.length = m) ∧ m ≤ i ∧ Hid (Both D L w wr g σ x rA ⟨P, 0, false⟩ (rowF (.slice PA m pc))) ∧ Hid (wr.ownsRow w.heap.size 9 1 (.slice PA m pc) P.length (txt P)) ∧ Hid (Has σ R P) ∧ Hid (∀ p ∈ P, p.size ≤ 4096)) (fun _ iv _ => len - (intOf iv).toNat)
    case atStart => exact ⟨0, [], σ2, none, 0, 0, Nat.zero_le _, rfl, rfl, rfl, Nat.le_refl _, B2, World.ownsRow_nil _ _ _ _, HS2, by intro p hp; cases hp⟩
    case round =>
      clear B2 HS2
      obtain ⟨i, P, σ, PA, m, pc, hi, rfl, rfl, HM, hmi, HB, HO, HH, HSUB⟩ := hrel
      by_cases hlt : i < len
      · have hil : i < ss.length := by rw [HLN.out]; exact hlt
        obtain ⟨b, off, rfl, hbl, hc⟩ := HV.out.row.cell i hil
        have hxs := hsm.out ss[i] (List.getElem_mem _)
        obtain ⟨y, hy⟩ : ∃ y, ss[i] = y := ⟨_, rfl⟩
        rw [hy] at hc hxs
        clear hy
        have hus := HH.out.used
        have hinv := HB.out.lone.mine.inv HD.out
        have hle : (frs P).length ≤ R := by have h1 := hinv.room; have h2 := HH.out.room; omega
        obtain ⟨Z, hZ⟩ : ∃ Z, R - (frs P).length = Z := ⟨_, rfl⟩
        have KR : Hid (∀ W, Below wr.heap.size wr W → Calls Tryd.prog 24 #[ptr g] W fun e w' => e = .returned (.int .i64 (Z : Nat)) ∧ Below W.heap.size W w') := fun W hW => by
          have k := room_at HD.out (HB.out.below HD.out HL.out hW).lone.mine
          rw [HH.out.used, HH.out.room, hZ] at k
          exact k
        have HCC : Hid (∀ W, Below wr.heap.size wr W → W.cell? ⟨b, off + i, none⟩ = some (.string y)) := fun W hW => ((HB.out.bel.trans (hW.mono HB.out.bel.size)).cell (p := ⟨b, off + i, none⟩) hbl).trans hc
        have hcg : ∀ d os, (Sort.grow (redrawn wr d) os).cell? ⟨b, off + i, none⟩ = some (.string y) := fun d os => HCC.out _ (below_regrown wr d os)
        have HCW : Hid (∀ W, Below w.heap.size w W → W.cell? ⟨b, off + i, none⟩ = some (.string y)) := fun W hW => (hW.cell (p := ⟨b, off + i, none⟩) hbl).trans hc
        clear hc hus hinv
        go_wp2_with fail
        refine wp_region_below_tail 9 (by kernel_rfl) (by kernel_rfl) ?_
        simp only [List.take_succ_cons, List.take_zero, List.drop_succ_cons, List.drop_zero]
        repeat (go_big_quiet_step ((go_at_call 24; exact Calls.regrown_of (KR.out _ (below_regrown wr _ _)))))
        refine wpQuiet_nil ?_
        rintro _ ⟨p, rfl⟩
        have B3 := Lib.hid (HB.out.below HD.out HL.out (below_regrown wr p.d p.os))
        have HO3 := Lib.hid (owns_below HO.out (below_regrown wr p.d p.os))
        clear HB HO hcg HCC KR
        generalize Sort.grow (redrawn wr p.d) p.os = w3 at *
        clear wr
        have hc3 := HCW.out _ B3.out.bel
        have hb3a := (Below.refl w3.heap.size w3).alloc (Nat.le_refl _) (.cells #[.string y] 9)
        have hr3 : σ.room ≤ 1048576 := by have := HH.out.room; omega
        have KA := Lib.hid (lappend_at HD.out HL.out B3.out hr3 HT hb3a (some ⟨w3.heap.size, 0, none⟩) 1 [y] (one_row w3 y 9) (Nat.le_refl _) (by unfold maxLen; simp) (fun ad had => by cases had; exact Or.inr (Nat.le_refl _)) (by simp [frs, fr_len]; omega) (show (frs P).length ≤ _ by omega))
        have HO3a := Lib.hid (owns_below HO3.out hb3a)
        clear hb3a hr3
        simp only [List.length_cons, List.length_nil, Nat.zero_add] at KA
        by_cases hf : 8 + y.size ≤ Z
        · have d1 : decide ((8 : Int) + (y.size : Int) ≤ (Z : Int)) = true := by simp; omega
          obtain ⟨τ, hτ, hH⟩ := HH.out.fits y (by omega) (by omega)
          rw [hτ] at KA
          have HH4 := Lib.hid hH
          clear hτ hH hZ
          go_wp2_with fail
          refine KA.out.mono ?_
          rintro e w4 ⟨rfl, hB4, hk4⟩
          have B4 := Lib.hid hB4
          have HO4 := Lib.hid (row_keep HO3a.out hk4)
          clear hB4 hk4 KA B3 HO3 HO3a hc3
          have hc4 := HCW.out _ B4.out.bel
          go_wp2_with (at_builtin; refine wpList_put_text HD.out HL.out (by rfl) (.tmp 103) (.tmp 108) (by rfl) y (.slice PA m pc) P (by rfl) B4 HO4 (by have := HM.out; omega) (by rfl) rfl ?_; intro v5 w5 HO5 B5)
          have hM5 : (P ++ [y]).length = m + 1 := by have := HM.out; simp; omega
          obtain ⟨PA5, pc5, hv5, _⟩ := row_strs HO5.out rfl
          rw [hM5] at hv5
          subst hv5
          have HM5 := Lib.hid hM5
          have HSUB5 : Hid (∀ p ∈ P ++ [y], p.size ≤ 4096) := fun p hp => by
            rcases List.mem_append.1 hp with h1 | h1
            · exact HSUB.out p h1
            · simp at h1; rw [h1]; exact hxs
          have B6 := B5
          have HO6 := HO5
          clear B5 HO5 B4 HO4 hc4 hM5 HH HSUB HM
          have K := read_at HD.out B6.out.lone.mine rA (by decide)
          rw [HH4.out.text] at K
          have hsz : (str (frs (P ++ [y]))).size = (frs (P ++ [y])).length := str_size _
          obtain ⟨TX, hTX⟩ : ∃ TX, str (frs (P ++ [y])) = TX := ⟨_, rfl⟩
          rw [hTX] at K hsz
          have HSZ := Lib.hid hsz
          clear hsz hTX
          refine K.mono ?_
          rintro e w7 ⟨rfl, hb7⟩
          have B7 := Lib.hid (B6.out.below HD.out HL.out hb7)
          have HO7 := Lib.hid (owns_below HO6.out hb7)
          clear hb7 B6 HO6 K
          go_wp2_with fail
          have K := lcount_at HL.out B7.out
          refine K.mono ?_
          rintro e w8 ⟨rfl, hb8⟩
          have B8 := Lib.hid (B7.out.below HD.out HL.out hb8)
          have HO8 := Lib.hid (owns_below HO7.out hb8)
          clear hb8 B7 HO7 K
          have hm : ((P ++ [y])).length = (m + 1) := HM5.out
          rw [hm]
          go_wp2_with fail
          have K := llen_at HL.out B8.out
          have hll : llen ⟨(P ++ [y]), 0, false⟩ = TX.size := HSZ.out.symm
          rw [hll] at K
          refine K.mono ?_
          rintro e w9 ⟨rfl, hb9⟩
          have B9 := Lib.hid (B8.out.below HD.out HL.out hb9)
          have HO9 := Lib.hid (owns_below HO8.out hb9)
          clear hb9 B8 HO8 K hll hm
          go_wp2_with fail
          go_roundw
          case rel => exact ⟨i + 1, (P ++ [y]), τ, PA5, (m + 1), pc5, by omega, rfl, by go_num, HM5, by omega, B9, HO9, HH4, HSUB5⟩
          case measure => simp [intOf]; omega
        · have d1 : decide ((8 : Int) + (y.size : Int) ≤ (Z : Int)) = false := by simp; omega
          have hτ := HH.out.full y (by omega) (by omega)
          rw [hτ] at KA
          clear hτ hZ
          go_wp2_with fail
          refine KA.out.mono ?_
          rintro e w4 ⟨rfl, hB4, hk4⟩
          have B6 := Lib.hid hB4
          have HO6 := Lib.hid (row_keep HO3a.out hk4)
          clear hB4 hk4 KA B3 HO3 HO3a hc3
          go_wp2_with fail
          have K := read_at HD.out B6.out.lone.mine rA (by decide)
          rw [HH.out.text] at K
          have hsz : (str (frs P)).size = (frs P).length := str_size _
          obtain ⟨TX, hTX⟩ : ∃ TX, str (frs P) = TX := ⟨_, rfl⟩
          rw [hTX] at K hsz
          have HSZ := Lib.hid hsz
          clear hsz hTX
          refine K.mono ?_
          rintro e w7 ⟨rfl, hb7⟩
          have B7 := Lib.hid (B6.out.below HD.out HL.out hb7)
          have HO7 := Lib.hid (owns_below HO6.out hb7)
          clear hb7 B6 HO6 K
          go_wp2_with fail
          have K := lcount_at HL.out B7.out
          refine K.mono ?_
          rintro e w8 ⟨rfl, hb8⟩
          have B8 := Lib.hid (B7.out.below HD.out HL.out hb8)
          have HO8 := Lib.hid (owns_below HO7.out hb8)
          clear hb8 B7 HO7 K
          have hm : (P).length = m := HM.out
          rw [hm]
          go_wp2_with fail
          have K := llen_at HL.out B8.out
          have hll : llen ⟨P, 0, false⟩ = TX.size := HSZ.out.symm
          rw [hll] at K
          refine K.mono ?_
          rintro e w9 ⟨rfl, hb9⟩
          have B9 := Lib.hid (B8.out.below HD.out HL.out hb9)
          have HO9 := Lib.hid (owns_below HO8.out hb9)
          clear hb9 B8 HO8 K hll hm
          go_wp2_with fail
          go_roundw
          case rel => exact ⟨i + 1, P, σ, PA, m, pc, by omega, rfl, by go_num, HM, by omega, B9, HO9, HH, HSUB⟩
          case measure => simp [intOf]; omega
      · have hsub : ∀ p ∈ P, p.size ≤ 1048576 := fun p hp => by have := HSUB.out p hp; omega
        obtain ⟨τ, hτ⟩ := HH.out.again hsub
        have K := lopen_at HL.out rA HB.out.lone (by have := HH.out.room; omega) (by decide) HT
        rw [hτ] at K
        obtain ⟨PB, pcb, hpv, hst, _, _⟩ := row_strs HO.out rfl
        injection hpv with h1 h2 h3
        subst h1 h3
        go_wp2_with fail
        refine K.mono ?_
        rintro e w3 ⟨⟨_, x2, A3, c3, rfl, hb, hs3, _⟩ | ⟨h0, _⟩, hk3⟩
        case inr => exact absurd rfl h0
        have B3 := Lib.hid hb
        have hO3 := row_keep HO.out hk3
        obtain ⟨PB3, pcb3, hpv3, hst3, _, _⟩ := row_strs hO3 rfl
        injection hpv3 with g1 g2 g3
        subst g1 g3
        have HS3 : Hid (Strs w3 A3 m P) := by have := hs3; rw [HM.out] at this; exact this
        have HP3 : Hid (Strs w3 PA m P) := by have := hst3; rw [HM.out] at this; exact this
        have hm := HM.out
        clear hb hk3 K hs3 hO3 hst hst3 hτ hsub HO HB g2 h2
        dsimp only
        rw [hm]
        go_wp2_with fail
        refine (same_true A3 PA m c3 pc P (by omega) _ HS3 HP3).mono ?_
        rintro e w4 ⟨rfl, hd4⟩
        have HB4 := Lib.hid (B3.out.bel.trans ((of_drewN (B := w3.heap.size) hd4).mono B3.out.bel.size))
        clear hd4
        go_wp2_with fail
        refine (HW.out _ (HT.out.below HB4.out)).mono ?_
        rintro e w5 ⟨rfl, hb5⟩
        have HB5 := Lib.hid (HB4.out.trans (hb5.mono HB4.out.size))
        clear hb5
        go_wp2_with fail
        go_ret
        exact ⟨rfl, HB5.out⟩

end Go.Proofs.YtikbokbmaihdbaaDoor.logRoom
