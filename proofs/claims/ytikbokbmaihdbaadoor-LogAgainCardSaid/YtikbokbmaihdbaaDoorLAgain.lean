/-
  LogAgain, the walk, over any disk and any log ('DoorB', 'LDoor').
-/
import Derived.Test.YtikbokbmaihdbaaDoorLWorks
import Derived.Test.YtikbokbmaihdbaaDoorLRow
import Derived.Test.YtikbokbmaihdbaaDoorLSame
import Derived.Test.YtikbokbmaihdbaaDoorFTot
import Derived.Test.YtikbokbmaihdbaaDoorStrArgs
import Derived.OpenShut
namespace Go.Proofs.YtikbokbmaihdbaaDoor.logAgain
open Go.RowKit Go.ChangeShapes Go.WideShapes

def Wants (D : Disks) (L : Logs) : Prop := DoorB D ∧ LDoor D L

/-- The disk that the loop has: the log's file, and another one. -/
structure Has (σ : Dsk) (ts : List ByteArray) (ot : ByteArray) : Prop where
  fuse : σ.fuse = none
  room : σ.room = 65536
  file : ∃ lo, σ.fs = [(rA, ⟨str (frs ts), lo, false⟩), (rB, ⟨ot, ot.size, true⟩)]
theorem has_new (ot : ByteArray) (ho : ot.size ≤ 4096) : create ⟨65536, none, []⟩ rB = (⟨65536, none, [(rB, ⟨⟨#[]⟩, 0, true⟩)]⟩, 0) ∧ append ⟨65536, none, [(rB, ⟨⟨#[]⟩, 0, true⟩)]⟩ rB ot = (⟨65536, none, [(rB, ⟨ot, ot.size, true⟩)]⟩, 0) ∧
    lopen ⟨65536, none, [(rB, ⟨ot, ot.size, true⟩)]⟩ rA = (⟨65536, none, [(rA, ⟨⟨#[]⟩, 0, false⟩), (rB, ⟨ot, ot.size, true⟩)]⟩, 0, []) := by
  refine ⟨rfl, ?_, ?_⟩
  · rw [append_fits (f := ⟨⟨#[]⟩, 0, true⟩) rfl rfl (by show 0 + ot.size ≤ 65536; omega)]
    have e : (⟨#[]⟩ : ByteArray) ++ ot = ot := by apply ByteArray.ext; simp
    show ((⟨65536, none, [(rB, ⟨(⟨#[]⟩ : ByteArray) ++ ot, 0 + ot.size, true⟩)]⟩ : Dsk), 0) = _
    rw [e, Nat.zero_add]
  · exact lopen_new (σ := ⟨65536, none, [(rB, ⟨ot, ot.size, true⟩)]⟩) (List.pairwise_singleton _ _) rfl rfl rfl (show 1 < 16 by decide)
theorem Has.put (ss : List ByteArray) (ot : ByteArray) (hs : ∀ r ∈ ss, r.size ≤ 1048576) (hr : (frs ss).length + ot.size ≤ 65536) :
    ∃ τ, lappend ⟨65536, none, [(rA, ⟨⟨#[]⟩, 0, false⟩), (rB, ⟨ot, ot.size, true⟩)]⟩ rA ⟨[], 0, false⟩ ss = (τ, ⟨ss, 0, false⟩, 0) ∧ Has τ ss ot := by
  by_cases h0 : ss = []
  · subst h0
    exact ⟨_, lappend_none rfl, rfl, rfl, 0, rfl⟩
  · refine ⟨_, lappend_fits (f := ⟨⟨#[]⟩, 0, false⟩) rfl rfl rfl hs h0 (by show 0 + (ot.size + 0) + (frs ss).length ≤ 65536; omega), ⟨rfl, rfl, 0 + (frs ss).length, ?_⟩⟩
    have e : (⟨#[]⟩ : ByteArray) ++ str (frs ss) = str (frs ss) := by apply ByteArray.ext; simp
    show [(rA, (⟨(⟨#[]⟩ : ByteArray) ++ str (frs ss), 0 + (frs ss).length, false⟩ : Fil)), (rB, ⟨ot, ot.size, true⟩)] = _
    rw [e]
theorem Has.again {σ : Dsk} {ts : List ByteArray} {ot : ByteArray} (h : Has σ ts ot) (hs : ∀ t ∈ ts, t.size ≤ 1048576) : ∃ τ, lopen σ rA = (τ, 0, ts) ∧ Has τ ts ot ∧ looseOf τ rA = 0 := by
  obtain ⟨lo, e⟩ := h.file
  have hg : get σ.fs rA = some ⟨str (frs ts), lo, false⟩ := by rw [e]; rfl
  refine ⟨_, lopen_old h.fuse hg (er := 0) (by rw [scan_frs ts hs, str_size]), ?_⟩
  by_cases h0 : 0 < lo
  · rw [if_pos h0]
    have e2 : upd σ.fs rA ⟨str (frs ts), 0, false⟩ = [(rA, ⟨str (frs ts), 0, false⟩), (rB, ⟨ot, ot.size, true⟩)] := by rw [e]; rfl
    exact ⟨⟨rfl, h.room, 0, e2⟩, by unfold looseOf; dsimp only; rw [e2]; rfl⟩
  · rw [if_neg h0]
    obtain rfl : lo = 0 := by omega
    exact ⟨h, by unfold looseOf; rw [hg]⟩
theorem Has.other {σ : Dsk} {ts : List ByteArray} {ot : ByteArray} (h : Has σ ts ot) : textOf σ rB = ot ∧ errOf σ rB = 0 ∧ looseOf σ rB = ot.size := by
  obtain ⟨lo, e⟩ := h.file
  have hg : get σ.fs rB = some ⟨ot, ot.size, true⟩ := by rw [e]; rfl
  unfold textOf errOf looseOf
  rw [hg]
  exact ⟨rfl, rfl, rfl⟩

set_option maxRecDepth 100000 in
set_option maxHeartbeats 4000000 in
theorem walk {D : Disks} {L : Logs} (h : Wants D L) (A : Option Addr) (len cap : Nat) (ss : List ByteArray) (ot : ByteArray) (w : World) (hv : StrsView w A len cap ss) (hot : ot.size ≤ 140737488351232) (hT : Tab w) :
    Calls Tryd.prog 6 #[.slice A len cap, .string ot] w fun e w' => e = .returned (.bool true) ∧ Below w.heap.size w w' := by
  have HD := Lib.hid h.1
  have HL := Lib.hid h.2
  have HW : Hid (∀ w : World, Tab w → Calls Tryd.prog 8 #[] w fun e w' => e = .returned (.bool true) ∧ Below w.heap.size w w') := fun w hT => lworks_any h.1 h.2 w hT
  have HT := Lib.hid hT
  have HV := Lib.hid hv
  have HLN := Lib.hid hv.row.len
  have hfew := hv.few
  clear h hT hv
  go_enter Tryd.func6, Tryd.ntmps6
  go_wp2_with fail
  go_loopw [5, 6] (fun nv iv wr => ∃ i n : Nat, i ≤ len ∧ i ≤ 100 ∧ nv = .int .i64 n ∧ iv = .int .i64 i ∧ Hid (n = ot.size + tot 1 (ss.take i)) ∧ n ≤ 140737488351232 + i * 140737488351233 ∧ w = wr) (fun _ iv _ => len - (intOf iv).toNat)
  case atStart => exact ⟨0, ot.size, Nat.zero_le _, by omega, rfl, rfl, by show _ = _; simp [tot], by omega, rfl⟩
  case round =>
    obtain ⟨i, n, hi, hi2, rfl, rfl, HN, hn, rfl⟩ := hrel
    by_cases hgo : i < len ∧ i < 100
    · have c1 := hgo.1
      have c2 := hgo.2
      clear hgo
      have hil : i < ss.length := by rw [HLN.out]; exact c1
      obtain ⟨b, off, rfl, hbl, hc⟩ := HV.out.row.cell i hil
      have hxs := HV.out.short ss[i] (List.getElem_mem _)
      obtain ⟨x, hx⟩ : ∃ x, ss[i] = x := ⟨_, rfl⟩
      rw [hx] at hc hxs
      have HE : Hid (n + (1 + x.size) = ot.size + tot 1 (ss.take (i + 1))) := by show _ = _; rw [tot_snoc 1 ss i hil, hx, HN.out, Nat.add_assoc]
      clear hx
      go_wp2_with fail
      go_roundw
      case rel => exact ⟨i + 1, n + (1 + x.size), by omega, by omega, by go_num, by go_num, HE, by omega, trivial⟩
      case measure => simp [intOf]; omega
    by_cases hbig : 60 < len
    · by_cases c1 : i < len
      · have c2 : 100 ≤ i := by omega
        clear hgo
        go_wp2_with (go_at_call 8; refine (HW.out _ HT.out).mono ?_; rintro e w' ⟨rfl, hb⟩)
        go_ret
        exact ⟨rfl, hb⟩
      · clear hgo
        go_wp2_with (go_at_call 8; refine (HW.out _ HT.out).mono ?_; rintro e w' ⟨rfl, hb⟩)
        go_ret
        exact ⟨rfl, hb⟩
    have c1 : ¬ i < len := by omega
    have hie : ss.take i = ss := List.take_of_length_le (by rw [HLN.out]; omega)
    rw [hie] at HN
    clear hgo hie
    by_cases hsum : 4096 < n
    · go_wp2_with (go_at_call 8; refine (HW.out _ HT.out).mono ?_; rintro e w' ⟨rfl, hb⟩)
      go_ret
      exact ⟨rfl, hb⟩
    have hsm : ∀ x ∈ ss, x.size ≤ 1048576 := fun x hx => by
      have := tot_mem (c := 1) hx
      have := HN.out
      omega
    have hfl : (frs ss).length + ot.size ≤ 65536 := by
      have h1 := frs_tot 1 (by decide) ss
      rw [HLN.out] at h1
      have := HN.out
      omega
    have ho4 : ot.size ≤ 4096 := by have := HN.out; omega
    have HSM := Lib.hid hsm
    have HFL := Lib.hid hfl
    have hl60 : len ≤ 60 := by omega
    have HN0 := Lib.hid hn
    clear HN hn hsm hfl
    go_wp2_with fail
    refine (new_at HD.out (Below.refl _ _) 65536 (by decide)).mono ?_
    rintro e w1 ⟨g, rfl, hm, _⟩
    have M1 := Lib.hid hm.lone
    clear hm
    go_wp2_with fail
    have K := M1.out.turned (f := 20) (args := #[ptr g, .string rB]) (fun O hd _ => HD.out.create rB hd (by decide))
    rw [(has_new ot ho4).1] at K
    refine K.mono ?_
    rintro e w2 ⟨rfl, hm, _⟩
    have M2 := Lib.hid hm
    clear hm M1 K
    go_wp2_with fail
    have K := M2.out.turned (f := 21) (args := #[ptr g, .string rB, .string ot]) (fun O hd _ => HD.out.append rB ot hd (by decide) (by unfold many; omega))
    rw [(has_new ot ho4).2.1] at K
    refine K.mono ?_
    rintro e w3 ⟨rfl, hm, _⟩
    have M3 := Lib.hid hm
    clear hm M2 K
    go_wp2_with fail
    have K := lopen_at HL.out rA M3.out (show 65536 ≤ 1048576 by decide) (by decide) HT
    rw [(has_new ot ho4).2.2] at K
    refine K.mono ?_
    rintro e w4 ⟨⟨_, x, A0, c0, rfl, hb, _⟩ | ⟨h0, _⟩, _⟩
    case inr => exact absurd rfl h0
    have B4 : Hid (Both D L w w4 g _ x rA ⟨[], 0, false⟩ noF) := hb
    have HV4 : Hid (Strs w4 A len ss) := HV.out.row.below B4.out.bel
    have hcz : A = none → cap = 0 := fun h => (HV.out.none h).2
    clear hb M3 K
    go_wp2_with (at_builtin; go_loud (refine wpList_copy_row (by rfl) (.const (.slice none 0 0)) (.tmp 77) (by rfl) (by rfl) A len cap ss (by rfl) HV4 (by omega) hcz ?_; intro v5 w5 HO5 HB5))
    obtain ⟨A5, c5, rfl, hst5, hlc5, hcm5⟩ := row_strs HO5.out HLN.out
    have hA5 : ∀ ad, A5 = some ad → w4.heap.size ≤ ad.block := fun ad had => (HO5.out.lt ad.block (by rw [had]; rfl)).1
    obtain ⟨τ, hτ, hH⟩ := Has.put ss ot HSM.out HFL.out
    have HLe := HLN.out
    have K := lappend_at HD.out HL.out B4.out (show 65536 ≤ 1048576 by decide) HT HB5.out A5 c5 ss (by rw [HLe]; exact hst5) (by rw [HLe]; exact hlc5) hcm5 (fun ad had => Or.inr (hA5 ad had)) (by have := HFL.out; omega) (Nat.zero_le _)
    rw [hτ, HLe] at K
    refine K.mono ?_
    rintro e w6 ⟨rfl, hb, _⟩
    have M6 := Lib.hid hb.lone
    have HH6 := Lib.hid hH
    clear hb B4 HV4 K hst5 HO5 HB5 hA5 hτ hH HLe hcz
    go_wp2_with fail
    go_loopw [12] (fun iv wr => ∃ (i : Nat) (σ : Dsk), i ≤ 3 ∧ iv = .int .i64 i ∧ Hid (Lone D w wr g σ noF) ∧ Hid (Has σ ss ot)) (fun iv _ => 3 - (intOf iv).toNat)
    case atStart => exact ⟨0, τ, by decide, rfl, M6, HH6⟩
    case round =>
      clear M6 HH6
      obtain ⟨j, σ, hj, rfl, HM, HH⟩ := hrel
      by_cases hlt : j < 3
      · obtain ⟨υ, hυ, hH, hlo⟩ := HH.out.again HSM.out
        have K := lopen_at HL.out rA HM.out (by rw [HH.out.room]; decide) (by decide) HT
        rw [hυ] at K
        go_wp2_with fail
        refine K.mono ?_
        rintro e w7 ⟨⟨_, y, A7, c7, rfl, hb, hst, _⟩ | ⟨h0, _⟩, _⟩
        case inr => exact absurd rfl h0
        have B7 : Hid (Both D L w w7 g υ y rA ⟨ss, ss.length, false⟩ noF) := hb
        have HS7 : Hid (Strs w7 A7 len ss) := by have := hst; rw [HLN.out] at this; exact this
        have HV7 : Hid (Strs w7 A len ss) := HV.out.row.below B7.out.bel
        have HH7 := Lib.hid hH
        have HLO := Lib.hid hlo
        have hle := HLN.out
        clear hb hst hυ hH hlo K HM HH
        dsimp only
        rw [hle]
        go_wp2_with fail
        refine (same_true A7 A len c7 cap ss (by omega) _ HS7 HV7).mono ?_
        rintro e w8 ⟨rfl, hd⟩
        have B8 := Lib.hid (B7.out.below HD.out HL.out (of_drewN (B := w7.heap.size) hd))
        clear hd B7 HS7 HV7
        go_wp2_with fail
        have K := lsure_at HL.out B8.out
        dsimp only at K
        rw [hle] at K
        refine K.mono ?_
        rintro e w9 ⟨rfl, hb⟩
        have B9 := Lib.hid (B8.out.below HD.out HL.out hb)
        clear hb B8 K
        go_wp2_with fail
        have K := lcount_at HL.out B9.out
        dsimp only at K
        rw [hle] at K
        refine K.mono ?_
        rintro e w10 ⟨rfl, hb⟩
        have B10 := Lib.hid (B9.out.below HD.out HL.out hb)
        clear hb B9 K
        go_wp2_with fail
        have K := loose_at HD.out B10.out.lone.mine rA (by decide)
        rw [HLO.out] at K
        refine K.mono ?_
        rintro e w11 ⟨rfl, hb⟩
        have M11 := Lib.hid (B10.out.lone.below HD.out hb)
        clear hb B10 K hle
        go_wp2_with fail
        go_roundw
        case rel => exact ⟨j + 1, υ, by omega, by go_num, M11, HH7⟩
        case measure => simp [intOf]; omega
      · go_wp2_with fail
        have K := read_at HD.out HM.out.mine rB (by decide)
        rw [HH.out.other.1, HH.out.other.2.1] at K
        refine K.mono ?_
        rintro e w7 ⟨rfl, hb⟩
        have M7 := Lib.hid (HM.out.below HD.out hb)
        clear hb K HM
        go_wp2_with fail
        have K := loose_at HD.out M7.out.mine rB (by decide)
        rw [HH.out.other.2.2] at K
        refine K.mono ?_
        rintro e w8 ⟨rfl, hb⟩
        have M8 := Lib.hid (M7.out.below HD.out hb)
        clear hb K M7
        go_wp2_with fail
        refine (HW.out _ (HT.out.below M8.out.bel)).mono ?_
        rintro e w9 ⟨rfl, hb⟩
        have B9 := Lib.hid (M8.out.bel.trans (hb.mono M8.out.bel.size))
        clear hb
        go_wp2_with fail
        go_ret
        exact ⟨rfl, B9.out⟩

end Go.Proofs.YtikbokbmaihdbaaDoor.logAgain
