/-
  LogSpoilt, the walk, over any disk and any log ('DoorB', 'LDoor').
-/
import Derived.Test.YtikbokbmaihdbaaDoorLSpPure
import Derived.Test.YtikbokbmaihdbaaDoorLRow
import Derived.Test.YtikbokbmaihdbaaDoorLSame
import Derived.Test.YtikbokbmaihdbaaDoorFTot
import Derived.Test.YtikbokbmaihdbaaDoorStrArgs
import Derived.OpenShut
namespace Go.Proofs.YtikbokbmaihdbaaDoor.logSpoilt
open Go.RowKit Go.ChangeShapes Go.WideShapes

def Wants (D : Disks) (L : Logs) : Prop := DoorB D ∧ LDoor D L

theorem sp_put (ss : List ByteArray) (hs : ∀ r ∈ ss, r.size ≤ 1048576) (hne : ss ≠ []) (hr : (frs ss).length ≤ 65536) :
    lappend ⟨65536, none, [(rA, ⟨⟨#[]⟩, 0, false⟩)]⟩ rA ⟨[], 0, false⟩ ss = (⟨65536, none, [(rA, ⟨str (frs ss), (frs ss).length, false⟩)]⟩, ⟨ss, 0, false⟩, 0) := by
  rw [lappend_fits (f := ⟨⟨#[]⟩, 0, false⟩) rfl rfl rfl hs hne (by show 0 + (frs ss).length ≤ 65536; omega)]
  have e : (⟨#[]⟩ : ByteArray) ++ str (frs ss) = str (frs ss) := by apply ByteArray.ext; simp
  show ((⟨65536, none, [(rA, ⟨(⟨#[]⟩ : ByteArray) ++ str (frs ss), 0 + (frs ss).length, false⟩)]⟩ : Dsk), _, _) = _
  rw [e, Nat.zero_add]
  rfl
theorem sp_sync (ss : List ByteArray) : lsync ⟨65536, none, [(rA, ⟨str (frs ss), (frs ss).length, false⟩)]⟩ rA ⟨ss, 0, false⟩ = (⟨65536, none, [(rA, ⟨str (frs ss), 0, false⟩)]⟩, ⟨ss, ss.length, false⟩, 0) := by
  rw [lsync_fine (f := ⟨str (frs ss), (frs ss).length, false⟩) rfl rfl rfl]
  rfl
theorem frs_parts (ss : List ByteArray) (k : Nat) (hk : k < ss.length) : frs ss = frs (ss.take k) ++ hd8 ss[k].data.toList ss[k].data.toList ++ frs (ss.drop (k + 1)) := by
  conv => lhs; rw [← List.take_append_drop k ss]
  rw [frs_append, List.drop_eq_getElem_cons hk, frs_cons, hd8_self, List.append_assoc]
theorem Sp.start (ss : List ByteArray) (k f : Nat) (hk : k < ss.length) : Sp ⟨65536, none, [(rA, ⟨str (frs ss), 0, false⟩)]⟩ (frs (ss.take k)) ss[k].data.toList (frs (ss.drop (k + 1))) f 0 0 ss[k].data.toList :=
  ⟨rfl, rfl, by rw [← frs_parts ss k hk], by decide, rfl, by rw [Nat.zero_shiftLeft, Nat.xor_zero], fun _ => rfl⟩
/-- What Open tells at the end. -/
theorem Sp.ends {σ : Dsk} {ss : List ByteArray} {k f q p : Nat} {u : List UInt8} (hk : k < ss.length) (h : Sp σ (frs (ss.take k)) ss[k].data.toList (frs (ss.drop (k + 1))) f q p u) (hs : ∀ r ∈ ss, r.size ≤ 4096) (hq : q ≤ 32) (hf : p ≠ 0 → f ≤ 8 * ss[k].size) :
    (p = 0 → ∃ τ, lopen σ rA = (τ, 0, ss)) ∧ (p ≠ 0 → ∃ τ, lopen σ rA = (τ, 0, ss.take k)) := by
  have hg : get σ.fs rA = some ⟨str (frs (ss.take k) ++ hd8 ss[k].data.toList u ++ frs (ss.drop (k + 1))), 0, false⟩ := by rw [h.file]; rfl
  have hs2 : ∀ r ∈ ss, r.size ≤ 1048576 := fun r hr => by have := hs r hr; omega
  constructor
  · intro hp
    rw [h.zero hp, ← frs_parts ss k hk] at hg
    exact ⟨_, lopen_old h.fuse hg (er := 0) (by rw [scan_frs ss hs2, str_size])⟩
  · intro hp
    have hkz := hs ss[k] (List.getElem_mem hk)
    have hc := (h.told hq (by rw [← size_len]; exact hf hp) (by rw [← size_len]; exact hkz)).1 hp
    have hl : (hd8 ss[k].data.toList u ++ frs (ss.drop (k + 1))).length ≠ 0 := by rw [List.length_append, hd8_len]; omega
    have hsc : scanOf ⟨str (frs (ss.take k) ++ hd8 ss[k].data.toList u ++ frs (ss.drop (k + 1))), 0, false⟩ = (ss.take k, (frs (ss.take k)).length, 60) := by
      unfold scanOf
      rw [str_data, List.append_assoc, sc_pre _ _ (fun t ht => hs2 t (List.mem_of_mem_take ht)), sc_wrong hl (by rw [hc]; decide), hc]
      simp
    exact ⟨_, lopen_cut h.fuse hg hsc (by rw [str_size, List.append_assoc, List.length_append]; omega)⟩
theorem wf64_nat (n : Nat) (h : n ≤ 9223372036854775807) : (Lit.int .i64 (n : Int)).wf = true := by
  simp only [Lit.wf, Bool.and_eq_true, decide_eq_true_eq]
  exact ⟨show (-9223372036854775808 : Int) ≤ n by omega, show (n : Int) ≤ 9223372036854775807 by omega⟩
theorem wf8_nat (n : Nat) (h : n < 256) : (Lit.int .u8 (n : Int)).wf = true := by
  simp only [Lit.wf, Bool.and_eq_true, decide_eq_true_eq]
  exact ⟨show (0 : Int) ≤ n by omega, show (n : Int) ≤ 255 by omega⟩
theorem take_strs {w : World} {A : Option Addr} {n : Nat} {ss : List ByteArray} (h : Strs w A n ss) (j : Nat) (hj : j ≤ n) : Strs w A j (ss.take j) := by
  refine ⟨by rw [List.length_take]; have := h.len; omega, fun i hi => ?_⟩
  have hi' : i < ss.length := by rw [List.length_take] at hi; omega
  rw [List.getElem_take]
  exact h.cell i hi'

set_option maxRecDepth 100000 in
set_option maxHeartbeats 8000000 in
theorem walk {D : Disks} {L : Logs} (h : Wants D L) (A : Option Addr) (len cap : Nat) (ss : List ByteArray) (wh at_ bi : Int) (w : World) (hv : StrsView w A len cap ss) (hwh : (Lit.int .u8 wh).wf = true) (hat : (Lit.int .u32 at_).wf = true) (hbi : (Lit.int .u32 bi).wf = true) (hT : Tab w) :
    Calls Tryd.prog 4 #[.slice A len cap, .int .u8 wh, .int .u32 at_, .int .u32 bi] w fun e w' => e = .returned (.bool true) ∧ Below w.heap.size w w' := by
  have HD := Lib.hid h.1
  have HL := Lib.hid h.2
  have HW : Hid (∀ w : World, Tab w → Calls Tryd.prog 8 #[] w fun e w' => e = .returned (.bool true) ∧ Below w.heap.size w w') := fun w hT => lworks_any h.1 h.2 w hT
  have HT := Lib.hid hT
  have HV := Lib.hid hv
  have HLN := Lib.hid hv.row.len
  have hfew := hv.few
  obtain ⟨wn, rfl, hw8⟩ : ∃ n : Nat, wh = n ∧ n < 256 := by
    simp only [Lit.wf, Bool.and_eq_true, decide_eq_true_eq] at hwh
    have h1 : 0 ≤ wh := hwh.1
    have h2 : wh ≤ 255 := hwh.2
    exact ⟨wh.toNat, by omega, by omega⟩
  obtain ⟨an, rfl, ha32⟩ : ∃ n : Nat, at_ = n ∧ n < 4294967296 := by
    simp only [Lit.wf, Bool.and_eq_true, decide_eq_true_eq] at hat
    have h1 : 0 ≤ at_ := hat.1
    have h2 : at_ ≤ 4294967295 := hat.2
    exact ⟨at_.toNat, by omega, by omega⟩
  obtain ⟨bn, rfl, hb32⟩ : ∃ n : Nat, bi = n ∧ n < 4294967296 := by
    simp only [Lit.wf, Bool.and_eq_true, decide_eq_true_eq] at hbi
    have h1 : 0 ≤ bi := hbi.1
    have h2 : bi ≤ 4294967295 := hbi.2
    exact ⟨bi.toNat, by omega, by omega⟩
  clear h hT hv hwh hat hbi
  go_enter Tryd.func4, Tryd.ntmps4
  go_wp2_with fail
  go_loopw [9, 10] (fun nv iv wr => ∃ i n : Nat, i ≤ len ∧ i ≤ 100 ∧ nv = .int .i64 n ∧ iv = .int .i64 i ∧ Hid (n = tot 1 (ss.take i)) ∧ n ≤ i * 140737488351233 ∧ w = wr) (fun _ iv _ => len - (intOf iv).toNat)
  case atStart => exact ⟨0, 0, Nat.zero_le _, by omega, rfl, rfl, by show _ = _; simp [tot], by omega, rfl⟩
  case round =>
    obtain ⟨i, n, hi, hi2, rfl, rfl, HN, hn, rfl⟩ := hrel
    by_cases hgo : i < len ∧ i < 100
    · have c1 := hgo.1
      have c2 := hgo.2
      clear hgo
      have hil : i < ss.length := by rw [HLN.out]; exact c1
      obtain ⟨b, off, rfl, hbl, hc⟩ := HV.out.row.cell i hil
      have hxs := HV.out.short ss[i] (List.getElem_mem _)
      obtain ⟨x, hx⟩ : ∃ x, ss[i] = x := ⟨_, rfl⟩
      rw [hx] at hc hxs
      have HE : Hid (n + (1 + x.size) = tot 1 (ss.take (i + 1))) := by show _ = _; rw [tot_snoc 1 ss i hil, hx, HN.out]
      clear hx
      go_wp2_with fail
      go_roundw
      case rel => exact ⟨i + 1, n + (1 + x.size), by omega, by omega, by go_num, by go_num, HE, by omega, trivial⟩
      case measure => simp [intOf]; omega
    by_cases hz0 : len = 0
    · have e0 : ((len : Int) == 0) = true := by rw [hz0]; rfl
      have c1 : ¬ i < len := by omega
      clear hgo hz0
      go_wp2_with (go_at_call 8; refine (HW.out _ HT.out).mono ?_; rintro e w' ⟨rfl, hb⟩)
      go_ret
      exact ⟨rfl, hb⟩
    have e0 : ((len : Int) == 0) = false := by rw [beq_eq_false_iff_ne]; omega
    by_cases hbig : 50 < len
    · by_cases c1 : i < len
      · have c2 : 100 ≤ i := by omega
        clear hgo
        go_wp2_with (go_at_call 8; refine (HW.out _ HT.out).mono ?_; rintro e w' ⟨rfl, hb⟩)
        go_ret
        exact ⟨rfl, hb⟩
      · clear hgo
        go_wp2_with (go_at_call 8; refine (HW.out _ HT.out).mono ?_; rintro e w' ⟨rfl, hb⟩)
        go_ret
        exact ⟨rfl, hb⟩
    have c1 : ¬ i < len := by omega
    have hie : ss.take i = ss := List.take_of_length_le (by rw [HLN.out]; omega)
    rw [hie] at HN
    clear hgo hie
    by_cases hsum : 4096 < n
    · go_wp2_with (go_at_call 8; refine (HW.out _ HT.out).mono ?_; rintro e w' ⟨rfl, hb⟩)
      go_ret
      exact ⟨rfl, hb⟩
    have hsm : ∀ x ∈ ss, x.size ≤ 4096 := fun x hx => by
      have := tot_mem (c := 1) hx
      have := HN.out
      omega
    have hfl : (frs ss).length ≤ 8192 := by
      have h1 := frs_tot 1 (by decide) ss
      rw [HLN.out] at h1
      have := HN.out
      omega
    have hsm2 : ∀ x ∈ ss, x.size ≤ 1048576 := fun x hx => by have := hsm x hx; omega
    have hne : ss ≠ [] := fun e => by have := HLN.out; rw [e] at this; simp at this; omega
    have HSM := Lib.hid hsm
    have HFL := Lib.hid hfl
    have HPUT := Lib.hid (sp_put ss hsm2 hne (by omega))
    have hl50 : len ≤ 50 := by omega
    have hl0 : 0 < len := by omega
    have HN0 := Lib.hid hn
    obtain ⟨k, hkd⟩ : ∃ k, wn % len = k := ⟨_, rfl⟩
    have hkl : k < len := by rw [← hkd]; exact Nat.mod_lt _ hl0
    have HKE : Hid (Value.int .i64 ((wn : Int) % (len : Int)) = .int .i64 (k : Nat)) := by show _ = _; rw [← hkd]; congr 1
    clear HN hn hsm hsm2 hfl hne hkd
    go_wp2_with fail
    refine (new_at HD.out (Below.refl _ _) 65536 (by decide)).mono ?_
    rintro e w1 ⟨g, rfl, hm, _⟩
    have M1 := Lib.hid hm.lone
    clear hm
    go_wp2_with fail
    have K := lopen_at HL.out rA M1.out (show 65536 ≤ 1048576 by decide) (by decide) HT
    rw [show lopen ⟨65536, none, []⟩ rA = (⟨65536, none, [(rA, ⟨⟨#[]⟩, 0, false⟩)]⟩, 0, []) from lopen_new List.Pairwise.nil rfl rfl rfl (by decide)] at K
    refine K.mono ?_
    rintro e w4 ⟨⟨_, x, A0, c0, rfl, hb, _⟩ | ⟨h0, _⟩, _⟩
    case inr => exact absurd rfl h0
    have B4 : Hid (Both D L w w4 g _ x rA ⟨[], 0, false⟩ noF) := hb
    have HV4 : Hid (Strs w4 A len ss) := HV.out.row.below B4.out.bel
    have hcz : A = none → cap = 0 := fun h => (HV.out.none h).2
    clear hb M1 K
    go_wp2_with (at_builtin; refine wpList_copy_row (by rfl) (.const (.slice none 0 0)) (.tmp 78) (by rfl) (by rfl) A len cap ss (by rfl) HV4 (by omega) hcz ?_; intro v5 w5 HO5 HB5)
    obtain ⟨A5, c5, rfl, hst5, hlc5, hcm5⟩ := row_strs HO5.out HLN.out
    have hA5 : ∀ ad, A5 = some ad → w4.heap.size ≤ ad.block := fun ad had => (HO5.out.lt ad.block (by rw [had]; rfl)).1
    have HLe := HLN.out
    have K := lappend_at HD.out HL.out B4.out (show 65536 ≤ 1048576 by decide) HT HB5.out A5 c5 ss (by rw [HLe]; exact hst5) (by rw [HLe]; exact hlc5) hcm5 (fun ad had => Or.inr (hA5 ad had)) (by have := HFL.out; omega) (Nat.zero_le _)
    rw [HPUT.out, HLe] at K
    refine K.mono ?_
    rintro e w6 ⟨rfl, hb, _⟩
    have B6 := Lib.hid hb
    clear hb B4 HV4 K hst5 HO5 HB5 hA5 HLe hcz HPUT
    go_wp2_with fail
    have K := lsync_at HL.out B6.out
    rw [sp_sync] at K
    refine K.mono ?_
    rintro e w7 ⟨rfl, hb, _⟩
    have M7 := Lib.hid hb.lone
    clear hb B6 K
    go_wp2_with fail
    rw [HKE.out]
    clear HKE
    go_loopw [17, 18] (fun fv iv wr => ∃ i : Nat, i ≤ k ∧ iv = .int .i64 i ∧ fv = .int .i64 ((frs (ss.take i)).length : Nat) ∧ (frs (ss.take i)).length ≤ 8192 ∧ wr = w7) (fun _ iv _ => k - (intOf iv).toNat)
    case atStart => exact ⟨0, Nat.zero_le _, rfl, by simp [frs], by simp [frs], rfl⟩
    case round =>
      obtain ⟨i, hi, rfl, rfl, hfr, rfl⟩ := hrel
      by_cases hlt : i < k
      · have hil : i < ss.length := by rw [HLN.out]; omega
        obtain ⟨b, off, rfl, hbl, hc0⟩ := HV.out.row.cell i hil
        have hc := (M7.out.bel.cell (p := ⟨b, off + i, none⟩) hbl).trans hc0
        obtain ⟨y, hy⟩ : ∃ y, ss[i] = y := ⟨_, rfl⟩
        rw [hy] at hc
        have hE : (frs (ss.take (i + 1))).length = (frs (ss.take i)).length + 8 + y.size := by
          rw [frs_snoc ss i hil, hy, List.length_append, fr_len, ← size_len]
          omega
        have hy4 := HSM.out ss[i] (List.getElem_mem _)
        rw [hy] at hy4
        have hle := frs_le ss (i + 1)
        have hflo := HFL.out
        have HE := Lib.hid hE
        obtain ⟨fo, hfo⟩ : ∃ fo, (frs (ss.take i)).length = fo := ⟨_, rfl⟩
        rw [hfo] at HE hfr ⊢
        clear hy hc0 hE hfo
        have hile : i < len := by omega
        go_wp2_with fail
        go_roundw
        case rel => exact ⟨i + 1, by omega, by go_num, by rw [HE.out]; go_num, by omega, trivial⟩
        case measure => simp [intOf]; omega
      · obtain rfl : i = k := by omega
        have HIK : Hid (i < ss.length) := by show i < ss.length; rw [HLN.out]; exact hkl
        obtain ⟨b, off, rfl, hbl, hc0⟩ := HV.out.row.cell i HIK.out
        have hc := (M7.out.bel.cell (p := ⟨b, off + i, none⟩) hbl).trans hc0
        have hy4 := HSM.out (ss[i]'(HIK.out)) (List.getElem_mem _)
        obtain ⟨y, hy⟩ : ∃ y, ss[i]'HIK.out = y := ⟨_, rfl⟩
        rw [hy] at hc hy4
        obtain ⟨f, hf⟩ : ∃ f, an % (8 * y.size) = f := ⟨_, rfl⟩
        have hfI : (an : Int) % (8 * (y.size : Int)) = (f : Int) := by rw [← hf]; simp
        have hfm : 0 < y.size → f < 8 * y.size := fun h0 => by rw [← hf]; exact Nat.mod_lt _ (by omega)
        have SP0 : Hid (Sp ⟨65536, none, [(rA, ⟨str (frs ss), 0, false⟩)]⟩ (frs (ss.take i)) y.data.toList (frs (ss.drop (i + 1))) f 0 0 y.data.toList) := by
          have := Sp.start ss i f HIK.out
          rw [hy] at this
          exact this
        have HY := Lib.hid hy
        obtain ⟨a8, ha8⟩ : ∃ a8, frs (ss.take i) = a8 := ⟨_, rfl⟩
        obtain ⟨c8, hc8⟩ : ∃ c8, frs (ss.drop (i + 1)) = c8 := ⟨_, rfl⟩
        have hlen8 : a8.length + 8 + y.data.toList.length + c8.length ≤ 65536 := by
          have h1 := frs_parts ss i HIK.out
          rw [ha8, hc8, hy] at h1
          have h2 := congrArg List.length h1
          rw [List.length_append, List.length_append, hd8_len] at h2
          have := HFL.out
          omega
        have HLEN8 := Lib.hid hlen8
        have hyl : y.data.toList.length = y.size := by simp
        have HYL := Lib.hid hyl
        have HA8 := Lib.hid ha8
        have HC8 := Lib.hid hc8
        rw [ha8, hc8] at SP0
        rw [ha8] at hfr ⊢
        clear hy hc0 hf ha8 hc8 hlen8 hyl
        go_wp2_with fail
        go_loopw [20, 21] (fun sv bv wr => ∃ (q p : Nat) (u : List UInt8) (σ : Dsk) (z : Bool), q ≤ 32 ∧ bv = .int .i64 q ∧ sv = .bool z ∧ Hid (z = decide (p ≠ 0)) ∧ Hid (Lone D w wr g σ noF) ∧ Hid (Sp σ a8 y.data.toList c8 f q p u) ∧ Hid (y.size = 0 → p = 0)) (fun _ bv _ => 32 - (intOf bv).toNat)
        case atStart => exact ⟨0, 0, _, _, false, by decide, rfl, rfl, rfl, M7, SP0, fun _ => rfl⟩
        case round =>
          clear M7 SP0 hc
          obtain ⟨q, p, u, σ, z, hq, rfl, rfl, HZ, HM, HS, HP0⟩ := hrel
          by_cases hq32 : q < 32
          · by_cases hy0 : 0 < y.size
            · have d0 : decide ((0 : Int) < 8 * (y.size : Int)) = true := by simp; omega
              by_cases ht : (bits .and .u32 ((bn : Int) / 2 ^ q) 1 == 1) = true
              · by_cases hlt2 : f + q < 8 * y.size
                · have d3 : decide ((f : Int) + (q : Int) < 8 * (y.size : Int)) = true := by simp; omega
                  have ht8 : (f + q) % 8 < 8 := Nat.mod_lt _ (by decide)
                  have h2 : (2 : Nat) ^ ((f + q) % 8) < 256 := Nat.lt_of_lt_of_le (Nat.pow_lt_pow_right (by decide) ht8) (by decide)
                  have HX : Hid (Value.int .i64 ((a8.length : Int) + 8 + ((f : Int) + (q : Int)) / 8) = .int .i64 ((a8.length + 8 + (f + q) / 8 : Nat) : Int)) := congrArg _ (by omega)
                  have HY8 : Hid (Value.int .u8 ((2 : Int) ^ ((f + q) % 8) % 256) = .int .u8 ((2 ^ ((f + q) % 8) : Nat) : Int)) := by
                    have e1 : ((2 : Int) ^ ((f + q) % 8)) = ((2 ^ ((f + q) % 8) : Nat) : Int) := by simp
                    show _ = _
                    rw [e1]
                    exact congrArg _ (Int.emod_eq_of_lt (Int.natCast_nonneg _) (Int.ofNat_lt.2 h2))
                  have hlu : (f + q) / 8 < u.length := by rw [HS.out.len, HYL.out]; omega
                  obtain ⟨hp', τ, v, hτ, hsp⟩ := HS.out.turn hlu HLEN8.out
                  have hl8 := HLEN8.out
                  have hidx : a8.length + 8 + (f + q) / 8 ≤ 70000 := by have := HYL.out; omega
                  have K := HM.out.turned (f := 18) (args := #[ptr g, .string rA, .int .i64 ((a8.length + 8 + (f + q) / 8 : Nat) : Int), .int .u8 ((2 ^ ((f + q) % 8) : Nat) : Int)]) (fun O hd _ => HD.out.spoil rA ((a8.length + 8 + (f + q) / 8 : Nat) : Int) ((2 ^ ((f + q) % 8) : Nat) : Int) hd (by decide) (wf64_nat _ (by omega)) (wf8_nat _ h2))
                  rw [Int.toNat_natCast, hτ] at K
                  have KK := Lib.hid K
                  have HSP := Lib.hid hsp
                  have HPN := Lib.hid hp'
                  clear hτ hsp hp' K hlu h2 ht8 hl8 hidx
                  go_wp2_with fail
                  rw [HX.out, HY8.out]
                  refine KK.out.mono ?_
                  rintro e w8 ⟨rfl, hm, _⟩
                  have M8 := Lib.hid hm
                  clear hm KK HX HY8 HM HS
                  go_wp2_with fail
                  go_roundw
                  case rel => exact ⟨q + 1, p ^^^ 2 ^ q, v, τ, true, by omega, by go_num, rfl, by show _ = _; rw [decide_eq_true HPN.out], M8, HSP, fun h0 => by omega⟩
                  case measure => simp [intOf]; omega
                · have d3 : decide ((f : Int) + (q : Int) < 8 * (y.size : Int)) = false := by simp; omega
                  go_wp2_with fail
                  go_roundw
                  case rel => exact ⟨q + 1, p, u, σ, z, by omega, by go_num, rfl, HZ, HM, HS.out.skip, HP0⟩
                  case measure => simp [intOf]; omega
              · have ht : (bits .and .u32 ((bn : Int) / 2 ^ q) 1 == 1) = false := by simpa using ht
                go_wp2_with fail
                go_roundw
                case rel => exact ⟨q + 1, p, u, σ, z, by omega, by go_num, rfl, HZ, HM, HS.out.skip, HP0⟩
                case measure => simp [intOf]; omega
            · have d0 : decide ((0 : Int) < 8 * (y.size : Int)) = false := by simp; omega
              have HEND := Lib.hid (Sp.ends (ss := ss) (k := i) HIK.out (by rw [HA8.out, HC8.out, HY.out]; exact HS.out) HSM.out hq (fun hp => by
                rw [HY.out]
                have h1 : 0 < y.size := by
                  rcases Nat.eq_zero_or_pos y.size with h0 | h0
                  · exact absurd (HP0.out h0) hp
                  · exact h0
                have := hfm h1
                omega))
              by_cases hp : p = 0
              · obtain ⟨τ, hτ⟩ := HEND.out.1 hp
                have hz : z = false := by rw [HZ.out]; simp [hp]
                subst hz
                have K := lopen_at HL.out rA HM.out (by rw [HS.out.room]; decide) (by decide) HT
                rw [hτ] at K
                clear hp hτ HEND
                go_wp2_with fail
                refine K.mono ?_
                rintro e w8 ⟨⟨_, x2, A8, c8', rfl, hb, hs8, _⟩ | ⟨h0, _⟩, _⟩
                case inr => exact absurd rfl h0
                have B8 := Lib.hid hb.lone.bel
                have HS8 : Hid (Strs w8 A8 len ss) := by
                  have := hs8
                  have e : (ss).length = len := HLN.out
                  rw [e] at this
                  exact this
                have HV8 : Hid (Strs w8 (some ⟨b, off, none⟩) len ss) := HV.out.row.below B8.out
                have hle : (ss).length = len := HLN.out
                have hcl : len ≤ cap := HV.out.fits
                clear hb hs8 K HM HS HZ
                dsimp only
                rw [hle]
                go_wp2_with fail
                refine (same_true A8 (some ⟨b, off, none⟩) len c8' cap ss (by omega) _ HS8 HV8).mono ?_
                rintro e w9 ⟨rfl, hd⟩
                have B9 := Lib.hid (B8.out.trans ((of_drewN (B := w8.heap.size) hd).mono B8.out.size))
                clear hd
                go_wp2_with fail
                refine (HW.out _ (HT.out.below B9.out)).mono ?_
                rintro e w10 ⟨rfl, hb10⟩
                have B10 := Lib.hid (B9.out.trans (hb10.mono B9.out.size))
                clear hb10
                go_wp2_with fail
                go_ret
                exact ⟨rfl, B10.out⟩
              · obtain ⟨τ, hτ⟩ := HEND.out.2 hp
                have hz : z = true := by rw [HZ.out]; simp [hp]
                subst hz
                have K := lopen_at HL.out rA HM.out (by rw [HS.out.room]; decide) (by decide) HT
                rw [hτ] at K
                clear hp hτ HEND
                go_wp2_with fail
                refine K.mono ?_
                rintro e w8 ⟨⟨_, x2, A8, c8', rfl, hb, hs8, _⟩ | ⟨h0, _⟩, _⟩
                case inr => exact absurd rfl h0
                have B8 := Lib.hid hb.lone.bel
                have HS8 : Hid (Strs w8 A8 i (ss.take i)) := by
                  have := hs8
                  have e : ((ss.take i)).length = i := by rw [List.length_take]; have := HLN.out; omega
                  rw [e] at this
                  exact this
                have HV8 : Hid (Strs w8 (some ⟨b, off, none⟩) i (ss.take i)) := take_strs (HV.out.row.below B8.out) i (by omega)
                have hle : ((ss.take i)).length = i := by rw [List.length_take]; have := HLN.out; omega
                have hcl : len ≤ cap := HV.out.fits
                clear hb hs8 K HM HS HZ
                dsimp only
                rw [hle]
                go_wp2_with fail
                refine (same_true A8 (some ⟨b, off, none⟩) i c8' cap (ss.take i) (by omega) _ HS8 HV8).mono ?_
                rintro e w9 ⟨rfl, hd⟩
                have B9 := Lib.hid (B8.out.trans ((of_drewN (B := w8.heap.size) hd).mono B8.out.size))
                clear hd
                go_wp2_with fail
                refine (HW.out _ (HT.out.below B9.out)).mono ?_
                rintro e w10 ⟨rfl, hb10⟩
                have B10 := Lib.hid (B9.out.trans (hb10.mono B9.out.size))
                clear hb10
                go_wp2_with fail
                go_ret
                exact ⟨rfl, B10.out⟩
          · have HEND := Lib.hid (Sp.ends (ss := ss) (k := i) HIK.out (by rw [HA8.out, HC8.out, HY.out]; exact HS.out) HSM.out hq (fun hp => by
              rw [HY.out]
              have h1 : 0 < y.size := by
                rcases Nat.eq_zero_or_pos y.size with h0 | h0
                · exact absurd (HP0.out h0) hp
                · exact h0
              have := hfm h1
              omega))
            by_cases hp : p = 0
            · obtain ⟨τ, hτ⟩ := HEND.out.1 hp
              have hz : z = false := by rw [HZ.out]; simp [hp]
              subst hz
              have K := lopen_at HL.out rA HM.out (by rw [HS.out.room]; decide) (by decide) HT
              rw [hτ] at K
              clear hp hτ HEND
              go_wp2_with fail
              refine K.mono ?_
              rintro e w8 ⟨⟨_, x2, A8, c8', rfl, hb, hs8, _⟩ | ⟨h0, _⟩, _⟩
              case inr => exact absurd rfl h0
              have B8 := Lib.hid hb.lone.bel
              have HS8 : Hid (Strs w8 A8 len ss) := by
                have := hs8
                have e : (ss).length = len := HLN.out
                rw [e] at this
                exact this
              have HV8 : Hid (Strs w8 (some ⟨b, off, none⟩) len ss) := HV.out.row.below B8.out
              have hle : (ss).length = len := HLN.out
              have hcl : len ≤ cap := HV.out.fits
              clear hb hs8 K HM HS HZ
              dsimp only
              rw [hle]
              go_wp2_with fail
              refine (same_true A8 (some ⟨b, off, none⟩) len c8' cap ss (by omega) _ HS8 HV8).mono ?_
              rintro e w9 ⟨rfl, hd⟩
              have B9 := Lib.hid (B8.out.trans ((of_drewN (B := w8.heap.size) hd).mono B8.out.size))
              clear hd
              go_wp2_with fail
              refine (HW.out _ (HT.out.below B9.out)).mono ?_
              rintro e w10 ⟨rfl, hb10⟩
              have B10 := Lib.hid (B9.out.trans (hb10.mono B9.out.size))
              clear hb10
              go_wp2_with fail
              go_ret
              exact ⟨rfl, B10.out⟩
            · obtain ⟨τ, hτ⟩ := HEND.out.2 hp
              have hz : z = true := by rw [HZ.out]; simp [hp]
              subst hz
              have K := lopen_at HL.out rA HM.out (by rw [HS.out.room]; decide) (by decide) HT
              rw [hτ] at K
              clear hp hτ HEND
              go_wp2_with fail
              refine K.mono ?_
              rintro e w8 ⟨⟨_, x2, A8, c8', rfl, hb, hs8, _⟩ | ⟨h0, _⟩, _⟩
              case inr => exact absurd rfl h0
              have B8 := Lib.hid hb.lone.bel
              have HS8 : Hid (Strs w8 A8 i (ss.take i)) := by
                have := hs8
                have e : ((ss.take i)).length = i := by rw [List.length_take]; have := HLN.out; omega
                rw [e] at this
                exact this
              have HV8 : Hid (Strs w8 (some ⟨b, off, none⟩) i (ss.take i)) := take_strs (HV.out.row.below B8.out) i (by omega)
              have hle : ((ss.take i)).length = i := by rw [List.length_take]; have := HLN.out; omega
              have hcl : len ≤ cap := HV.out.fits
              clear hb hs8 K HM HS HZ
              dsimp only
              rw [hle]
              go_wp2_with fail
              refine (same_true A8 (some ⟨b, off, none⟩) i c8' cap (ss.take i) (by omega) _ HS8 HV8).mono ?_
              rintro e w9 ⟨rfl, hd⟩
              have B9 := Lib.hid (B8.out.trans ((of_drewN (B := w8.heap.size) hd).mono B8.out.size))
              clear hd
              go_wp2_with fail
              refine (HW.out _ (HT.out.below B9.out)).mono ?_
              rintro e w10 ⟨rfl, hb10⟩
              have B10 := Lib.hid (B9.out.trans (hb10.mono B9.out.size))
              clear hb10
              go_wp2_with fail
              go_ret
              exact ⟨rfl, B10.out⟩

end Go.Proofs.YtikbokbmaihdbaaDoor.logSpoilt
