/-
  FrameScans, the walk.
-/
import Derived.Test.YtjjhgfbemfbplaaDoorFEnds
import Derived.OpenShut
namespace Go.Proofs.YtjjhgfbemfbplaaDoor.frameScans
open Go.RowKit Go.ChangeShapes Go.WideShapes

set_option maxHeartbeats 4000000 in
set_option maxRecDepth 100000 in
theorem walk_n (A : Option Addr) (len cap : Nat) (ss : List ByteArray) (a : Nat) (ha : a < 65536) (w : World) (hv : StrsView w A len cap ss) (hT : Tab w) :
    Calls Tryd.prog 4 #[.slice A len cap, .int .u16 a] w fun e w' => e = .returned (.bool true) ∧ Below w.heap.size w w' := by
  have HT0 := Lib.hid hT
  have HV := Lib.hid hv
  have HL := Lib.hid hv.row.len
  have hfew := hv.few
  have hfits := hv.fits
  clear hT hv
  go_enter Tryd.func4, Tryd.ntmps4
  go_wp2_with fail
  go_loopw [5, 6] (fun nv iv wr => ∃ i n : Nat, i ≤ len ∧ i ≤ 300 ∧ nv = .int .i64 n ∧ iv = .int .i64 i ∧ Hid (n = tot 0 (ss.take i)) ∧ n ≤ i * 140737488351233 ∧ w = wr) (fun _ iv _ => len - (intOf iv).toNat)
  case atStart => exact ⟨0, 0, Nat.zero_le _, by omega, rfl, rfl, by show _ = _; simp [tot], by omega, rfl⟩
  case round =>
    obtain ⟨i, n, hi, hi2, rfl, rfl, HN, hn, rfl⟩ := hrel
    by_cases hgo : i < len ∧ i < 300
    · have c1 := hgo.1
      have c2 := hgo.2
      clear hgo
      have hil : i < ss.length := by rw [HL.out]; exact c1
      obtain ⟨b, off, rfl, hbl, hc⟩ := HV.out.row.cell i hil
      have hxs := HV.out.short ss[i] (List.getElem_mem _)
      obtain ⟨x, hx⟩ : ∃ x, ss[i] = x := ⟨_, rfl⟩
      rw [hx] at hc hxs
      have HE : Hid (n + x.size = tot 0 (ss.take (i + 1))) := by show _ = _; rw [tot_snoc 0 ss i hil, hx, HN.out]; omega
      clear hx
      go_wp2_with fail
      go_roundw
      case rel => exact ⟨i + 1, n + x.size, by omega, by omega, by go_num, by go_num, HE, by omega, trivial⟩
      case measure => simp [intOf]; omega
    by_cases hbig : 200 < len
    · by_cases c1 : i < len
      · have c2 : 300 ≤ i := by omega
        clear hgo
        go_wp2_with (go_at_call 8; refine (works_any _ HT0).mono ?_; rintro e w' ⟨rfl, hb⟩)
        go_ret
        exact ⟨rfl, hb⟩
      · clear hgo
        go_wp2_with (go_at_call 8; refine (works_any _ HT0).mono ?_; rintro e w' ⟨rfl, hb⟩)
        go_ret
        exact ⟨rfl, hb⟩
    have c1 : ¬ i < len := by omega
    have hie : ss.take i = ss := List.take_of_length_le (by rw [HL.out]; omega)
    rw [hie] at HN
    clear hgo hie
    by_cases hsum : 4096 < n
    · go_wp2_with (go_at_call 8; refine (works_any _ HT0).mono ?_; rintro e w' ⟨rfl, hb⟩)
      go_ret
      exact ⟨rfl, hb⟩
    have hfl : Hid ((frs ss).length ≤ 5696) := by
      show _ ≤ _
      rw [frs_tot 0 (by decide) ss, HL.out, ← HN.out]
      omega
    have hsm : Hid (∀ x ∈ ss, x.size ≤ 4096) := fun x hx => by
      have := tot_mem (c := 0) hx
      rw [← HN.out] at this
      omega
    have hl200 : len ≤ 200 := by omega
    have HN0 := Lib.hid hn
    clear HN hn
    go_wp2_with fail
    clear hsum hbig c1 hi hi2
    go_loopw [7, 8, 9] (fun av ev iv wr => ∃ (i : Nat) (S : ByteArray), i ≤ len ∧ iv = .int .i64 i ∧ av = .string S ∧ S.size ≤ 5696 ∧ Hid (S.data.toList = frs (ss.take i)) ∧ Hid (wr.ownsRow w.heap.size 3 1 ev i (zel (endsTo ss i))) ∧ Hid (Below w.heap.size w wr)) (fun _ _ iv _ => len - (intOf iv).toNat)
    case atStart => exact ⟨0, ⟨#[]⟩, Nat.zero_le _, rfl, rfl, by decide, rfl, ⟨rfl, .inl ⟨rfl, rfl⟩⟩, Below.refl _ _⟩
    case round =>
      obtain ⟨i, S, hi, rfl, rfl, hS, HS, HO, HB⟩ := hrel
      have HT1 : Hid (Tab wr) := HT0.out.below HB.out
      by_cases hlt : i < len
      · have hil : i < ss.length := by rw [HL.out]; exact hlt
        obtain ⟨b, off, rfl, hbl, hc⟩ := HV.out.row.cell i hil
        have hxs := hsm.out ss[i] (List.getElem_mem _)
        obtain ⟨x, hx⟩ : ∃ x, ss[i] = x := ⟨_, rfl⟩
        rw [hx] at hc hxs
        obtain ⟨F, hF⟩ : ∃ F, str (fr x.data.toList) = F := ⟨_, rfl⟩
        have HE : Hid ((S ++ F).data.toList = frs (ss.take (i + 1))) := by show _ = _; rw [frs_snoc ss i hil, hx, ByteArray.data_append, Array.toList_append, HS.out, ← hF]; rfl
        have HZ : Hid ((S ++ F).size = endAt ss (i + 1)) := by show _ = _; rw [size_len, HE.out]; rfl
        have hSF : S.size + F.size ≤ 5696 := by
          have h1 := frs_le ss (i + 1)
          rw [← HE.out, ← size_len, ByteArray.size_append] at h1
          have := hfl.out
          omega
        have hcw := (HB.out.cell (p := ⟨b, off + i, none⟩) hbl).trans hc
        have KP := Lib.hid (fun W hW => Put_at x F (by omega) W hW hF)
        clear hx hF hc
        go_wp2_with fail
        refine (KP.out _ HT1).mono ?_
        rintro e w1 ⟨rfl, hb⟩
        have HB1 := Lib.hid (HB.out.trans (hb.mono HB.out.size))
        have HO1 := Lib.hid (owns_below HO.out hb)
        clear hb HB HT1 hcw HO
        go_wp2_with (at_builtin; refine wpList_append_int (by rfl) (.tmp 66) (.tmp 69) (by rfl) w1 ((S ++ F).size : Int) w.heap.size HB1.out.size _ (endsTo ss i) (by rfl) (by rw [endsTo_len]; exact HO1.out) (by rw [endsTo_len]; omega) (by rfl) (by first | rfl | rw [ByteArray.size_append, Int.natCast_add]) ?_; intro v' w3 hown hb)
        have HO3 : Hid (w3.ownsRow w.heap.size 3 1 v' (i + 1) (zel (endsTo ss (i + 1)))) := by
          rw [HZ.out, endsTo_snoc, endsTo_len] at hown
          exact hown
        have HB3 := Lib.hid (HB1.out.trans hb)
        have HSZ : Hid ((S ++ F).size ≤ 5696) := by show _ ≤ _; rw [ByteArray.size_append]; exact hSF
        clear hown hb HO1 HB1
        go_roundw
        case rel => exact ⟨i + 1, S ++ F, by omega, by go_num, rfl, HSZ.out, HE, HO3, HB3⟩
        case measure => simp [intOf]; omega
      · have hie : ss.take i = ss := List.take_of_length_le (by rw [HL.out]; omega)
        have hi' : i = len := by omega
        rw [hie] at HS
        rw [hi'] at HO
        obtain ⟨B, bcap, rfl, hends⟩ := owns_ends HO.out (endsTo_len ss len)
        have HEN := Lib.hid hends
        have hz : S.size = (frs ss).length := by rw [size_len, HS.out]
        have HSC : Hid (sc S.data.toList = (ss, S.size, 0)) := by show _ = _; rw [hz, HS.out]; exact sc_frs ss (fun x hx => Nat.le_trans (hsm.out x hx) (by decide))
        have HTL : ss.length = len := HL.out
        have ks : ∀ W, Hid (Tab W) → Calls Tryd.prog 13 #[.string S] W fun r w' => ∃ A cap, r = .returned (.tuple #[.slice A len cap, .int .i64 (S.size : Int), .int .i64 0]) ∧ Strs w' A len ss ∧ Below W.heap.size W w' := fun W hW => by
          have h := Scan_any S (by omega) W hW ss S.size 0 HSC
          rw [HTL] at h
          exact h
        have KS := Lib.hid ks
        obtain ⟨k, hk⟩ : ∃ k, k = a % (S.size + 1) := ⟨_, rfl⟩
        have hks : k ≤ S.size := by have := Nat.mod_lt a (show 0 < S.size + 1 by omega); omega
        have hkk : (a : Int) % ((S.size : Int) + 1) = (k : Int) := by rw [hk]; simp
        obtain ⟨j, hj, hjk, hjn⟩ := whole ss k
        rw [HL.out] at hj hjn
        obtain ⟨eN, heN⟩ : ∃ e, endAt ss j = e := ⟨_, rfl⟩
        obtain ⟨f, hf⟩ : ∃ f, (if eN = k then 0 else 20 : Nat) = f := ⟨_, rfl⟩
        have HS2 : Hid (sc (S.extract 0 k).data.toList = (ss.take j, eN, f)) := by
          show _ = _
          rw [Lib.extract_data, List.drop_zero, Nat.sub_zero, HS.out, ← hf, ← heN]
          exact sc_cut ss (fun x hx => Nat.le_trans (hsm.out x hx) (by decide)) k j (by rw [← hz]; exact hks) (by rw [HL.out]; exact hj) hjk (fun h => hjn (by rw [← HL.out]; exact h))
        have htk : (ss.take j).length = j := by rw [List.length_take, HL.out]; omega
        have ks2 : ∀ W, Hid (Tab W) → Calls Tryd.prog 13 #[.string (S.extract 0 k)] W fun r w' => ∃ A cap, r = .returned (.tuple #[.slice A j cap, .int .i64 (eN : Int), .int .i64 (f : Int)]) ∧ Strs w' A j (ss.take j) ∧ Below W.heap.size W w' := fun W hW => by
          have h := Scan_any (S.extract 0 k) (by rw [ByteArray.size_extract]; omega) W hW (ss.take j) eN f HS2
          rw [htk] at h
          exact h
        have KS2 := Lib.hid ks2
        have HJ1 := Lib.hid hjk
        have HJ2 := Lib.hid hjn
        have HEJ := Lib.hid heN
        clear hie hz hk hjk hjn heN hi' HTL htk hends ks ks2
        go_wp2_with fail
        refine (KS.out _ HT1).mono ?_
        rintro e w1 ⟨A1, cap1, rfl, hst1, hb⟩
        have HB1 := Lib.hid (HB.out.trans (hb.mono HB.out.size))
        have HT2 : Hid (Tab w1) := HT1.out.below hb
        have HEN1 := Lib.hid (HEN.out.below hb)
        have HS1 := Lib.hid hst1
        have HA1 : Hid (Strs w1 A len ss) := HV.out.row.below HB1.out
        have hle : len ≤ 1000000 := by omega
        clear hb HB HT1 HEN hst1
        go_wp2_with (go_at_call 16; refine (same_true A1 A len cap1 cap ss hle _ HS1 HA1).mono ?_; rintro e w2 ⟨rfl, hd⟩)
        have HB2 := Lib.hid (HB1.out.trans ((of_drewN hd).mono HB1.out.size))
        have HT3 : Hid (Tab w2) := HT2.out.below (of_drewN hd)
        have HEN2 := Lib.hid (HEN1.out.below (of_drewN hd))
        clear hd HB1 HT2 HEN1 HS1 HA1
        refine (KS2.out _ HT3).mono ?_
        rintro e w3 ⟨A2, cap2, rfl, hst2, hb⟩
        have HB3 := Lib.hid (HB2.out.trans (hb.mono HB2.out.size))
        have HT4 : Hid (Tab w3) := HT3.out.below hb
        have HEN3 := Lib.hid (HEN2.out.below hb)
        have HS2' := Lib.hid hst2
        have HA2 : Hid (Strs w3 A j (ss.take j)) := (HV.out.row.below HB3.out).take j hj
        have hjl : j ≤ 1000000 := by omega
        clear hb hst2 HB2 HT3 HEN2 HS2 KS2 KS
        go_wp2_with fail
        go_loop [19, 20, 21] (fun hv ev iv => ∃ (i en : Nat), i ≤ j ∧ hv = .int .i64 i ∧ iv = .int .i64 i ∧ ev = .int .i64 en ∧ Hid (en = endAt ss i)) (fun _ _ iv => j - (intOf iv).toNat)
        case atStart => exact ⟨0, 0, Nat.zero_le _, rfl, rfl, rfl, (endAt_zero ss).symm⟩
        case round =>
          obtain ⟨i, en, hi, rfl, rfl, rfl, HEn⟩ := hrel
          by_cases hlt : i < j
          · have hil : i < len := by omega
            obtain ⟨b, rfl, hbl, hc⟩ := HEN3.out.cell i (by rw [endsTo_len]; exact hil)
            rw [endsTo_get] at hc
            have hz := endAt_le ss (i + 1) j (by omega)
            obtain ⟨z, hz2⟩ : ∃ z, endAt ss (i + 1) = z := ⟨_, rfl⟩
            rw [hz2] at hc hz
            have hzk : z ≤ k := by have := HJ1.out; omega
            have HZ2 : Hid (z = endAt ss (i + 1)) := hz2.symm
            clear hz2 hz hbl
            go_wp2_with fail
            go_round
            case rel => exact ⟨i + 1, z, by omega, by go_num, by go_num, rfl, HZ2⟩
            case measure => simp [intOf]; omega
          · have hij : i = j := by omega
            have hen : en = eN := by rw [HEn.out, hij, HEJ.out]
            subst hij hen
            clear hlt
            by_cases hjlt : i < len
            · obtain ⟨b, rfl, hbl, hc⟩ := HEN3.out.cell i (by rw [endsTo_len]; exact hjlt)
              rw [endsTo_get] at hc
              obtain ⟨z, hz2⟩ : ∃ z, endAt ss (i + 1) = z := ⟨_, rfl⟩
              have hzk : k < z := by rw [← hz2]; exact HJ2.out hjlt
              rw [hz2] at hc
              clear hz2 hbl
              by_cases hek : en = k
              · subst hek
                obtain rfl : f = 0 := by rw [← hf]; simp
                clear hf
                go_wp2_with (go_at_call 16; refine (same_true A2 A _ cap2 cap _ hjl _ HS2' HA2).mono ?_; rintro e w4 ⟨rfl, hd⟩)
                have HB4 := Lib.hid (HB3.out.trans ((of_drewN hd).mono HB3.out.size))
                have HT5 : Hid (Tab w4) := HT4.out.below (of_drewN hd)
                clear hd
                refine (works_any _ HT5).mono ?_
                rintro e w5 ⟨rfl, hb⟩
                have HB5 := Lib.hid (HB4.out.trans (hb.mono HB4.out.size))
                clear hb
                go_wp2_with fail
                go_ret
                exact ⟨rfl, HB5.out⟩
              · obtain rfl : f = 20 := by rw [← hf, if_neg hek]
                have hne : ((en : Int) == (k : Int)) = false := by rw [beq_eq_false_iff_ne]; omega
                clear hf hek
                go_wp2_with (go_at_call 16; refine (same_true A2 A _ cap2 cap _ hjl _ HS2' HA2).mono ?_; rintro e w4 ⟨rfl, hd⟩)
                have HB4 := Lib.hid (HB3.out.trans ((of_drewN hd).mono HB3.out.size))
                have HT5 : Hid (Tab w4) := HT4.out.below (of_drewN hd)
                clear hd
                refine (works_any _ HT5).mono ?_
                rintro e w5 ⟨rfl, hb⟩
                have HB5 := Lib.hid (HB4.out.trans (hb.mono HB4.out.size))
                clear hb
                go_wp2_with fail
                go_ret
                exact ⟨rfl, HB5.out⟩
            · have hil : i = len := by omega
              subst hil
              by_cases hek : en = k
              · subst hek
                obtain rfl : f = 0 := by rw [← hf]; simp
                clear hf
                go_wp2_with (go_at_call 16; refine (same_true A2 A _ cap2 cap _ hjl _ HS2' HA2).mono ?_; rintro e w4 ⟨rfl, hd⟩)
                have HB4 := Lib.hid (HB3.out.trans ((of_drewN hd).mono HB3.out.size))
                have HT5 : Hid (Tab w4) := HT4.out.below (of_drewN hd)
                clear hd
                refine (works_any _ HT5).mono ?_
                rintro e w5 ⟨rfl, hb⟩
                have HB5 := Lib.hid (HB4.out.trans (hb.mono HB4.out.size))
                clear hb
                go_wp2_with fail
                go_ret
                exact ⟨rfl, HB5.out⟩
              · obtain rfl : f = 20 := by rw [← hf, if_neg hek]
                have hne : ((en : Int) == (k : Int)) = false := by rw [beq_eq_false_iff_ne]; omega
                clear hf hek
                go_wp2_with (go_at_call 16; refine (same_true A2 A _ cap2 cap _ hjl _ HS2' HA2).mono ?_; rintro e w4 ⟨rfl, hd⟩)
                have HB4 := Lib.hid (HB3.out.trans ((of_drewN hd).mono HB3.out.size))
                have HT5 : Hid (Tab w4) := HT4.out.below (of_drewN hd)
                clear hd
                refine (works_any _ HT5).mono ?_
                rintro e w5 ⟨rfl, hb⟩
                have HB5 := Lib.hid (HB4.out.trans (hb.mono HB4.out.size))
                clear hb
                go_wp2_with fail
                go_ret
                exact ⟨rfl, HB5.out⟩

theorem walk (A : Option Addr) (len cap : Nat) (ss : List ByteArray) (a : Int) (w : World) (hv : StrsView w A len cap ss) (ha : (Lit.int .u16 a).wf = true) (hT : Tab w) :
    Calls Tryd.prog 4 #[.slice A len cap, .int .u16 a] w fun e w' => e = .returned (.bool true) ∧ Below w.heap.size w w' := by
  have hab := bounds_u16 ha
  obtain ⟨a, rfl⟩ := Int.eq_ofNat_of_zero_le hab.1
  exact walk_n A len cap ss a (by omega) w hv hT

end Go.Proofs.YtjjhgfbemfbplaaDoor.frameScans
