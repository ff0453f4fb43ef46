/-
  FrameShort, the walk.
-/
import Derived.Test.YtjjhgfbemfbplaaDoorFWorks
import Derived.Test.YtjjhgfbemfbplaaDoorFTot
import Derived.OpenShut
namespace Go.Proofs.YtjjhgfbemfbplaaDoor.frameShort
open Go.RowKit Go.ChangeShapes Go.WideShapes

set_option maxHeartbeats 1000000 in
set_option maxRecDepth 100000 in
theorem walk (A : Option Addr) (len cap : Nat) (ss : List ByteArray) (w : World) (hv : StrsView w A len cap ss) (hT : Tab w) :
    Calls Tryd.prog 7 #[.slice A len cap] w fun e w' => e = .returned (.bool true) ∧ Below w.heap.size w w' := by
  have HT0 := Lib.hid hT
  have HV := Lib.hid hv
  have HL := Lib.hid hv.row.len
  have hfew := hv.few
  clear hT hv
  go_enter Tryd.func7, Tryd.ntmps7
  go_wp2_with fail
  go_loopw [3, 4] (fun nv iv wr => ∃ i n : Nat, i ≤ len ∧ i ≤ 100 ∧ nv = .int .i64 n ∧ iv = .int .i64 i ∧ Hid (n = tot 1 (ss.take i)) ∧ n ≤ i * 140737488351233 ∧ w = wr) (fun _ iv _ => len - (intOf iv).toNat)
  case atStart => exact ⟨0, 0, Nat.zero_le _, by omega, rfl, rfl, by show _ = _; simp [tot], by omega, rfl⟩
  case round =>
    obtain ⟨i, n, hi, hi2, rfl, rfl, HN, hn, rfl⟩ := hrel
    by_cases hgo : i < len ∧ i < 100
    · have c1 := hgo.1
      have c2 := hgo.2
      clear hgo
      have hil : i < ss.length := by rw [HL.out]; exact c1
      obtain ⟨b, off, rfl, hbl, hc⟩ := HV.out.row.cell i hil
      have hxs := HV.out.short ss[i] (List.getElem_mem _)
      obtain ⟨x, hx⟩ : ∃ x, ss[i] = x := ⟨_, rfl⟩
      rw [hx] at hc hxs
      have HE : Hid (n + (1 + x.size) = tot 1 (ss.take (i + 1))) := by show _ = _; rw [tot_snoc 1 ss i hil, hx, HN.out]
      clear hx
      go_wp2_with fail
      go_roundw
      case rel => exact ⟨i + 1, n + (1 + x.size), by omega, by omega, by go_num, by go_num, HE, by omega, trivial⟩
      case measure => simp [intOf]; omega
    by_cases hbig : 30 < len
    · by_cases c1 : i < len
      · have c2 : 100 ≤ i := by omega
        clear hgo
        go_wp2_with (go_at_call 8; refine (works_any _ HT0).mono ?_; rintro e w' ⟨rfl, hb⟩)
        go_ret
        exact ⟨rfl, hb⟩
      · clear hgo
        go_wp2_with (go_at_call 8; refine (works_any _ HT0).mono ?_; rintro e w' ⟨rfl, hb⟩)
        go_ret
        exact ⟨rfl, hb⟩
    have c1 : ¬ i < len := by omega
    have hie : ss.take i = ss := List.take_of_length_le (by rw [HL.out]; omega)
    rw [hie] at HN
    clear hgo hie
    by_cases hsum : 512 < n
    · go_wp2_with (go_at_call 8; refine (works_any _ HT0).mono ?_; rintro e w' ⟨rfl, hb⟩)
      go_ret
      exact ⟨rfl, hb⟩
    have hfl : Hid ((frs ss).length ≤ 722) := by
      show _ ≤ _
      rw [frs_tot 1 (by decide) ss, HL.out, ← HN.out]
      omega
    have hsm : Hid (∀ x ∈ ss, x.size ≤ 512) := fun x hx => by
      have := tot_mem (c := 1) hx
      rw [← HN.out] at this
      omega
    have hl30 : len ≤ 30 := by omega
    have HN0 := Lib.hid hn
    clear HN hn
    go_wp2_with fail
    clear hsum hbig c1 hi hi2
    go_loopw [5, 6, 7] (fun av sv iv wr => ∃ (i : Nat) (S : ByteArray), i ≤ len ∧ iv = .int .i64 i ∧ av = .string S ∧ sv = .int .i64 S.size ∧ S.size ≤ 722 ∧ Hid (S.data.toList = frs (ss.take i)) ∧ Hid (Below w.heap.size w wr)) (fun _ _ iv _ => len - (intOf iv).toNat)
    case atStart => exact ⟨0, ⟨#[]⟩, Nat.zero_le _, rfl, rfl, rfl, by decide, rfl, Below.refl _ _⟩
    case round =>
      obtain ⟨i, S, hi, rfl, rfl, rfl, hS, HS, HB⟩ := hrel
      have HT1 : Hid (Tab wr) := HT0.out.below HB.out
      by_cases hlt : i < len
      · have hil : i < ss.length := by rw [HL.out]; exact hlt
        obtain ⟨b, off, rfl, hbl, hc⟩ := HV.out.row.cell i hil
        have hxs := hsm.out ss[i] (List.getElem_mem _)
        obtain ⟨x, hx⟩ : ∃ x, ss[i] = x := ⟨_, rfl⟩
        rw [hx] at hc hxs
        obtain ⟨F, hF⟩ : ∃ F, str (fr x.data.toList) = F := ⟨_, rfl⟩
        have hFs : F.size = x.size + 8 := by rw [← hF, str_size, fr_len, ← size_len]; omega
        have HFS := Lib.hid hFs
        have HE : Hid ((S ++ F).data.toList = frs (ss.take (i + 1))) := by show _ = _; rw [frs_snoc ss i hil, hx, ByteArray.data_append, Array.toList_append, HS.out, ← hF]; rfl
        have hSF : S.size + F.size ≤ 722 := by
          have h1 := frs_le ss (i + 1)
          rw [← HE.out, ← size_len, ByteArray.size_append] at h1
          have := hfl.out
          omega
        have HSZ : Hid ((S ++ F).size = S.size + F.size) := ByteArray.size_append
        have hcw := (HB.out.cell (p := ⟨b, off + i, none⟩) hbl).trans hc
        have HC := Lib.hid hc
        have KP := Lib.hid (fun W hW => Put_at x F (by omega) W hW hF)
        have KC := Lib.hid (fun k hk W hW => Cut_part x F k (by omega) hF hk W hW)
        have KZ := Lib.hid (fun W => Size_any x (by omega) W)
        have hne : ((F.size : Int) != 8 + (x.size : Int)) = false := by rw [hFs, bne_eq_false_iff_eq]; omega
        clear hx hF hc hFs
        go_wp2_with fail
        refine (KP.out _ HT1).mono ?_
        rintro e w1 ⟨rfl, hb⟩
        have HB1 := Lib.hid (HB.out.trans (hb.mono HB.out.size))
        have HT2 : Hid (Tab w1) := HT1.out.below hb
        have hc1 := (HB1.out.cell (p := ⟨b, off + i, none⟩) hbl).trans HC.out
        clear hb HB HT1 hcw
        go_wp2_with (go_at_call 10; refine (KZ.out _).mono ?_; rintro e w2 ⟨rfl, rfl⟩)
        clear hne hc1
        go_loopw [10] (fun kv v => ∃ k : Nat, k ≤ F.size ∧ kv = .int .i64 k ∧ Hid (Below w.heap.size w v)) (fun kv _ => F.size - (intOf kv).toNat)
        case atStart => exact ⟨0, Nat.zero_le _, rfl, HB1⟩
        case round =>
          clear HB1 HT2
          obtain ⟨k, hk, rfl, HB2⟩ := hrel
          by_cases hkl : k < F.size
          · have HT3 : Hid (Tab wr) := HT0.out.below HB2.out
            go_wp2_with fail
            refine (KC.out k hkl _ HT3).mono ?_
            rintro e w3 ⟨rfl, hb⟩
            have HB3 := Lib.hid (HB2.out.trans (hb.mono HB2.out.size))
            clear hb HB2 HT3
            go_wp2_with fail
            go_roundw
            case rel => exact ⟨k + 1, by omega, by go_num, HB3⟩
            case measure => simp [intOf]; omega
          · have hc2 := (HB2.out.cell (p := ⟨b, off + i, none⟩) hbl).trans HC.out
            go_wp2_with (go_at_call 10; refine (KZ.out _).mono ?_; rintro e w2 ⟨rfl, rfl⟩)
            clear hc2
            go_roundw
            case rel => exact ⟨i + 1, S ++ F, by omega, by go_num, rfl, by congr 1; have := HSZ.out; have := HFS.out; omega, by have := HSZ.out; omega, HE, HB2⟩
            case measure => simp [intOf]; omega
      · have hie : ss.take i = ss := List.take_of_length_le (by rw [HL.out]; omega)
        rw [hie] at HS
        have hz : S.size = (frs ss).length := by rw [size_len, HS.out]
        have HSC : Hid (sc S.data.toList = (ss, S.size, 0)) := by show _ = _; rw [hz, HS.out]; exact sc_frs ss (fun x hx => Nat.le_trans (hsm.out x hx) (by decide))
        have KS := Lib.hid (fun W hW => Scan_any S (by omega) W hW ss S.size 0 HSC)
        clear hie hz
        go_wp2_with fail
        refine (KS.out _ HT1).mono ?_
        rintro e w3 ⟨A3, cap3, rfl, _, hb⟩
        have HB3 := Lib.hid (HB.out.trans (hb.mono HB.out.size))
        have HT3 : Hid (Tab w3) := HT1.out.below hb
        clear hb HB HT1
        go_wp2_with (go_at_call 8; refine (works_any _ HT3).mono ?_; rintro e w' ⟨rfl, hb⟩)
        go_ret
        exact ⟨rfl, HB3.out.trans (hb.mono HB3.out.size)⟩
end Go.Proofs.YtjjhgfbemfbplaaDoor.frameShort
