/-
  DiskRoom, the walk, over any disk ('Door').
-/
import Derived.Test.YtaiifelkbajaoaaDWorks
import Derived.OpenShut
import Derived.Lib.QuietBelow
import Derived.Laws.Cover1
import Derived.Sort.Walk0
import Derived.Lib.Strings
namespace Go.Proofs.Ytaiifelkbajaoaa.diskRoom
open Go.RowKit Go.ChangeShapes Go.WideShapes

set_option maxRecDepth 100000 in
set_option maxHeartbeats 1000000 in
theorem walk_n {D : Disks} (hD : Door D) (room : Nat) (hr : room < 65536) (A : Option Addr) (len cap : Nat) (l : List SV) (w : World) (hv : StepsView w A len cap l) :
    Calls Try.prog 5 #[.int .u16 room, .slice A len cap] w fun e w' => e = .returned (.bool true) ∧ Below w.heap.size w w' := by
  have HD := Lib.hid hD
  have HV := Lib.hid hv
  have HL := Lib.hid hv.length
  have hfew := hv.few
  clear hD hv
  go_enter Try.func5, Try.ntmps5
  go_wp2_with fail
  refine (Heavy_any A len cap l w HV).mono ?_
  rintro e w1 ⟨bv, rfl, hb, hd⟩
  have HW1 := Lib.hid (of_drewN (B := w.heap.size) hd)
  cases bv with
  | true =>
    clear hb hd
    go_wp2_with fail
    refine (works_any HD.out _).mono ?_
    rintro e w2 ⟨rfl, hb2⟩
    have HB := Lib.hid (HW1.out.trans (hb2.mono HW1.out.size))
    clear hb2
    go_wp2_with fail
    go_ret
    exact ⟨rfl, HB.out⟩
  | false =>
    obtain ⟨hl200, hbulk⟩ := hb rfl
    have HBK := Lib.hid hbulk
    clear hb hd hbulk
    go_wp2_with fail
    refine (new_at HD.out HW1.out room (by omega)).mono ?_
    rintro e w2 ⟨g, rfl, hm, _⟩
    have M2 := Lib.hid hm
    clear hm
    go_wp2_with fail
    go_loopw [7] (fun iv wr => ∃ (i : Nat) (σ : Dsk), i ≤ len ∧ iv = .int .i64 i ∧ Hid (Mine D w wr g σ) ∧ Hid (σ.room = room)) (fun iv _ => len - (intOf iv).toNat)
    case atStart => exact ⟨0, _, Nat.zero_le _, rfl, M2, rfl⟩
    case round =>
      clear M2
      obtain ⟨i, σ, hi, rfl, HM, HR⟩ := hrel
      by_cases hlt : i < len
      · have hil : i < l.length := by rw [HL.out]; exact hlt
        obtain ⟨b, off, rfl, hat⟩ := HV.out.cell i hil
        have hok := HV.out.ok l[i] (List.getElem_mem _)
        obtain ⟨s, hs⟩ : ∃ s, l[i] = s := ⟨_, rfl⟩
        rw [hs] at hat hok
        have hat2 := hat.below HM.out.bel
        have d0 := hat2.c0
        have d1 := hat2.c1
        have d2 := hat2.c2
        have d3 := hat2.c3
        have d4 := hat2.c4
        have d5 := hat2.c5
        have HOK := Lib.hid (hok.below HM.out.bel)
        clear hs hat hat2 hok
        go_wp2_with fail
        have K := does_at HD.out s HM HOK
        obtain ⟨r, hr2⟩ : ∃ r, stp σ s.stp = r := ⟨_, rfl⟩
        have hroom := stp_room σ s.stp
        rw [hr2] at K hroom
        obtain ⟨τ, er⟩ := r
        have HR2 : Hid (τ.room = room) := hroom.trans HR.out
        refine K.mono ?_
        rintro e w3 ⟨rfl, hm⟩
        have HM3 := Lib.hid hm
        have HI := Lib.hid (hm.inv HD.out)
        clear hm K hr2 hroom HM HR d0 d1 d2 d3 d4 d5 HOK
        go_wp2_with fail
        obtain ⟨ns, hns⟩ : ∃ ns, names τ.fs = ns := ⟨_, rfl⟩
        have K := names_at HD.out HM3.out
        rw [hns] at K
        have HNS := Lib.hid hns
        refine K.mono ?_
        rintro e w4 ⟨A2, c2, rfl, hst, hb, _⟩
        have HM4 := Lib.hid (HM3.out.below HD.out hb)
        have HS4 := Lib.hid hst
        have hfewn : ns.length ≤ 16 := by rw [← hns]; simpa [names] using HI.out.few
        clear hb hst K HM3 hns
        go_wp2_with fail
        go_loopw [9, 10] (fun nv kv v => ∃ k n : Nat, k ≤ ns.length ∧ kv = .int .i64 k ∧ nv = .int .i64 n ∧ n ≤ 4194304 ∧ Hid (n = used (τ.fs.take k)) ∧ Hid (Mine D w v g τ) ∧ Hid (Strs v A2 ns.length ns)) (fun _ kv _ => ns.length - (intOf kv).toNat)
        case atStart => exact ⟨0, 0, Nat.zero_le _, rfl, rfl, by omega, by show _ = _; simp [used], HM4, HS4⟩
        case round =>
          clear HM4 HS4
          obtain ⟨k, n, hk, rfl, rfl, hn, HN, HM, HS⟩ := hrel
          by_cases hkl : k < ns.length
          · obtain ⟨b2, o2, rfl, hl2, e2⟩ := HS.out.cell k hkl
            obtain ⟨N, hN⟩ : ∃ N, ns[k] = N := ⟨_, rfl⟩
            obtain ⟨f, hf1, hf2⟩ := HI.out.nth k (by rw [HNS.out]; exact hkl)
            have hf1' : get τ.fs N = some f := by rw [← hN]; simpa [HNS.out] using hf1
            rw [hN] at e2
            have hu := used_take τ.fs (k + 1)
            have hq := HI.out.room
            have hq2 := HI.out.most
            obtain ⟨T, hT⟩ : ∃ T, f.text = T := ⟨_, rfl⟩
            rw [hf2, ← HN.out, hT] at hu
            have hTs : n + T.size ≤ 4194304 := by omega
            have HE : Hid (n + T.size = used (τ.fs.take (k + 1))) := by show _ = _; rw [hf2, HN.out, hT]
            obtain ⟨lo, hlo⟩ : ∃ lo, f.loose = lo := ⟨_, rfl⟩
            have hll := (HI.out.get hf1').1
            rw [hlo, hT] at hll
            have g1 : textOf τ N = T := by simp [textOf, hf1', hT]
            have g2 : errOf τ N = 0 := by simp [errOf, hf1']
            have g3 : looseOf τ N = lo := by simp [looseOf, hf1', hlo]
            have hNz : N.size ≤ many := Nat.le_trans (HI.out.name (n := N) (by rw [HNS.out, ← hN]; exact List.getElem_mem _)) (by decide)
            have HNZ := Lib.hid hNz
            have G1 := Lib.hid g1
            have G2 := Lib.hid g2
            have G3 := Lib.hid g3
            clear hf1 hf2 hu hq hq2 hT hlo g1 g2 g3
            clear hNz
            go_wp2_with fail
            have K := read_at HD.out HM.out N HNZ.out
            rw [G1.out, G2.out] at K
            refine K.mono ?_
            rintro e w5 ⟨rfl, hb⟩
            have HM5 := Lib.hid (HM.out.below HD.out hb)
            have HS5 := Lib.hid (HS.out.below hb)
            clear hb K HM HS
            go_wp2_with fail
            have hc := fun d os => cell_regrown (w := w5) (a := ⟨b2, o2 + k, none⟩) (v := .string N) (by
              obtain ⟨b3, o3, e3, _, hc3⟩ := HS5.out.cell k hkl
              cases e3
              rw [hc3, hN]) d os
            have kl := fun d os => loose_at HD.out (HM5.out.below HD.out (below_regrown w5 d os)) N HNZ.out
            simp only [G3.out] at kl
            have KL := Lib.hid kl
            have t1 : decide ((lo : Int) < 0) = false := by rw [decide_eq_false_iff_not]; omega
            have t2 : decide ((T.size : Int) < lo) = false := by rw [decide_eq_false_iff_not]; omega
            clear kl
            by_cases k0 : k = 0
            · subst k0
              simp only [Nat.add_zero] at hc
              refine wp_region_quiet_below (by kernel_rfl) (by kernel_rfl) ?_
              repeat (go_big_quiet_step ((go_at_call 14; exact Calls.regrown_of (KL.out _ _))))
              refine wpQuiet_nil ?_
              intro w6 hw'
              obtain ⟨⟨dq, osq⟩, hw''⟩ := hw'
              have HM6 : Hid (Mine D w w6 g τ) := by rw [hw'']; exact HM5.out.below HD.out (below_regrown w5 dq osq)
              have HS6 : Hid (Strs w6 (some ⟨b2, o2, none⟩) ns.length ns) := by rw [hw'']; exact HS5.out.below (below_regrown w5 dq osq)
              clear hw'' KL HM5 HS5 hc
              go_wp2_with fail
              go_roundw
              case rel => exact ⟨0 + 1, n + T.size, by omega, by go_num, by go_num, by omega, HE, HM6, HS6⟩
              case measure => simp [intOf]; omega
            · have hc0 := fun d os => cell_regrown (w := w5) (a := ⟨b2, o2 + (k - 1), none⟩) (v := .string ns[k - 1]) (by
                obtain ⟨b3, o3, e3, _, hc3⟩ := HS5.out.cell (k - 1) (by omega)
                cases e3
                exact hc3) d os
              obtain ⟨M, hM⟩ : ∃ M, ns[k - 1] = M := ⟨_, rfl⟩
              rw [hM] at hc0
              have hlt2 : Op.bytesLess M.toList N.toList = true := by
                have h := HI.out.rise (k - 1) k (by omega) (by rw [HNS.out]; exact hkl)
                simp only [HNS.out, hM, hN] at h
                rw [Proofs.bytesLess_eq, Lib.toList_data, Lib.toList_data, decide_eq_true_iff]
                exact h
              clear hM
              have k1 : 1 ≤ k := by omega
              have k2 : (1 : Int) ≤ k := by omega
              have k4 : decide ((0 : Int) < k) = true := by rw [decide_eq_true_iff]; omega
              have k9 : decide (0 < k) = true := by rw [decide_eq_true_iff]; omega
              have k5 : ((k : Int) - 1).toNat = k - 1 := by omega
              have k6 : (k : Int) - 1 < ns.length := by omega
              have k7 : (0 : Int) ≤ (k : Int) - 1 := by omega
              have k8 : k - 1 < ns.length := by omega
              refine wp_region_quiet_below (by kernel_rfl) (by kernel_rfl) ?_
              repeat (go_big_quiet_step ((go_at_call 14; exact Calls.regrown_of (KL.out _ _))))
              refine wpQuiet_nil ?_
              intro w6 hw'
              obtain ⟨⟨dq, osq⟩, hw''⟩ := hw'
              have HM6 : Hid (Mine D w w6 g τ) := by rw [hw'']; exact HM5.out.below HD.out (below_regrown w5 dq osq)
              have HS6 : Hid (Strs w6 (some ⟨b2, o2, none⟩) ns.length ns) := by rw [hw'']; exact HS5.out.below (below_regrown w5 dq osq)
              clear hw'' KL hc0 HM5 HS5 hc
              go_wp2_with fail
              go_roundw
              case rel => exact ⟨k + 1, n + T.size, by omega, by go_num, by go_num, by omega, HE, HM6, HS6⟩
              case measure => simp [intOf]; omega
          · have hnl : (names τ.fs).length = τ.fs.length := by simp [names]
            rw [HNS.out] at hnl
            have hke : τ.fs.take k = τ.fs := List.take_of_length_le (by omega)
            clear hnl
            rw [hke] at HN
            obtain ⟨R, hR⟩ : ∃ R, τ.room - used τ.fs = R := ⟨_, rfl⟩
            have hq := HI.out.room
            have hsum : n + R = room := by rw [← hR, HN.out, HR2.out]; have := HR2.out; omega
            have kr := fun (W : World) (hW : Mine D w W g τ) => room_at HD.out hW
            simp only [hR] at kr
            have KR := Lib.hid kr
            have t1 : ((n : Int) + (R : Int) != (room : Int)) = false := by rw [bne_eq_false_iff_eq]; omega
            have t2 : decide ((R : Int) < 0) = false := by rw [decide_eq_false_iff_not]; omega
            have t3 : decide (16 < (ns.length : Int)) = false := by rw [decide_eq_false_iff_not]; omega
            have hRb : R ≤ 65535 := by omega
            clear hke hR hq kr hsum HN HS
            go_wp2_with fail
            refine (KR.out _ HM.out).mono ?_
            rintro e w5 ⟨rfl, hb⟩
            have HM5 := Lib.hid (HM.out.below HD.out hb)
            clear hb HM
            go_wp2_with fail
            refine (KR.out _ HM5.out).mono ?_
            rintro e w6 ⟨rfl, hb⟩
            have HM6 := Lib.hid (HM5.out.below HD.out hb)
            clear hb HM5 KR
            go_wp2_with fail
            go_roundw
            case rel => exact ⟨i + 1, τ, by omega, by go_num, HM6, HR2⟩
            case measure => simp [intOf]; omega
      · go_wp2_with fail
        refine (works_any HD.out _).mono ?_
        rintro e w5 ⟨rfl, hb⟩
        have HB5 := Lib.hid (HM.out.bel.trans (hb.mono HM.out.bel.size))
        clear hb
        go_wp2_with fail
        go_ret
        exact ⟨rfl, HB5.out⟩

theorem walk {D : Disks} (hD : Door D) (room : Int) (A : Option Addr) (len cap : Nat) (l : List SV) (w : World) (hr : (Lit.int .u16 room).wf = true) (hv : StepsView w A len cap l) :
    Calls Try.prog 5 #[.int .u16 room, .slice A len cap] w fun e w' => e = .returned (.bool true) ∧ Below w.heap.size w w' := by
  have h1 := bounds_u16 hr
  obtain ⟨room, rfl⟩ := Int.eq_ofNat_of_zero_le h1.1
  exact walk_n hD room (by omega) A len cap l w hv

end Go.Proofs.Ytaiifelkbajaoaa.diskRoom
