/-
  DiskKeeps, the walk, over any disk ('Door').
-/
import Derived.Test.YtaiifelkbajaoaaDTwo
import Derived.OpenShut
import Derived.Lib.Strings
namespace Go.Proofs.Ytaiifelkbajaoaa.diskKeeps
open Go.RowKit Go.ChangeShapes Go.WideShapes

def texts (σ : Dsk) (k : Nat) : List ByteArray := (σ.fs.take k).map (·.2.text)
def looses (σ : Dsk) (k : Nat) : List Int := (σ.fs.take k).map (fun p => (p.2.loose : Int))
theorem texts_snoc (σ : Dsk) (k : Nat) (h : k < σ.fs.length) : texts σ k ++ [σ.fs[k].2.text] = texts σ (k + 1) := by rw [texts, texts, List.take_succ_eq_append_getElem h, List.map_append]; rfl
theorem looses_snoc (σ : Dsk) (k : Nat) (h : k < σ.fs.length) : looses σ k ++ [(σ.fs[k].2.loose : Int)] = looses σ (k + 1) := by rw [looses, looses, List.take_succ_eq_append_getElem h, List.map_append]; rfl
theorem nth_get {σ : Dsk} (h : Inv σ) (k : Nat) (hk : k < σ.fs.length) : get σ.fs σ.fs[k].1 = some σ.fs[k].2 := get_of_mem h.srt (List.getElem_mem hk)

theorem used_mem : ∀ {fs : List (ByteArray × Fil)} {p : ByteArray × Fil}, p ∈ fs → p.2.text.size ≤ used fs
  | q :: r, p, h => by
    simp only [used, List.map_cons, List.sum_cons]
    rcases List.mem_cons.1 h with rfl | h
    · omega
    · have := used_mem h
      rw [used] at this
      omega

set_option maxRecDepth 100000 in
set_option maxHeartbeats 2000000 in
theorem walk_any {D : Disks} (hD : Door D) (A : Option Addr) (len cap : Nat) (l : List SV) (A1 : Option Addr) (l1 c1 : Nat) (Z1 : List Int) (w : World) (hv : StepsView w A len cap l) (hv1 : SliceView w .i64 A1 l1 c1 Z1) :
    Calls Try.prog 3 #[.slice A len cap, .slice A1 l1 c1] w fun e w' => e = .returned (.bool true) ∧ Below w.heap.size w w' := by
  have HD := Lib.hid hD
  have HV := Lib.hid hv
  have HV1 := Lib.hid hv1
  have HL := Lib.hid hv.length
  have hfew := hv.few
  have hfew1 : l1 ≤ maxLen := Nat.le_trans hv1.2.1 hv1.2.2.1
  unfold maxLen at hfew1
  clear hD hv hv1
  go_enter Try.func3, Try.ntmps3
  go_wp2_with fail
  refine (Heavy_any A len cap l w HV).mono ?_
  rintro e w1 ⟨bv, rfl, hb, hd⟩
  have HW1 := Lib.hid (of_drewN (B := w.heap.size) hd)
  cases bv with
  | true =>
    clear hb hd
    go_wp2_with fail
    refine (works_any HD.out _).mono ?_
    rintro e w2 ⟨rfl, hb2⟩
    have HB := Lib.hid (HW1.out.trans (hb2.mono HW1.out.size))
    clear hb2
    go_wp2_with fail
    go_ret
    exact ⟨rfl, HB.out⟩
  | false =>
    by_cases hl1 : 100 < l1
    · have dl : decide (100 < (l1 : Int)) = true := by rw [decide_eq_true_iff]; omega
      clear hb hd
      go_wp2_with fail
      refine (works_any HD.out _).mono ?_
      rintro e w2 ⟨rfl, hb2⟩
      have HB := Lib.hid (HW1.out.trans (hb2.mono HW1.out.size))
      clear hb2
      go_wp2_with fail
      go_ret
      exact ⟨rfl, HB.out⟩
    have dl : decide (100 < (l1 : Int)) = false := by rw [decide_eq_false_iff_not]; omega
    obtain ⟨hl200, hbulk⟩ := hb rfl
    clear hb hd hbulk
    go_wp2_with fail
    refine (new_at HD.out HW1.out 4096 (by decide)).mono ?_
    rintro e w2 ⟨g, rfl, hm, _⟩
    have M2 := Lib.hid hm
    clear hm
    go_wp2_with fail
    go_loopw [7] (fun iv wr => ∃ (i : Nat) (σ : Dsk), i ≤ len ∧ iv = .int .i64 i ∧ Hid (Mine D w wr g σ)) (fun iv _ => len - (intOf iv).toNat)
    case atStart => exact ⟨0, _, Nat.zero_le _, rfl, M2⟩
    case round =>
      clear M2
      obtain ⟨i, σ, hi, rfl, HM⟩ := hrel
      by_cases hlt : i < len
      · have hil : i < l.length := by rw [HL.out]; exact hlt
        obtain ⟨b, off, rfl, hat⟩ := HV.out.cell i hil
        have hok := HV.out.ok l[i] (List.getElem_mem _)
        obtain ⟨s, hs⟩ : ∃ s, l[i] = s := ⟨_, rfl⟩
        rw [hs] at hat hok
        have hat2 := hat.below HM.out.bel
        have d0 := hat2.c0
        have d1 := hat2.c1
        have d2 := hat2.c2
        have d3 := hat2.c3
        have d4 := hat2.c4
        have d5 := hat2.c5
        have HOK := Lib.hid (hok.below HM.out.bel)
        clear hs hat hat2 hok
        by_cases h5 : s.what = 5
        · have q5 : (s.what != 5) = false := by rw [bne_eq_false_iff_eq]; exact h5
          have H5 := Lib.hid h5
          clear h5
          go_wp2_with fail
          go_roundw
          case rel => exact ⟨i + 1, σ, by omega, by go_num, HM⟩
          case measure => simp [intOf]; omega
        · have q5 : (s.what != 5) = true := by rw [bne_iff_ne]; exact h5
          have K := does_at HD.out s HM HOK
          obtain ⟨r, hr2⟩ : ∃ r, stp σ s.stp = r := ⟨_, rfl⟩
          rw [hr2] at K
          obtain ⟨τ, er⟩ := r
          have HK := Lib.hid K
          clear K hr2 h5
          go_wp2_with fail
          refine HK.out.mono ?_
          rintro e w3 ⟨rfl, hm⟩
          have HM3 := Lib.hid hm
          clear hm HK HM
          go_wp2_with fail
          go_roundw
          case rel => exact ⟨i + 1, τ, by omega, by go_num, HM3⟩
          case measure => simp [intOf]; omega
      · have HI := Lib.hid (HM.out.inv HD.out)
        obtain ⟨O, hd, hO, hb0⟩ := HM.out
        have HO := Lib.hid hO
        have HB0 := Lib.hid hb0
        obtain ⟨ns, hns⟩ : ∃ ns, names σ.fs = ns := ⟨_, rfl⟩
        have K := HD.out.names hd
        rw [hns] at K
        have HNS := Lib.hid hns
        have hnl : ns.length = σ.fs.length := by rw [← hns]; simp [names]
        have hfewn : ns.length ≤ 16 := by rw [hnl]; exact HI.out.few
        have HNL := Lib.hid hnl
        have HDd := Lib.hid hd
        have HOB := Lib.hid (HD.out.own hd)
        have HK := Lib.hid K
        clear hd hO hb0 hns K hnl HM
        go_wp2_with fail
        refine HK.out.mono ?_
        rintro e w4 ⟨A2, c2, rfl, hst, hb, hA2⟩
        have HD4 := Lib.hid (HD.out.below HDd.out hb)
        have HOB4 : Hid (∀ k, O k → k < w4.heap.size) := fun k hk => Nat.lt_of_lt_of_le (HOB.out k hk) hb.size
        have HB4 := Lib.hid (HB0.out.trans (hb.mono HB0.out.size))
        have HS4 := Lib.hid hst
        have HA2 : Hid (∀ ad, A2 = some ad → ¬ O ad.block) := fun ad e ho => by have := hA2 ad e; have := HOB.out _ ho; omega
        obtain ⟨B, hB⟩ : ∃ B, B = w4.heap.size := ⟨_, rfl⟩
        have HBB := Lib.hid hB
        have T0 : Hid (Two w4 B (.slice none 0 0) (texts σ 0) (.slice none 0 0) (looses σ 0)) := Two.start w4 B
        have B0 : Hid (Below B w4 w4) := Below.refl _ _
        clear hb hst hA2 HK HDd HB0 hB
        go_wp2_with fail
        go_loopw [9, 10, 11] (fun v1 v2 kv v => ∃ k : Nat, k ≤ ns.length ∧ kv = .int .i64 k ∧ Hid (Two v B v1 (texts σ k) v2 (looses σ k)) ∧ Hid (Below B w4 v)) (fun _ _ kv _ => ns.length - (intOf kv).toNat)
        case atStart => exact ⟨0, Nat.zero_le _, rfl, T0, B0⟩
        case round =>
          clear T0 B0
          obtain ⟨k, hk, rfl, HT, HB⟩ := hrel
          have HB' : Hid (Below w4.heap.size w4 wr) := by rw [HBB.out] at HB; exact HB
          have HBz : Hid (B ≤ wr.heap.size) := by show _ ≤ _; rw [HBB.out]; exact HB.out.size
          have HDr := Lib.hid (HD.out.below HD4.out HB'.out)
          have HSr := Lib.hid (HS4.out.below HB'.out)
          by_cases hkl : k < ns.length
          · obtain ⟨b2, o2, rfl, hl2, e2⟩ := HSr.out.cell k hkl
            have hkf : k < σ.fs.length := by rw [← HNL.out]; exact hkl
            obtain ⟨N, hN⟩ : ∃ N, ns[k] = N := ⟨_, rfl⟩
            have hN2 : σ.fs[k].1 = N := by rw [← hN]; simp [← HNS.out, names]
            have hg := nth_get HI.out k hkf
            obtain ⟨T, hT⟩ : ∃ T, σ.fs[k].2.text = T := ⟨_, rfl⟩
            obtain ⟨lo, hlo⟩ : ∃ lo, σ.fs[k].2.loose = lo := ⟨_, rfl⟩
            have htl := texts_snoc σ k hkf
            have hll := looses_snoc σ k hkf
            rw [hT] at htl
            rw [hlo] at hll
            rw [hN2] at hg
            rw [hN] at e2
            have HTL := Lib.hid htl
            have HLL := Lib.hid hll
            have HNZ : Hid (N.size ≤ many) := Nat.le_trans (HI.out.name (n := N) (by rw [HNS.out, ← hN]; exact List.getElem_mem _)) (by decide)
            have kr := fun (W : World) (hW : D O W g σ) => HD.out.read N hW HNZ.out
            have kl := fun (W : World) (hW : D O W g σ) => HD.out.loose N hW HNZ.out
            have g1 : textOf σ N = T := by simp [textOf, hg, hT]
            have g2 : errOf σ N = 0 := by simp [errOf, hg]
            have g3 : looseOf σ N = lo := by simp [looseOf, hg, hlo]
            simp only [g1, g2] at kr
            simp only [g3] at kl
            have KR := Lib.hid kr
            have KL := Lib.hid kl
            have HN := Lib.hid hN
            have htn : (texts σ k).length ≤ 1000000 := by simp [texts]; omega
            have hln : (looses σ k).length ≤ 1000000 := by simp [looses]; omega
            clear hkf hN2 hg hT hlo htl hll kr kl g1 g2 g3 hN
            go_wp2_with fail
            refine (KR.out _ HDr.out).mono ?_
            rintro e w5 ⟨rfl, hb⟩
            have HT5 := Lib.hid (HT.out.below hb)
            have HB5 := Lib.hid (HB.out.trans (hb.mono HBz.out))
            have HBz5 : Hid (B ≤ w5.heap.size) := Nat.le_trans HBz.out hb.size
            clear hb HT HB HB' HBz HDr HSr e2 hl2
            go_wp2_with (at_builtin
                         refine wpList_text_at (by rfl) (.tmp 71) (.tmp 73) (by rfl) w5 T B HBz5.out _ (texts σ k) (by rfl) HT5.out.one htn (by rfl) rfl ?_
                         intro v' w6 hown hg6 hloc
                         rw [HTL.out] at hown
                         have HT6 := Lib.hid (HT5.out.text hown hg6 hloc)
                         have HB6 := Lib.hid (grown_below HB5.out HT5.out.one HBz5.out hg6)
                         have HBz6 : Hid (B ≤ w6.heap.size) := Nat.le_trans HBz5.out hg6.size
                         clear hown hg6 hloc HT5 HB5 HBz5
                         have HB6' : Hid (Below w4.heap.size w4 w6) := by have h := HB6.out; rw [HBB.out] at h; exact h
                         have HD6 := Lib.hid (HD.out.below HD4.out HB6'.out)
                         have e6 : w6.cell? ⟨b2, o2 + k, none⟩ = some (.string N) := by
                           obtain ⟨b3, o3, e3, _, hc3⟩ := (HS4.out.below HB6'.out).cell k hkl
                           cases e3
                           rw [hc3, HN.out])
            refine (KL.out _ HD6.out).mono ?_
            rintro e w7 ⟨rfl, hb⟩
            have HT7 := Lib.hid (HT6.out.below hb)
            have HB7 := Lib.hid (HB6.out.trans (hb.mono HBz6.out))
            have HBz7 : Hid (B ≤ w7.heap.size) := Nat.le_trans HBz6.out hb.size
            clear hb HT6 HB6 HB6' HBz6 HD6 e6
            go_wp2_with (at_builtin; refine wpList_int_at (by rfl) (.tmp 75) (.tmp 82) (by rfl) w7 (lo : Int) B HBz7.out _ (looses σ k) (by rfl) HT7.out.two hln (by rfl) rfl ?_; intro v2' w8 hown hg8 hloc)
            rw [HLL.out] at hown
            have HT8 := Lib.hid (HT7.out.int hown hg8 hloc)
            have HB8 := Lib.hid (grown_below HB7.out HT7.out.two HBz7.out hg8)
            clear hown hg8 hloc HT7 HB7 HBz7
            go_wp2_with fail
            go_roundw
            case rel => exact ⟨k + 1, by omega, by go_num, HT8, HB8⟩
            case measure => simp [intOf]; omega
          · have hke : k = ns.length := by omega
            have hTl : (texts σ k).length = ns.length := by rw [hke, HNL.out]; simp [texts]
            have hZl : (looses σ k).length = ns.length := by rw [hke, HNL.out]; simp [looses]
            have h1 := HT.out.one
            have h2 := HT.out.two
            rw [hTl] at h1
            rw [hZl] at h2
            obtain ⟨A9, c9, rfl, hs9, hf9⟩ := owns_strs h1 hTl
            obtain ⟨A10, c10, rfl, hs10, hf10⟩ := owns_ends h2 hZl
            obtain ⟨TS, hTS⟩ : ∃ TS, texts σ k = TS := ⟨_, rfl⟩
            obtain ⟨ZS, hZS⟩ : ∃ ZS, looses σ k = ZS := ⟨_, rfl⟩
            rw [hTS] at hs9
            rw [hZS] at hs10
            have HTS : Hid (∀ j (hj : j < σ.fs.length) (hj2 : j < TS.length), TS[j] = σ.fs[j].2.text) := fun j hj hj2 => by simp [← hTS, texts]
            have HZS : Hid (∀ j (hj : j < σ.fs.length) (hj2 : j < ZS.length), ZS[j] = (σ.fs[j].2.loose : Int)) := fun j hj hj2 => by simp [← hZS, looses]
            have HS9 := Lib.hid hs9
            have HS10 := Lib.hid hs10
            have HF9 := Lib.hid hf9
            have HF10 := Lib.hid hf10
            have HBw := Lib.hid (HB4.out.trans (HB'.out.mono HB4.out.size))
            have HV1r := Lib.hid (HV1.out.below HBw.out)
            have hfk : l1 * 8 ≤ many := by unfold many; omega
            obtain ⟨υ, hυ⟩ : ∃ υ : Dsk, (⟨σ.room, none, crs σ.fs Z1⟩ : Dsk) = υ := ⟨_, rfl⟩
            have HU := Lib.hid hυ
            have HKK : Hid (k = ns.length) := hke
            clear hke hTl hZl h1 h2 hs9 hs10 hf9 hf10 hTS hZS HT hυ
            go_wp2_with (at_builtin; refine wpList_copy_ints (by rfl) (.const (.slice none 0 0)) (.tmp 85) (by rfl) (by rfl) A1 l1 c1 Z1 (by rfl) HV1r.out hfk ?_; intro A' cap' w5 HS5 HB5 HN5)
            have HD5 := Lib.hid (HD.out.below HDr.out HB5.out)
            refine (HD.out.crash A' l1 cap' Z1 HD5.out HS5.out (fun a ha ho => by have h1 := HD.out.own HDr.out _ ho; have h2 := HN5.out a ha; omega) hfk).mono ?_
            rintro e w6 ⟨rfl, O', hd6, ho6, hO6⟩
            have HBw5 := Lib.hid (HBw.out.trans (HB5.out.mono HBw.out.size))
            have hsz6 := ho6.size
            have hne2 : ∀ ad, A2 = some ad → ¬ O ad.block := HA2.out
            have hOB : ∀ j, O j → j < B := fun j hj => by rw [HBB.out]; exact HOB4.out j hj
            have HM6 : Hid (Mine D w w6 g υ) := by
              refine ⟨O', ?_, fun j hj => ?_, HBw5.out.trans (ho6.below HO.out HBw5.out.size)⟩
              · have h := hd6
                simp only [crash, HU.out] at h
                exact h
              · rcases hO6 j hj with h | h
                · exact HO.out j h
                · exact Nat.le_trans HBw5.out.size h
            have HS6 : Hid (Strs w6 A2 ns.length ns) := (HSr.out.below HB5.out).kept hsz6 (fun ad e hl => ho6.block _ hl (hne2 ad e))
            have HT6 : Hid (Strs w6 A9 ns.length TS) := (HS9.out.below HB5.out).kept hsz6 (fun ad e hl => ho6.block _ hl (fun h => by have h1 := HF9.out ad e; have h2 := hOB _ h; omega))
            have HE6 : Hid (EndR w6 A10 ns.length ZS) := (HS10.out.below HB5.out).kept hsz6 (fun ad e hl => ho6.block _ hl (fun h => by have h1 := HF10.out ad e; have h2 := hOB _ h; omega))
            clear hd6 ho6 hO6 hsz6 hne2 hOB HS5 HB5 HD5 HBw HBw5 HV1r HDr HSr HS9 HS10 HF9 HF10 HB HB' HD4 HS4 HB4
            have e0 : (crash σ Z1).2 = 0 := rfl
            rw [e0]
            clear e0
            go_wp2_with fail
            go_loopw [14] (fun kv v => ∃ j : Nat, j ≤ ns.length ∧ kv = .int .i64 j ∧ Hid (Mine D w v g υ) ∧ Hid (Strs v A2 ns.length ns) ∧ Hid (Strs v A9 ns.length TS) ∧ Hid (EndR v A10 ns.length ZS)) (fun kv _ => ns.length - (intOf kv).toNat)
            case atStart => exact ⟨0, Nat.zero_le _, rfl, HM6, HS6, HT6, HE6⟩
            case round =>
              clear HM6 HS6 HT6 HE6
              obtain ⟨j, hj, rfl, HM, HS, HT, HE⟩ := hrel
              by_cases hjl : j < ns.length
              · have hjf : j < σ.fs.length := by rw [← HNL.out]; exact hjl
                have hjT : j < TS.length := by rw [HT.out.len]; exact hjl
                have hjZ : j < ZS.length := by rw [HE.out.len]; exact hjl
                obtain ⟨b2, o2, rfl, hl2, e2⟩ := HS.out.cell j hjl
                obtain ⟨b9, o9, rfl, hl9, e9⟩ := HT.out.cell j hjT
                obtain ⟨b10, rfl, hl10, e10⟩ := HE.out.cell j hjZ
                rw [HTS.out j hjf hjT] at e9
                rw [HZS.out j hjf hjZ] at e10
                obtain ⟨N, hN⟩ : ∃ N, ns[j] = N := ⟨_, rfl⟩
                have hN2 : σ.fs[j].1 = N := by rw [← hN]; simp [← HNS.out, names]
                have hg := nth_get HI.out j hjf
                have hu := used_mem (List.getElem_mem hjf)
                rw [hN2] at hg
                rw [hN] at e2
                obtain ⟨f, hf⟩ : ∃ f, σ.fs[j].2 = f := ⟨_, rfl⟩
                rw [hf] at e9 e10 hg hu
                have HNZ : Hid (N.size ≤ many) := Nat.le_trans (HI.out.name (n := N) (by rw [HNS.out, ← hN]; exact List.getElem_mem _)) (by decide)
                have hll := HI.out.get hg
                have hroom := HI.out.room
                have hmost := HI.out.most
                have hcrs := get_crs HI.out.srt hg hll.1 Z1
                have hfs : crs σ.fs Z1 = υ.fs := by rw [← HU.out]
                rw [hfs] at hcrs
                obtain ⟨T, hT⟩ : ∃ T, f.text = T := ⟨_, rfl⟩
                obtain ⟨lo, hlo⟩ : ∃ lo, f.loose = lo := ⟨_, rfl⟩
                rw [hT] at e9 hu hcrs
                rw [hlo] at e10 hcrs
                rw [hT, hlo] at hll
                have hTs : T.size ≤ 4194304 := by omega
                have hlT : lo ≤ T.size := hll.1
                have kr := fun (W : World) (hW : Mine D w W g υ) => read_at HD.out hW N HNZ.out
                have kl := fun (W : World) (hW : Mine D w W g υ) => loose_at HD.out hW N HNZ.out
                rcases hcrs with ⟨hn, hfr⟩ | ⟨f2, hg2, hlo2, m2, hm1, hm2, htx⟩
                · have hz : ((T.size : Int) - (lo : Int) == 0) = true := by rw [beq_iff_eq]; have := hll.2 hfr; omega
                  have g1 : textOf υ N = ⟨#[]⟩ := by simp [textOf, hn]
                  have g2 : errOf υ N = 5 := by simp [errOf, hn]
                  simp only [g1, g2] at kr
                  have KR := Lib.hid kr
                  clear hjf hjT hjZ hN hN2 hg hu hf hll hroom hmost hfs hT hlo kr kl hn hfr g1 g2
                  go_wp2_with fail
                  refine (KR.out _ HM.out).mono ?_
                  rintro e w7 ⟨rfl, hb⟩
                  have HM7 := Lib.hid (HM.out.below HD.out hb)
                  have HS7 := Lib.hid (HS.out.below hb)
                  have HT7 := Lib.hid (HT.out.below hb)
                  have HE7 := Lib.hid (HE.out.below hb)
                  have d9 : w7.cell? ⟨b9, o9 + j, none⟩ = some (.string T) := (hb.cell (p := ⟨b9, o9 + j, none⟩) hl9).trans e9
                  have d10 : w7.cell? ⟨b10, j, none⟩ = some (.int .i64 (lo : Nat)) := (hb.cell (p := ⟨b10, j, none⟩) hl10).trans e10
                  clear hb HM HS HT HE e2 e9 e10 hl2 hl9 hl10 KR
                  go_wp2_with fail
                  go_quiet (fail)
                  go_wp2_with fail
                  go_roundw
                  case rel => exact ⟨j + 1, by omega, by go_num, HM7.out.below HD.out (of_drewN ⟨nq, rfl⟩), HS7.out.below (of_drewN ⟨nq, rfl⟩), HT7.out.below (of_drewN ⟨nq, rfl⟩), HE7.out.below (of_drewN ⟨nq, rfl⟩)⟩
                  case measure => simp [intOf]; omega
                · obtain ⟨S, hS⟩ : ∃ S, f2.text = S := ⟨_, rfl⟩
                  rw [hS] at htx
                  have hSs : S.size = m2 := by rw [htx, ByteArray.size_extract]; omega
                  have hx : T.extract 0 S.size = S := by rw [hSs, ← htx]
                  have g1 : textOf υ N = S := by simp [textOf, hg2, hS]
                  have g2 : errOf υ N = 0 := by simp [errOf, hg2]
                  have g3 : looseOf υ N = 0 := by simp [looseOf, hg2, hlo2]
                  have s1 : S.size ≤ T.size := by omega
                  have s2 : T.size - lo ≤ S.size := by omega
                  have t1 : decide ((S.size : Int) < (T.size : Int) - (lo : Int)) = false := by rw [decide_eq_false_iff_not]; omega
                  have t2 : decide ((T.size : Int) < (S.size : Int)) = false := by rw [decide_eq_false_iff_not]; omega
                  have t3 : decide (T.size < S.size) = false := by rw [decide_eq_false_iff_not]; omega
                  have s3 : (S.size : Int) ≤ T.size := by omega
                  simp only [g1, g2] at kr
                  simp only [g3] at kl
                  have KR := Lib.hid kr
                  have KL := Lib.hid kl
                  clear hjf hjT hjZ hN hN2 hg hu hf hll hroom hmost hfs hT hlo kr kl hg2 hlo2 hm1 hm2 htx hS hSs g1 g2 g3
                  go_wp2_with fail
                  refine (KR.out _ HM.out).mono ?_
                  rintro e w7 ⟨rfl, hb⟩
                  have HM7 := Lib.hid (HM.out.below HD.out hb)
                  have HS7 := Lib.hid (HS.out.below hb)
                  have HT7 := Lib.hid (HT.out.below hb)
                  have HE7 := Lib.hid (HE.out.below hb)
                  have d2 : w7.cell? ⟨b2, o2 + j, none⟩ = some (.string N) := (hb.cell (p := ⟨b2, o2 + j, none⟩) hl2).trans e2
                  have d9 : w7.cell? ⟨b9, o9 + j, none⟩ = some (.string T) := (hb.cell (p := ⟨b9, o9 + j, none⟩) hl9).trans e9
                  have d10 : w7.cell? ⟨b10, j, none⟩ = some (.int .i64 (lo : Nat)) := (hb.cell (p := ⟨b10, j, none⟩) hl10).trans e10
                  clear hb HM HS HT HE e2 e9 e10 hl2 hl9 hl10 KR
                  go_wp2_with fail
                  go_quiet (fail)
                  have HM8 := Lib.hid (HM7.out.below HD.out (of_drewN ⟨nq, rfl⟩))
                  have HS8 := Lib.hid (HS7.out.below (of_drewN ⟨nq, rfl⟩))
                  have HT8 := Lib.hid (HT7.out.below (of_drewN ⟨nq, rfl⟩))
                  have HE8 := Lib.hid (HE7.out.below (of_drewN ⟨nq, rfl⟩))
                  clear HM7 HS7 HT7 HE7
                  go_wp2_with fail
                  refine (KL.out _ HM8.out).mono ?_
                  rintro e w8 ⟨rfl, hb⟩
                  have HM9 := Lib.hid (HM8.out.below HD.out hb)
                  have HS9 := Lib.hid (HS8.out.below hb)
                  have HT9 := Lib.hid (HT8.out.below hb)
                  have HE9 := Lib.hid (HE8.out.below hb)
                  clear hb HM8 HS8 HT8 HE8 d2 d9 d10
                  go_wp2_with fail
                  go_roundw
                  case rel => exact ⟨j + 1, by omega, by go_num, HM9, HS9, HT9, HE9⟩
                  case measure => simp [intOf]; omega
              · have hln : (names υ.fs).length ≤ ns.length := by
                  rw [← HU.out, HNL.out]
                  simp only [names, List.length_map]
                  exact len_crs _ _
                obtain ⟨ln, hln2⟩ : ∃ ln, (names υ.fs).length = ln := ⟨_, rfl⟩
                have K := names_at HD.out HM.out
                unfold Listed at K
                rw [hln2] at K hln
                have t1 : decide ((ln : Int) ≤ (ns.length : Int)) = true := by rw [decide_eq_true_iff]; omega
                have t2 : decide (ln ≤ ns.length) = true := by rw [decide_eq_true_iff]; exact hln
                have HK := Lib.hid K
                clear K hln2
                go_wp2_with fail
                refine HK.out.mono ?_
                rintro e w7 ⟨A3, c3, rfl, _, hb, _⟩
                have HM7 := Lib.hid (HM.out.below HD.out hb)
                clear hb HM HK
                go_wp2_with fail
                refine (works_any HD.out _).mono ?_
                rintro e w8 ⟨rfl, hb⟩
                have HB8 := Lib.hid (HM7.out.bel.trans (hb.mono HM7.out.bel.size))
                clear hb
                go_wp2_with fail
                go_ret
                exact ⟨rfl, HB8.out⟩

theorem walk {D : Disks} (hD : Door D) (A : Option Addr) (len cap : Nat) (l : List SV) (A1 : Option Addr) (l1 c1 : Nat) (Z1 : List Int) (w : World) (hv : StepsView w A len cap l) (hv1 : SliceView w .i64 A1 l1 c1 Z1) :
    Calls Try.prog 3 #[.slice A len cap, .slice A1 l1 c1] w fun e w' => e = .returned (.bool true) ∧ Below w.heap.size w w' := walk_any hD A len cap l A1 l1 c1 Z1 w hv hv1

end Go.Proofs.Ytaiifelkbajaoaa.diskKeeps
