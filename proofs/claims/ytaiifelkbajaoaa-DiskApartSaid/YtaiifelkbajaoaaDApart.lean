/-
  DiskApart, the walk, over any disk ('Door').
-/
import Derived.Test.YtaiifelkbajaoaaDTwo
import Derived.OpenShut
import Derived.Lib.Strings
import Derived.Lib.QuietBelow
namespace Go.Proofs.Ytaiifelkbajaoaa.diskApart
open Go.RowKit Go.ChangeShapes Go.WideShapes

def texts (σ : Dsk) (k : Nat) : List ByteArray := (σ.fs.take k).map (·.2.text)
theorem texts_snoc (σ : Dsk) (k : Nat) (h : k < σ.fs.length) : texts σ k ++ [σ.fs[k].2.text] = texts σ (k + 1) := by rw [texts, texts, List.take_succ_eq_append_getElem h, List.map_append]; rfl
theorem nth_get {σ : Dsk} (h : Inv σ) (k : Nat) (hk : k < σ.fs.length) : get σ.fs σ.fs[k].1 = some σ.fs[k].2 := get_of_mem h.srt (List.getElem_mem hk)
theorem eq_false {a b : ByteArray} (h : a ≠ b) : (a.toList == b.toList) = false := by
  rw [beq_eq_false_iff_ne]
  intro e
  rw [Lib.toList_data, Lib.toList_data] at e
  exact h (ByteArray.ext (Array.toList_inj.1 e))

theorem SVat.new (w : World) (s : SV) (t : TypeId) : SVat (w.alloc (.cells #[.int .i64 s.what, .string s.name, .string s.text, .int .i64 s.n, .int .u8 s.by_, .slice s.K s.kl s.kc] t)) w.heap.size 0 s := by
  refine ⟨by simp, ?_, ?_, ?_, ?_, ?_, ?_⟩ <;> (rw [cell_of_row _ _ _ _ _ _ (heap_alloc_new w _)]; rfl)
theorem SVat.kept {W W' : World} {b o : Nat} {s : SV} (h : SVat W b o s) (hs : W.heap.size ≤ W'.heap.size) (hb : W'.heap[b]? = W.heap[b]?) : SVat W' b o s :=
  ⟨Nat.lt_of_lt_of_le h.lt hs, (World.cell?_of_block (w := W) (a := ⟨b, o, none⟩) hb).trans h.c0, (World.cell?_of_block (w := W) (a := ⟨b, o + 1, none⟩) hb).trans h.c1, (World.cell?_of_block (w := W) (a := ⟨b, o + 2, none⟩) hb).trans h.c2,
    (World.cell?_of_block (w := W) (a := ⟨b, o + 3, none⟩) hb).trans h.c3, (World.cell?_of_block (w := W) (a := ⟨b, o + 4, none⟩) hb).trans h.c4, (World.cell?_of_block (w := W) (a := ⟨b, o + 5, none⟩) hb).trans h.c5⟩

set_option maxRecDepth 100000 in
set_option maxHeartbeats 2000000 in
theorem walk_any {D : Disks} (hD : Door D) (A : Option Addr) (len cap : Nat) (l : List SV) (A1 : Option Addr) (l1 c1 : Nat) (Z1 : List Int) (w : World) (hv : StepsView w A len cap l) (hv1 : SliceView w .i64 A1 l1 c1 Z1) :
    Calls Try.prog 6 #[.slice A len cap, .slice A1 l1 c1] w fun e w' => e = .returned (.bool true) ∧ Below w.heap.size w w' := by
  have HD := Lib.hid hD
  have HV := Lib.hid hv
  have HV1 := Lib.hid hv1
  have HL := Lib.hid hv.length
  have hfew := hv.few
  have hfew1 : l1 ≤ maxLen := Nat.le_trans hv1.2.1 hv1.2.2.1
  unfold maxLen at hfew1
  clear hD hv hv1
  go_enter Try.func6, Try.ntmps6
  go_wp2_with fail
  refine (Heavy_any A len cap l w HV).mono ?_
  rintro e w1 ⟨bv, rfl, hb, hd⟩
  have HW1 := Lib.hid (of_drewN (B := w.heap.size) hd)
  cases bv with
  | true =>
    clear hb hd
    go_wp2_with fail
    refine (works_any HD.out _).mono ?_
    rintro e w2 ⟨rfl, hb2⟩
    have HB := Lib.hid (HW1.out.trans (hb2.mono HW1.out.size))
    clear hb2
    go_wp2_with fail
    go_ret
    exact ⟨rfl, HB.out⟩
  | false =>
    by_cases hl1 : 100 < l1
    · have dl : decide (100 < (l1 : Int)) = true := by rw [decide_eq_true_iff]; omega
      clear hb hd
      go_wp2_with fail
      refine (works_any HD.out _).mono ?_
      rintro e w2 ⟨rfl, hb2⟩
      have HB := Lib.hid (HW1.out.trans (hb2.mono HW1.out.size))
      clear hb2
      go_wp2_with fail
      go_ret
      exact ⟨rfl, HB.out⟩
    have dl : decide (100 < (l1 : Int)) = false := by rw [decide_eq_false_iff_not]; omega
    obtain ⟨hl200, hbulk⟩ := hb rfl
    clear hb hd hbulk
    go_wp2_with fail
    refine (new_at HD.out HW1.out 4096 (by decide)).mono ?_
    rintro e w2 ⟨g, rfl, hm, _⟩
    have M2 := Lib.hid hm
    clear hm
    go_wp2_with fail
    go_loopw [7] (fun iv wr => ∃ (i : Nat) (σ : Dsk), i ≤ len ∧ iv = .int .i64 i ∧ Hid (Mine D w wr g σ)) (fun iv _ => len - (intOf iv).toNat)
    case atStart => exact ⟨0, _, Nat.zero_le _, rfl, M2⟩
    case round =>
      clear M2
      obtain ⟨i, σ, hi, rfl, HM⟩ := hrel
      by_cases hlt : i < len
      · have hil : i < l.length := by rw [HL.out]; exact hlt
        obtain ⟨b, off, rfl, hat⟩ := HV.out.cell i hil
        have hok := HV.out.ok l[i] (List.getElem_mem _)
        obtain ⟨s, hs⟩ : ∃ s, l[i] = s := ⟨_, rfl⟩
        rw [hs] at hat hok
        have hat2 := hat.below HM.out.bel
        have d0 := hat2.c0
        have d1 := hat2.c1
        have d2 := hat2.c2
        have d3 := hat2.c3
        have d4 := hat2.c4
        have d5 := hat2.c5
        have HOK := Lib.hid (hok.below HM.out.bel)
        clear hs hat hat2 hok
        have HI := Lib.hid (HM.out.inv HD.out)
        obtain ⟨O, hd, hO, hb0⟩ := HM.out
        obtain ⟨ns, hns⟩ : ∃ ns, names σ.fs = ns := ⟨_, rfl⟩
        have HNS := Lib.hid hns
        have hnl : ns.length = σ.fs.length := by rw [← hns]; simp [names]
        have hfewn : ns.length ≤ 16 := by rw [hnl]; exact HI.out.few
        have HNL := Lib.hid hnl
        have HO := Lib.hid hO
        have HB3 := Lib.hid ((Below.refl _ wr).alloc (Nat.le_refl _) (.cells #[.int .i64 s.what, .string s.name, .string s.text, .int .i64 s.n, .int .u8 s.by_, .slice s.K s.kl s.kc] 31))
        have HA3 := Lib.hid (SVat.new wr s 31)
        have HOB := Lib.hid (HD.out.own hd)
        have hd3 := HD.out.below hd HB3.out
        have K := HD.out.names hd3
        rw [hns] at K
        have HD3 := Lib.hid hd3
        have HBw := Lib.hid (hb0.trans (HB3.out.mono hb0.size))
        have HK := Lib.hid K
        clear hd hO hb0 hns K hnl HM hd3
        go_wp2_with fail
        refine HK.out.mono ?_
        rintro e w4 ⟨A2, c2, rfl, hst, hb, hA2⟩
        have HD4 := Lib.hid (HD.out.below HD3.out hb)
        have HA4 := Lib.hid (HA3.out.below hb)
        have HS4 := Lib.hid hst
        have HB4 := Lib.hid (HBw.out.trans (hb.mono HBw.out.size))
        have HOK4 := Lib.hid ((HOK.out.below HB3.out).below hb)
        obtain ⟨g8, hg8⟩ : ∃ g8, g8 = wr.heap.size := ⟨_, rfl⟩
        rw [← hg8] at HA4 ⊢
        have HOB4 : Hid (∀ k, O k → k < g8) := by rw [← hg8] at HOB; exact HOB
        have hsz3 := HB3.out.size
        have HA2 : Hid (∀ ad, A2 = some ad → ¬ O ad.block) := fun ad e ho => by have h1 := hA2 ad e; have h2 := HOB4.out _ ho; omega
        obtain ⟨B, hB⟩ : ∃ B, B = w4.heap.size := ⟨_, rfl⟩
        have HBB := Lib.hid hB
        have HGB : Hid (g8 < B) := by show _ < _; rw [hB]; exact HA4.out.lt
        have T0 : Hid (w4.ownsRow B 9 1 (.slice none 0 0) (texts σ 0).length (txt (texts σ 0))) := ⟨rfl, .inl ⟨rfl, rfl⟩⟩
        have B0 : Hid (Below B w4 w4) := Below.refl _ _
        clear hb hst hA2 HK HD3 HB3 HA3 HOB HBw hB hg8 hsz3 HOK d0 d1 d2 d3 d4 d5
        go_wp2_with fail
        go_loopw [10, 11] (fun v1 kv v => ∃ k : Nat, k ≤ ns.length ∧ kv = .int .i64 k ∧ Hid (v.ownsRow B 9 1 v1 (texts σ k).length (txt (texts σ k))) ∧ Hid (Below B w4 v)) (fun _ kv _ => ns.length - (intOf kv).toNat)
        case atStart => exact ⟨0, Nat.zero_le _, rfl, T0, B0⟩
        case round =>
          clear T0 B0
          obtain ⟨k, hk, rfl, HT, HB⟩ := hrel
          have HB' : Hid (Below w4.heap.size w4 wr) := by rw [HBB.out] at HB; exact HB
          have HBz : Hid (B ≤ wr.heap.size) := by show _ ≤ _; rw [HBB.out]; exact HB.out.size
          have HDr := Lib.hid (HD.out.below HD4.out HB'.out)
          have HSr := Lib.hid (HS4.out.below HB'.out)
          by_cases hkl : k < ns.length
          · obtain ⟨b2, o2, rfl, hl2, e2⟩ := HSr.out.cell k hkl
            have hkf : k < σ.fs.length := by rw [← HNL.out]; exact hkl
            obtain ⟨N, hN⟩ : ∃ N, ns[k] = N := ⟨_, rfl⟩
            have hN2 : σ.fs[k].1 = N := by rw [← hN]; simp [← HNS.out, names]
            have hg := nth_get HI.out k hkf
            obtain ⟨T, hT⟩ : ∃ T, σ.fs[k].2.text = T := ⟨_, rfl⟩
            have htl := texts_snoc σ k hkf
            rw [hT] at htl
            rw [hN2] at hg
            rw [hN] at e2
            have HTL := Lib.hid htl
            have HNZ : Hid (N.size ≤ many) := Nat.le_trans (HI.out.name (n := N) (by rw [HNS.out, ← hN]; exact List.getElem_mem _)) (by decide)
            have kr := fun (W : World) (hW : D O W g σ) => HD.out.read N hW HNZ.out
            have g1 : textOf σ N = T := by simp [textOf, hg, hT]
            have g2 : errOf σ N = 0 := by simp [errOf, hg]
            simp only [g1, g2] at kr
            have KR := Lib.hid kr
            have htn : (texts σ k).length ≤ 1000000 := by simp [texts]; omega
            clear hkf hN2 hg hT htl kr g1 g2 hN
            go_wp2_with fail
            refine (KR.out _ HDr.out).mono ?_
            rintro e w5 ⟨rfl, hb⟩
            have HT5 := Lib.hid (owns_below HT.out hb)
            have HB5 := Lib.hid (HB.out.trans (hb.mono HBz.out))
            have HBz5 : Hid (B ≤ w5.heap.size) := Nat.le_trans HBz.out hb.size
            clear hb HT HB HB' HBz HDr HSr e2 hl2
            go_wp2_with (at_builtin
                         refine wpList_text_at (by rfl) (.tmp 70) (.tmp 72) (by rfl) w5 T B HBz5.out _ (texts σ k) (by rfl) HT5.out htn (by rfl) rfl ?_
                         intro v' w6 hown hg6 hloc
                         rw [HTL.out] at hown
                         have HT6 := Lib.hid hown
                         have HB6 := Lib.hid (grown_below HB5.out HT5.out HBz5.out hg6)
                         clear hown hg6 hloc HT5 HB5 HBz5)
            go_roundw
            case rel => exact ⟨k + 1, by omega, by go_num, HT6, HB6⟩
            case measure => simp [intOf]; omega
          · have hke : k = ns.length := by omega
            have hTl : (texts σ k).length = ns.length := by rw [hke, HNL.out]; simp [texts]
            have h1 := HT.out
            rw [hTl] at h1
            obtain ⟨A10, c10, rfl, hs10, hf10⟩ := owns_strs h1 hTl
            obtain ⟨TS, hTS⟩ : ∃ TS, texts σ k = TS := ⟨_, rfl⟩
            rw [hTS] at hs10
            have HTS : Hid (∀ j (hj : j < σ.fs.length) (hj2 : j < TS.length), TS[j] = σ.fs[j].2.text) := fun j hj hj2 => by simp [← hTS, texts]
            have HS10 := Lib.hid hs10
            have HF10 := Lib.hid hf10
            have hat := HA4.out.below HB'.out
            have HAT := Lib.hid hat
            have f0 : wr.cell? ⟨g8, 0, none⟩ = some (.int .i64 s.what) := hat.c0
            have f1 : wr.cell? ⟨g8, 1, none⟩ = some (.string s.name) := hat.c1
            have f2 : wr.cell? ⟨g8, 2, none⟩ = some (.string s.text) := hat.c2
            have f3 : wr.cell? ⟨g8, 3, none⟩ = some (.int .i64 s.n) := hat.c3
            have f4 : wr.cell? ⟨g8, 4, none⟩ = some (.int .u8 s.by_) := hat.c4
            have f5 : wr.cell? ⟨g8, 5, none⟩ = some (.slice s.K s.kl s.kc) := hat.c5
            have K := does_did HD.out s HDr (Lib.hid (HOK4.out.below HB'.out))
            obtain ⟨r, hr2⟩ : ∃ r, stp σ s.stp = r := ⟨_, rfl⟩
            have hoth := fun (h5 : s.what ≤ 5) (m : ByteArray) (hm : m ≠ s.name) => stp_other σ s.stp h5 m hm
            rw [hr2] at K hoth
            obtain ⟨τ, er⟩ := r
            have HOTH := Lib.hid hoth
            have HK := Lib.hid K
            have HBw := Lib.hid (HB4.out.trans (HB'.out.mono HB4.out.size))
            have HKK : Hid (k = ns.length) := hke
            clear hke hTl h1 hs10 hf10 hTS HT hat K hr2 hoth
            go_wp2_with fail
            refine HK.out.mono ?_
            rintro e w6 ⟨rfl, O', hd6, ho6, hO6⟩
            have hsz6 := ho6.size
            have hOB : ∀ j, O j → j < g8 := HOB4.out
            have hgb := HGB.out
            have HM6 : Hid (Mine D w w6 g τ) := by
              refine ⟨O', hd6, fun j hj => ?_, HBw.out.trans (ho6.below HO.out HBw.out.size)⟩
              rcases hO6 j hj with h | h
              · exact HO.out j h
              · exact Nat.le_trans HBw.out.size h
            have HS6 : Hid (Strs w6 A2 ns.length ns) := HSr.out.kept hsz6 (fun ad e hl => ho6.block _ hl (HA2.out ad e))
            have HT6 : Hid (Strs w6 A10 ns.length TS) := HS10.out.kept hsz6 (fun ad e hl => ho6.block _ hl (fun h => by have h1 := HF10.out ad e; have h2 := hOB _ h; omega))
            have HA6 : Hid (SVat w6 g8 0 s) := SVat.kept HAT.out hsz6 (ho6.block _ HAT.out.lt (fun h => by have := hOB _ h; omega))
            clear hd6 ho6 hO6 hsz6 hOB hgb HDr HSr HS10 HF10 HAT HB HB' HD4 HS4 HB4 HA4 HOK4 HK HBw f0 f1 f2 f3 f4 f5
            go_wp2_with fail
            go_loopw [14] (fun kv v => ∃ j : Nat, j ≤ ns.length ∧ kv = .int .i64 j ∧ Hid (Mine D w v g τ) ∧ Hid (Strs v A2 ns.length ns) ∧ Hid (Strs v A10 ns.length TS) ∧ Hid (SVat v g8 0 s)) (fun kv _ => ns.length - (intOf kv).toNat)
            case atStart => exact ⟨0, Nat.zero_le _, rfl, HM6, HS6, HT6, HA6⟩
            case round =>
              clear HM6 HS6 HT6 HA6
              obtain ⟨j, hj, rfl, HM, HS, HT, HA⟩ := hrel
              have f0 : wr.cell? ⟨g8, 0, none⟩ = some (.int .i64 s.what) := HA.out.c0
              by_cases hjl : j < ns.length
              · by_cases h5 : s.what ≤ 5
                · have d5 : decide (s.what ≤ 5) = true := by rw [decide_eq_true_iff]; exact h5
                  have hjf : j < σ.fs.length := by rw [← HNL.out]; exact hjl
                  have hjT : j < TS.length := by rw [HT.out.len]; exact hjl
                  obtain ⟨b2, o2, rfl, hl2, e2⟩ := HS.out.cell j hjl
                  obtain ⟨b9, o9, rfl, hl9, e9⟩ := HT.out.cell j hjT
                  rw [HTS.out j hjf hjT] at e9
                  obtain ⟨N, hN⟩ : ∃ N, ns[j] = N := ⟨_, rfl⟩
                  have hN2 : σ.fs[j].1 = N := by rw [← hN]; simp [← HNS.out, names]
                  have hg := nth_get HI.out j hjf
                  rw [hN2] at hg
                  rw [hN] at e2
                  obtain ⟨T, hT⟩ : ∃ T, σ.fs[j].2.text = T := ⟨_, rfl⟩
                  rw [hT] at e9
                  have HNZ : Hid (N.size ≤ many) := Nat.le_trans (HI.out.name (n := N) (by rw [HNS.out, ← hN]; exact List.getElem_mem _)) (by decide)
                  obtain ⟨X, hX⟩ : ∃ X, textOf τ N = X := ⟨_, rfl⟩
                  obtain ⟨ex, hex⟩ : ∃ ex, errOf τ N = ex := ⟨_, rfl⟩
                  have kr := fun (W : World) (hW : Mine D w W g τ) => read_at HD.out hW N HNZ.out
                  simp only [hX, hex] at kr
                  have KR := Lib.hid kr
                  have hXT : N ≠ s.name → X = T := fun hne => by
                    have h := HOTH.out h5 N hne
                    rw [← hX, textOf, h, hg]
                    exact hT
                  by_cases hns : N = s.name
                  · have q1 : (N.toList == s.name.toList) = true := by rw [hns]; exact beq_self_eq_true _
                    have H5 := Lib.hid h5
                    clear hjf hjT hN hN2 hg hT hX hex kr hXT hns h5
                    go_wp2_with fail
                    refine (KR.out _ HM.out).mono ?_
                    rintro e w7 ⟨rfl, hb⟩
                    have HM7 := Lib.hid (HM.out.below HD.out hb)
                    have HS7 := Lib.hid (HS.out.below hb)
                    have HT7 := Lib.hid (HT.out.below hb)
                    have HA7 := Lib.hid (HA.out.below hb)
                    have d2 : w7.cell? ⟨b2, o2 + j, none⟩ = some (.string N) := (hb.cell (p := ⟨b2, o2 + j, none⟩) hl2).trans e2
                    have f1 : w7.cell? ⟨g8, 1, none⟩ = some (.string s.name) := HA7.out.c1
                    clear hb HM HS HT HA e2 e9 hl2 hl9 KR f0
                    go_wp2_with fail
                    go_quiet (fail)
                    go_wp2_with fail
                    go_roundw
                    case rel => exact ⟨j + 1, by omega, by go_num, HM7.out.below HD.out (of_drewN ⟨nq, rfl⟩), HS7.out.below (of_drewN ⟨nq, rfl⟩), HT7.out.below (of_drewN ⟨nq, rfl⟩), HA7.out.below (of_drewN ⟨nq, rfl⟩)⟩
                    case measure => simp [intOf]; omega
                  · have q1 : (N.toList == s.name.toList) = false := eq_false hns
                    obtain rfl := hXT hns
                    have H5 := Lib.hid h5
                    clear hjf hjT hN hN2 hg hT hX hex kr hXT hns h5
                    go_wp2_with fail
                    refine (KR.out _ HM.out).mono ?_
                    rintro e w7 ⟨rfl, hb⟩
                    have HM7 := Lib.hid (HM.out.below HD.out hb)
                    have HS7 := Lib.hid (HS.out.below hb)
                    have HT7 := Lib.hid (HT.out.below hb)
                    have HA7 := Lib.hid (HA.out.below hb)
                    have d2 : w7.cell? ⟨b2, o2 + j, none⟩ = some (.string N) := (hb.cell (p := ⟨b2, o2 + j, none⟩) hl2).trans e2
                    have d9 : w7.cell? ⟨b9, o9 + j, none⟩ = some (.string X) := (hb.cell (p := ⟨b9, o9 + j, none⟩) hl9).trans e9
                    have f1 : w7.cell? ⟨g8, 1, none⟩ = some (.string s.name) := HA7.out.c1
                    clear hb HM HS HT HA e2 e9 hl2 hl9 KR f0
                    go_wp2_with fail
                    go_quiet (fail)
                    go_wp2_with fail
                    go_roundw
                    case rel => exact ⟨j + 1, by omega, by go_num, HM7.out.below HD.out (of_drewN ⟨nq, rfl⟩), HS7.out.below (of_drewN ⟨nq, rfl⟩), HT7.out.below (of_drewN ⟨nq, rfl⟩), HA7.out.below (of_drewN ⟨nq, rfl⟩)⟩
                    case measure => simp [intOf]; omega
                · have d5 : decide (s.what ≤ 5) = false := by rw [decide_eq_false_iff_not]; exact h5
                  have H5 := Lib.hid h5
                  clear h5
                  go_wp2_with fail
                  go_roundw
                  case rel => exact ⟨i + 1, τ, by omega, by go_num, HM⟩
                  case measure => simp [intOf]; omega
              · go_wp2_with fail
                go_roundw
                case rel => exact ⟨i + 1, τ, by omega, by go_num, HM⟩
                case measure => simp [intOf]; omega
      · have HI := Lib.hid (HM.out.inv HD.out)
        obtain ⟨O, hd, hO, hb0⟩ := HM.out
        have HO := Lib.hid hO
        have HDd := Lib.hid hd
        have HBw := Lib.hid hb0
        have HV1r := Lib.hid (HV1.out.below hb0)
        have hfk : l1 * 8 ≤ many := by unfold many; omega
        obtain ⟨υ, hυ⟩ : ∃ υ : Dsk, (⟨σ.room, none, crs σ.fs Z1⟩ : Dsk) = υ := ⟨_, rfl⟩
        have h1 : crash σ Z1 = (υ, 0) := by rw [← hυ]; rfl
        have h2 : (⟨υ.room, none, υ.fs⟩ : Dsk) = υ := by rw [← hυ]
        have hcalm : ∀ p ∈ υ.fs, p.2.loose = 0 ∧ p.2.fresh = false := by rw [← hυ]; exact calm_crs σ.fs Z1
        have h3 : crash υ [] = (υ, 0) := by
          unfold crash
          rw [crs_calm υ.fs [] hcalm, h2]
        have H1 := Lib.hid h1
        have H2 := Lib.hid h2
        have H3 := Lib.hid h3
        have HC := Lib.hid hcalm
        clear hd hO hb0 HM hυ h1 h2 h3 hcalm
        go_wp2_with (at_builtin; refine wpList_copy_ints (by rfl) (.const (.slice none 0 0)) (.tmp 113) (by rfl) (by rfl) A1 l1 c1 Z1 (by rfl) HV1r.out hfk ?_; intro A' cap' w5 HS5 HB5 HN5)
        have HD5 := Lib.hid (HD.out.below HDd.out HB5.out)
        have HBw5 := Lib.hid (HBw.out.trans (HB5.out.mono HBw.out.size))
        have K := HD.out.crash A' l1 cap' Z1 HD5.out HS5.out (fun a ha ho => by have h1 := HD.out.own HDd.out _ ho; have h2 := HN5.out a ha; omega) hfk
        rw [H1.out] at K
        refine K.mono ?_
        rintro e w6 ⟨rfl, O1, hd6, ho6, hO6⟩
        have HD6 := Lib.hid hd6
        have HO6 : Hid (∀ j, O1 j → w.heap.size ≤ j) := fun j hj => by
          rcases hO6 j hj with h | h
          · exact HO.out j h
          · exact Nat.le_trans HBw5.out.size h
        have HB6 := Lib.hid (HBw5.out.trans (ho6.below HO.out HBw5.out.size))
        clear hd6 ho6 hO6 K HS5 HB5 HD5 HBw HBw5 HV1r HDd HO
        go_wp2_with fail
        have K := HD.out.copy HD6.out
        rw [H2.out] at K
        refine K.mono ?_
        rintro e w7 ⟨g2, P, rfl, hdc, hP, hb7⟩
        have HD7 := Lib.hid (HD.out.below HD6.out hb7)
        have HOB := Lib.hid (HD.out.own HD6.out)
        have HDC := Lib.hid hdc
        have HP := Lib.hid hP
        have HB7 := Lib.hid (HB6.out.trans (hb7.mono HB6.out.size))
        have HZ6 := Lib.hid HB6.out.size
        clear hdc hP hb7 K HD6 HB6
        go_wp2_with fail
        have K := HD.out.crash none 0 0 [] HD7.out ⟨rfl, Nat.le_refl _, Nat.zero_le _, fun _ => ⟨rfl, rfl⟩, fun t ht => by omega, fun n hn => by cases hn⟩ (fun a ha => by cases ha) (by decide)
        rw [H3.out] at K
        refine K.mono ?_
        rintro e w8 ⟨rfl, O2, hd8, ho8, hO8⟩
        have HB8 := Lib.hid (HB7.out.trans (ho8.below HO6.out HB7.out.size))
        have HM8 : Hid (Mine D w w8 g υ) := by
          refine ⟨O2, hd8, fun j hj => ?_, HB8.out⟩
          rcases hO8 j hj with h | h
          · exact HO6.out j h
          · exact Nat.le_trans HB7.out.size h
        have HC8 : Hid (Mine D w w8 g2 υ) := by
          refine ⟨P, HD.out.apart HDC.out ho8 (fun j hj h => ?_), fun j hj => Nat.le_trans HZ6.out (HP.out j hj), HB8.out⟩
          have h1 := HOB.out j h
          have h2 := HP.out j hj
          omega
        clear hd8 ho8 hO8 K HD7 HOB HDC HP HB7 HZ6 HO6 HB8
        go_wp2_with fail
        obtain ⟨ns, hns⟩ : ∃ ns, names υ.fs = ns := ⟨_, rfl⟩
        have HNS := Lib.hid hns
        have HI2 := Lib.hid (HM8.out.inv HD.out)
        have hnl : ns.length = υ.fs.length := by rw [← hns]; simp [names]
        have hfewn : ns.length ≤ 16 := by rw [hnl]; exact HI2.out.few
        have HNL := Lib.hid hnl
        have K := names_at HD.out HM8.out
        rw [hns] at K
        clear hnl
        refine K.mono ?_
        rintro e w9 ⟨A2, c2, rfl, hst, hb, _⟩
        have HM9 := Lib.hid (HM8.out.below HD.out hb)
        have HC9 := Lib.hid (HC8.out.below HD.out hb)
        have HS9 := Lib.hid hst
        clear hst hb K HM8 HC8
        go_wp2_with fail
        have K := names_at HD.out HC9.out
        rw [hns] at K
        refine K.mono ?_
        rintro e w10 ⟨A3, c3, rfl, hst, hb, _⟩
        have HM10 := Lib.hid (HM9.out.below HD.out hb)
        have HC10 := Lib.hid (HC9.out.below HD.out hb)
        have HS10 := Lib.hid (HS9.out.below hb)
        have HR10 := Lib.hid hst
        clear hst hb K HM9 HC9 HS9 hns
        go_wp2_with fail
        go_loopw [20] (fun kv v => ∃ j : Nat, j ≤ ns.length ∧ kv = .int .i64 j ∧ Hid (Mine D w v g υ) ∧ Hid (Mine D w v g2 υ) ∧ Hid (Strs v A2 ns.length ns) ∧ Hid (Strs v A3 ns.length ns)) (fun kv _ => ns.length - (intOf kv).toNat)
        case atStart => exact ⟨0, Nat.zero_le _, rfl, HM10, HC10, HS10, HR10⟩
        case round =>
          clear HM10 HC10 HS10 HR10
          obtain ⟨j, hj, rfl, HM, HCp, HS, HR⟩ := hrel
          by_cases hjl : j < ns.length
          · have hjf : j < υ.fs.length := by rw [← HNL.out]; exact hjl
            obtain ⟨b2, o2, rfl, hl2, e2⟩ := HS.out.cell j hjl
            obtain ⟨b3, o3, rfl, hl3, e3⟩ := HR.out.cell j hjl
            obtain ⟨N, hN⟩ : ∃ N, ns[j] = N := ⟨_, rfl⟩
            have hN2 : υ.fs[j].1 = N := by rw [← hN]; simp [← HNS.out, names]
            have hg := nth_get HI2.out j hjf
            have hcl := (HC.out υ.fs[j] (List.getElem_mem hjf)).1
            rw [hN2] at hg
            rw [hN] at e2 e3
            obtain ⟨T, hT⟩ : ∃ T, υ.fs[j].2.text = T := ⟨_, rfl⟩
            have HNZ : Hid (N.size ≤ many) := Nat.le_trans (HI2.out.name (n := N) (by rw [HNS.out, ← hN]; exact List.getElem_mem _)) (by decide)
            have g1 : textOf υ N = T := by simp [textOf, hg, hT]
            have g2' : errOf υ N = 0 := by simp [errOf, hg]
            have g3 : looseOf υ N = 0 := by simp [looseOf, hg, hcl]
            have kr := fun (q : Nat) (W : World) (hW : Mine D w W q υ) => read_at HD.out hW N HNZ.out
            have kl := fun (W : World) (hW : Mine D w W g υ) => loose_at HD.out hW N HNZ.out
            simp only [g1, g2'] at kr
            simp only [g3] at kl
            have KR := Lib.hid kr
            have KL := Lib.hid kl
            clear hjf hN hN2 hg hcl hT g1 g2' g3 kr kl
            go_wp2_with fail
            refine (KR.out g _ HM.out).mono ?_
            rintro e w11 ⟨rfl, hb⟩
            have HM1 := Lib.hid (HM.out.below HD.out hb)
            have HC1 := Lib.hid (HCp.out.below HD.out hb)
            have HS1 := Lib.hid (HS.out.below hb)
            have HR1 := Lib.hid (HR.out.below hb)
            have d2 : w11.cell? ⟨b2, o2 + j, none⟩ = some (.string N) := (hb.cell (p := ⟨b2, o2 + j, none⟩) hl2).trans e2
            have d3 : w11.cell? ⟨b3, o3 + j, none⟩ = some (.string N) := (hb.cell (p := ⟨b3, o3 + j, none⟩) hl3).trans e3
            have z2 := Nat.lt_of_lt_of_le hl2 hb.size
            have z3 := Nat.lt_of_lt_of_le hl3 hb.size
            clear hb HM HCp HS HR e2 e3 hl2 hl3
            go_wp2_with fail
            refine (KR.out g2 _ HC1.out).mono ?_
            rintro e w12 ⟨rfl, hb⟩
            have HM2 := Lib.hid (HM1.out.below HD.out hb)
            have HC2 := Lib.hid (HC1.out.below HD.out hb)
            have HS2 := Lib.hid (HS1.out.below hb)
            have HR2 := Lib.hid (HR1.out.below hb)
            have x2 : w12.cell? ⟨b2, o2 + j, none⟩ = some (.string N) := (hb.cell (p := ⟨b2, o2 + j, none⟩) z2).trans d2
            have x3 : w12.cell? ⟨b3, o3 + j, none⟩ = some (.string N) := (hb.cell (p := ⟨b3, o3 + j, none⟩) z3).trans d3
            clear hb HM1 HC1 HS1 HR1 d2 d3 z2 z3 KR
            go_wp2_with fail
            have y2 := fun d os => cell_regrown (w := w12) (a := ⟨b2, o2 + j, none⟩) x2 d os
            have y3 := fun d os => cell_regrown (w := w12) (a := ⟨b3, o3 + j, none⟩) x3 d os
            refine wp_region_quiet_below (by kernel_rfl) (by kernel_rfl) ?_
            repeat (go_big_quiet_step ((go_at_call 14; exact Calls.regrown_of (KL.out _ (HM2.out.below HD.out (below_regrown w12 _ _))))))
            refine wpQuiet_nil ?_
            intro w13 hw'
            obtain ⟨⟨dq, osq⟩, hw''⟩ := hw'
            have hb : Below w12.heap.size w12 w13 := by rw [hw'']; exact below_regrown w12 dq osq
            have HM3 := Lib.hid (HM2.out.below HD.out hb)
            have HC3 := Lib.hid (HC2.out.below HD.out hb)
            have HS3 := Lib.hid (HS2.out.below hb)
            have HR3 := Lib.hid (HR2.out.below hb)
            clear hw'' hb HM2 HC2 HS2 HR2 x2 x3 y2 y3 KL
            go_wp2_with fail
            go_roundw
            case rel => exact ⟨j + 1, by omega, by go_num, HM3, HC3, HS3, HR3⟩
            case measure => simp [intOf]; omega
          · go_wp2_with fail
            refine (works_any HD.out _).mono ?_
            rintro e w11 ⟨rfl, hb⟩
            have HB11 := Lib.hid (HM.out.bel.trans (hb.mono HM.out.bel.size))
            clear hb
            go_wp2_with fail
            go_ret
            exact ⟨rfl, HB11.out⟩

theorem walk {D : Disks} (hD : Door D) (A : Option Addr) (len cap : Nat) (l : List SV) (A1 : Option Addr) (l1 c1 : Nat) (Z1 : List Int) (w : World) (hv : StepsView w A len cap l) (hv1 : SliceView w .i64 A1 l1 c1 Z1) :
    Calls Try.prog 6 #[.slice A len cap, .slice A1 l1 c1] w fun e w' => e = .returned (.bool true) ∧ Below w.heap.size w w' := walk_any hD A len cap l A1 l1 c1 Z1 w hv hv1

end Go.Proofs.Ytaiifelkbajaoaa.diskApart
