/-
  Layer 7: Crash.
-/
import Derived.Test.YtikbokbmaihdbaaGreatDoorDCrs
import Derived.Test.YtikbokbmaihdbaaGreatDoorSQTail
import Derived.Test.YtikbokbmaihdbaaGreatDoorBRow
import Derived.Test.YtikbokbmaihdbaaGreatDoorDOpsC
import Derived.Deep.QuietTactic
import Derived.BigQuiet
namespace Go.Proofs.YtikbokbmaihdbaaGreatDoor
open Go.RowKit Go.Maps Go.Lib Go.ChangeShapes Go.WideShapes

theorem crash_nil (K : Option Addr) (l c : Nat) (w : World) : Calls Tryz.prog 22 #[.pointer none, .slice K l c] w fun e w' => e = .returned (.int .i64 1) ∧ w = w' := by
  go_enter Tryz.func22, Tryz.ntmps22
  go_wp2_with (go_at_call 51; refine (unmade_nil _).mono ?_; rintro e w' ⟨rfl, rfl⟩)
  go_ret
  exact ⟨rfl, rfl⟩

section
variable {w wr : World} {b : Nat} {P : ByteArray → Nat} {V : ByteArray → Value} {fs : List (ByteArray × Fil)} {ks : List Int} {A : Option Addr} {i : Nat} {K : Option Addr} {l c : Nat} {js : List Int} {ds : List (ByteArray × Fil)} {V2 : ByteArray → Value}
theorem Crs.look (h : Crs w wr b P V fs ks A i K l c js ds V2) {n : ByteArray} {f : Fil} (hd : fs.drop i = (n, f) :: fs.drop (i + 1)) (hn : n.size ≤ maxLen) : (Instr.lookup 56 (.map (some b)) (.string n) false).run Tryz.prog wr = .ok (ptr (P n)) wr := by
  have hlk := h.lay.map.look Tryz.underlying9 Tryz.underlying56 (Tryz.zeroValue89 wr) n hn
  rw [get_kvOf, h.got hd] at hlk
  exact hlk
theorem Crs.head (h : Crs w wr b P V fs ks A i K l c js ds V2) {g room : Nat} {z : Option Nat} (hh : DHead w g room b z) (hl : Lay w b P V fs) : DHead wr g room b z := (h.only.block g hh.lt (fun hk => hh.not_lay hl hk rfl)).trans hh
end

set_option maxHeartbeats 40000000 in
set_option maxRecDepth 100000 in
theorem crash_any {O : Nat → Prop} {w : World} {g : Nat} {σ : Dsk} (K : Option Addr) (l c : Nat) (ks : List Int) (hd : TheDisk O w g σ) (hv : SliceView w .i64 K l c ks) (hfree : ∀ a, K = some a → ¬ O a.block) : Calls Tryz.prog 22 #[ptr g, .slice K l c] w (Did TheDisk O w g (crash σ ks)) := by
  have HI := Lib.hid (hd.1.crash ks)
  obtain ⟨hi, hz, b, P, V, h, hl, hO⟩ := hd
  have KN := names_any h hl hi.few
  have HH := Lib.hid h
  have HL := Lib.hid hl
  have HV := Lib.hid hv
  have HIN := Lib.hid hi
  have HFREE : Hid (∀ a, K = some a → ¬ OLay b P V σ.fs a.block) := fun a ha hk => hfree a ha ((hO _).2 (Or.inr hk))
  clear hi hz h hl hv hfree
  have hlen : (names σ.fs).length = σ.fs.length := by simp [names]
  have hlf : σ.fs.length ≤ 16 := HIN.out.few
  rw [← hlen] at hlf
  obtain ⟨N, hN⟩ : ∃ N, (names σ.fs).length = N := ⟨_, rfl⟩
  unfold Listed at KN
  rw [hN] at KN hlf
  have HN := Lib.hid hN
  have HLEN := Lib.hid hlen
  clear hN hlen
  go_enter Tryz.func22, Tryz.ntmps22
  go_wp2_with (first
    | (go_at_call 51; refine (unmade_at HH.out).mono ?_; rintro e w' ⟨rfl, rfl⟩)
    | (go_at_call 47; refine KN.mono ?_; rintro e w1 ⟨A, cA, rfl, hst, hb1, hA⟩; have HST := Lib.hid hst; have HB1 := Lib.hid hb1; have HA := Lib.hid hA; clear hst hb1 hA))
  have HA' : Hid (∀ a, A = some a → ¬ OLay b P V σ.fs a.block) := fun a ha hk => by
    have h1 := HA.out a ha
    have h2 := HL.out.lt hk
    omega
  have HC0 : Hid (Crs w w1 b P V σ.fs ks A 0 K l c ks [] V) := by
    have hst := HST.out
    rw [← HN.out] at hst
    exact ⟨HL.out.below HB1.out, rfl, fun _ => rfl, fun m hm => hm, HV.out.below HB1.out, HFREE.out, hst, HB1.out.only _⟩
  clear HST HB1 HA HV HFREE
  go_loopw [1, 14] (fun kv iv wr => ∃ (i : Nat) (K : Option Addr) (l c : Nat) (js : List Int) (ds : List (ByteArray × Fil)) (V2 : ByteArray → Value), kv = .slice K l c ∧ iv = .int .i64 i ∧ i ≤ N ∧ Hid (Crs w wr b P V σ.fs ks A i K l c js ds V2)) (fun _ iv _ => N - (intOf iv).toNat)
  case atStart => exact ⟨0, K, l, c, ks, [], V, rfl, rfl, Nat.zero_le _, HC0⟩
  case round =>
    clear HC0
    obtain ⟨i, K, l, c, js, ds, V2, rfl, rfl, hiN, HC⟩ := hrel
    by_cases hlt : i < N
    · have hif : i < σ.fs.length := by have := HN.out; have := HLEN.out; omega
      obtain ⟨n, f, hnf⟩ : ∃ n f, σ.fs[i] = (n, f) := ⟨_, _, rfl⟩
      have HD : Hid (σ.fs.drop i = (n, f) :: σ.fs.drop (i + 1)) := by show _ = _; rw [List.drop_eq_getElem_cons hif, hnf]
      have hmem : (n, f) ∈ σ.fs := by rw [← hnf]; exact List.getElem_mem hif
      have hn' : n.size ≤ maxLen := by
        have h1 := HIN.out.short (n, f) hmem
        simp only at h1
        unfold maxLen
        omega
      have hls := HIN.out.loose (n, f) hmem
      have hsz := mem_used hmem
      have hrm := HIN.out.room
      have hms := HIN.out.most
      obtain ⟨tx, lo, fr⟩ := f
      simp only at hls hsz
      have hlo : lo ≤ tx.size := hls.1
      have htx : tx.size ≤ 4194304 := by omega
      clear hls hsz hrm hms hmem
      obtain ⟨ba, oa, rfl, _, hca⟩ : ∃ ba oa, A = some ⟨ba, oa, none⟩ ∧ True ∧ wr.cell? ⟨ba, oa + i, none⟩ = some (.string n) := by
        have hin : i < (names σ.fs).length := by rw [HN.out]; exact hlt
        obtain ⟨ba, oa, e, _, hc⟩ := HC.out.row.cell i hin
        have e2 : (names σ.fs)[i] = n := by simp only [names, List.getElem_map, hnf]
        rw [e2] at hc
        exact ⟨ba, oa, e, trivial, hc⟩
      have cg := (HC.out.head HH.out HL.out).c2
      have hlk := HC.out.look HD.out hn'
      have hF := HC.out.file HD.out
      obtain ⟨fa, fc, hV2, hfc, _⟩ := hF.slice
      have c0 := hF.c0
      rw [hV2] at c0
      have c1 := hF.c1
      have c2 := hF.c2
      simp only at c0 c1 c2 hfc
      clear hnf hif hF
      by_cases q0 : lo = 0
      · have q1 : ((lo : Int) == 0) = true := by rw [q0]; rfl
        cases fr with
        | false =>
          have HN2 := Lib.hid (HC.out.calm HD.out q0 rfl)
          clear q0
          go_wp2_with fail
          go_roundw
          case rel => exact ⟨i + 1, K, l, c, js, _, _, rfl, by go_num, by omega, HN2⟩
          case measure => simp [intOf]; omega
        | true =>
          clear q0
          cases js with
          | nil =>
            have hl0 : l = 0 := by have := HC.out.keep.1; simpa using this.symm
            subst hl0
            go_wp2_with (at_delete; refine wpList_smap_drop Tryz.underlying9 Tryz.underlying56 rfl _ _ rfl rfl HC.out.lay.map n rfl hn' ?_; intro w2 hm2 ht2; have HM2 := Lib.hid hm2; have HT2 := Lib.hid (Only.grown ht2.grown); clear hm2 ht2)
            have HN2 := Lib.hid (HC.out.gone HD.out (fun h => Bool.noConfusion h.2) rfl (by decide) HC.out.keep HC.out.free HA'.out HM2.out HT2.out)
            go_roundw
            case rel => exact ⟨i + 1, K, 0, c, _, _, _, rfl, by go_num, by omega, HN2⟩
            case measure => simp [intOf]; omega
          | cons kz js =>
            have hlp : 0 < l := by have := HC.out.keep.1; simp at this; omega
            have hlc : l ≤ c := HC.out.keep.2.1
            have hcm : c ≤ maxLen := HC.out.keep.2.2.1
            obtain ⟨kb, ko, rfl, _, _⟩ := HC.out.keep.2.2.2.2.1 0 (by omega)
            have hkc := (view_tail HC.out.keep).1
            have d5 : decide ((0 : Int) < (l : Int)) = true := by simp; omega
            by_cases hkneg : kz < 0
            · have d6 : decide (kz < 0) = true := by simpa using hkneg
              go_wp2_with fail
              go_quiet (fail)
              have HC5 : Hid (Crs w (wr.drewN nq) b P V σ.fs ks (some ⟨ba, oa, none⟩) i (some ⟨kb, ko, none⟩) l c (kz :: js) ds V2) := HC.out.below (of_drewN ⟨nq, rfl⟩)
              clear HC c0 c1 c2 cg hca hlk hkc
              generalize wr.drewN nq = w5 at *
              have hF := HC5.out.file HD.out
              have c0 := hF.c0
              rw [hV2] at c0
              have c1 := hF.c1
              have c2 := hF.c2
              simp only at c0 c1 c2
              clear hF
              have cg := (HC5.out.head HH.out HL.out).c2
              obtain ⟨K1, hK1⟩ : ∃ K1 : Option Addr, (if c = 1 then some (⟨kb, ko, none⟩ : Addr) else some ⟨kb, ko + 1, none⟩) = K1 := ⟨_, rfl⟩
              have hvt := view_tail2 HC5.out.keep
              have hft := free_tail (c := c) HC5.out.free
              rw [hK1] at hvt hft
              have HVT := Lib.hid hvt
              have HFT := Lib.hid hft
              rw [hK1]
              clear hK1 hvt hft
              go_wp2_with (at_delete; refine wpList_smap_drop Tryz.underlying9 Tryz.underlying56 rfl _ _ rfl rfl HC5.out.lay.map n rfl hn' ?_; intro w2 hm2 ht2; have HM2 := Lib.hid hm2; have HT2 := Lib.hid (Only.grown ht2.grown); clear hm2 ht2)
              have HN2 := Lib.hid (HC5.out.gone HD.out (fun h => Bool.noConfusion h.2) rfl hkneg HVT.out HFT.out HA'.out HM2.out HT2.out)
              go_roundw
              case rel => exact ⟨i + 1, K1, (l - 1), (c - 1), _, _, _, rfl, by go_num, by omega, HN2⟩
              case measure => simp [intOf]; omega
            · have d6 : decide (kz < 0) = false := by simpa using hkneg
              go_wp2_with fail
              go_quiet (fail)
              have HC5 : Hid (Crs w (wr.drewN nq) b P V σ.fs ks (some ⟨ba, oa, none⟩) i (some ⟨kb, ko, none⟩) l c (kz :: js) ds V2) := HC.out.below (of_drewN ⟨nq, rfl⟩)
              clear HC c0 c1 c2 cg hca hlk hkc
              generalize wr.drewN nq = w5 at *
              have hF := HC5.out.file HD.out
              have c0 := hF.c0
              rw [hV2] at c0
              have c1 := hF.c1
              have c2 := hF.c2
              simp only at c0 c1 c2
              clear hF
              have cg := (HC5.out.head HH.out HL.out).c2
              obtain ⟨K1, hK1⟩ : ∃ K1 : Option Addr, (if c = 1 then some (⟨kb, ko, none⟩ : Addr) else some ⟨kb, ko + 1, none⟩) = K1 := ⟨_, rfl⟩
              have hvt := view_tail2 HC5.out.keep
              have hft := free_tail (c := c) HC5.out.free
              rw [hK1] at hvt hft
              have HVT := Lib.hid hvt
              have HFT := Lib.hid hft
              rw [hK1]
              clear hK1 hvt hft
              go_wp2_with fail
              refine wp_region_quiet_tail 19 (by kernel_rfl) (by kernel_rfl) ?_
              simp only [List.take_succ_cons, List.take_zero, List.drop_succ_cons, List.drop_zero]
              repeat (go_big_quiet_step (fail))
              refine wpQuiet_nil ?_
              rintro _ ⟨nq6, rfl⟩
              have HC6 := Lib.hid (HC5.out.below (of_drewN ⟨nq6, rfl⟩))
              have HVT6 := Lib.hid (HVT.out.below (of_drewN (w := w5) (w' := w5.drewN nq6) ⟨nq6, rfl⟩))
              clear HVT
              clear HC5 c0 c1 c2 cg
              generalize w5.drewN nq6 = w6 at *
              obtain ⟨q, hq⟩ : ∃ q, q = tx.size - lo + min (kz : Int).toNat lo := ⟨_, rfl⟩
              have HQ := Lib.hid hq
              have hqs : q ≤ tx.size := by omega
              have hE : (tx.size : Int) - (lo : Int) + min (max kz 0) (lo : Int) = (q : Nat) := by omega
              have HE : Hid (Value.int .i64 ((tx.size : Int) - (lo : Int) + min (max kz 0) (lo : Int)) = .int .i64 (q : Nat)) := congrArg _ hE
              have KC := Lib.hid (fcut_at (HC6.out.file HD.out) q hqs (by rw [HC6.out.own]; exact fun e => HC6.out.lay.no_p (HC6.out.mem HD.out) (HC6.out.mem HD.out) (by rw [HC6.out.own]; exact e)))
              clear hq hE
              go_wp2_with (go_at_call 52; rw [HE.out]; refine KC.out.mono ?_; rintro e w7 ⟨rfl, hF7, ho7, hs7⟩; have HF7 := Lib.hid hF7; have HO7 := Lib.hid ho7; clear hF7 ho7 hs7)
              have HN2 := Lib.hid (HC6.out.cut HD.out (fun h => Bool.noConfusion h.2) (by simp; omega) HQ.out HVT6.out HFT.out HA'.out HF7.out HO7.out)
              go_roundw
              case rel => exact ⟨i + 1, K1, (l - 1), (c - 1), _, _, _, rfl, by go_num, by omega, HN2⟩
              case measure => simp [intOf]; omega
      · have q1 : ((lo : Int) == 0) = false := by rw [beq_eq_false_iff_ne]; omega
        cases fr with
        | true =>
          clear q0
          cases js with
          | nil =>
            have hl0 : l = 0 := by have := HC.out.keep.1; simpa using this.symm
            subst hl0
            go_wp2_with (at_delete; refine wpList_smap_drop Tryz.underlying9 Tryz.underlying56 rfl _ _ rfl rfl HC.out.lay.map n rfl hn' ?_; intro w2 hm2 ht2; have HM2 := Lib.hid hm2; have HT2 := Lib.hid (Only.grown ht2.grown); clear hm2 ht2)
            have HN2 := Lib.hid (HC.out.gone HD.out (fun h => Bool.noConfusion h.2) rfl (by decide) HC.out.keep HC.out.free HA'.out HM2.out HT2.out)
            go_roundw
            case rel => exact ⟨i + 1, K, 0, c, _, _, _, rfl, by go_num, by omega, HN2⟩
            case measure => simp [intOf]; omega
          | cons kz js =>
            have hlp : 0 < l := by have := HC.out.keep.1; simp at this; omega
            have hlc : l ≤ c := HC.out.keep.2.1
            have hcm : c ≤ maxLen := HC.out.keep.2.2.1
            obtain ⟨kb, ko, rfl, _, _⟩ := HC.out.keep.2.2.2.2.1 0 (by omega)
            have hkc := (view_tail HC.out.keep).1
            have d5 : decide ((0 : Int) < (l : Int)) = true := by simp; omega
            by_cases hkneg : kz < 0
            · have d6 : decide (kz < 0) = true := by simpa using hkneg
              go_wp2_with fail
              go_quiet (fail)
              have HC5 : Hid (Crs w (wr.drewN nq) b P V σ.fs ks (some ⟨ba, oa, none⟩) i (some ⟨kb, ko, none⟩) l c (kz :: js) ds V2) := HC.out.below (of_drewN ⟨nq, rfl⟩)
              clear HC c0 c1 c2 cg hca hlk hkc
              generalize wr.drewN nq = w5 at *
              have hF := HC5.out.file HD.out
              have c0 := hF.c0
              rw [hV2] at c0
              have c1 := hF.c1
              have c2 := hF.c2
              simp only at c0 c1 c2
              clear hF
              have cg := (HC5.out.head HH.out HL.out).c2
              obtain ⟨K1, hK1⟩ : ∃ K1 : Option Addr, (if c = 1 then some (⟨kb, ko, none⟩ : Addr) else some ⟨kb, ko + 1, none⟩) = K1 := ⟨_, rfl⟩
              have hvt := view_tail2 HC5.out.keep
              have hft := free_tail (c := c) HC5.out.free
              rw [hK1] at hvt hft
              have HVT := Lib.hid hvt
              have HFT := Lib.hid hft
              rw [hK1]
              clear hK1 hvt hft
              go_wp2_with (at_delete; refine wpList_smap_drop Tryz.underlying9 Tryz.underlying56 rfl _ _ rfl rfl HC5.out.lay.map n rfl hn' ?_; intro w2 hm2 ht2; have HM2 := Lib.hid hm2; have HT2 := Lib.hid (Only.grown ht2.grown); clear hm2 ht2)
              have HN2 := Lib.hid (HC5.out.gone HD.out (fun h => Bool.noConfusion h.2) rfl hkneg HVT.out HFT.out HA'.out HM2.out HT2.out)
              go_roundw
              case rel => exact ⟨i + 1, K1, (l - 1), (c - 1), _, _, _, rfl, by go_num, by omega, HN2⟩
              case measure => simp [intOf]; omega
            · have d6 : decide (kz < 0) = false := by simpa using hkneg
              go_wp2_with fail
              go_quiet (fail)
              have HC5 : Hid (Crs w (wr.drewN nq) b P V σ.fs ks (some ⟨ba, oa, none⟩) i (some ⟨kb, ko, none⟩) l c (kz :: js) ds V2) := HC.out.below (of_drewN ⟨nq, rfl⟩)
              clear HC c0 c1 c2 cg hca hlk hkc
              generalize wr.drewN nq = w5 at *
              have hF := HC5.out.file HD.out
              have c0 := hF.c0
              rw [hV2] at c0
              have c1 := hF.c1
              have c2 := hF.c2
              simp only at c0 c1 c2
              clear hF
              have cg := (HC5.out.head HH.out HL.out).c2
              obtain ⟨K1, hK1⟩ : ∃ K1 : Option Addr, (if c = 1 then some (⟨kb, ko, none⟩ : Addr) else some ⟨kb, ko + 1, none⟩) = K1 := ⟨_, rfl⟩
              have hvt := view_tail2 HC5.out.keep
              have hft := free_tail (c := c) HC5.out.free
              rw [hK1] at hvt hft
              have HVT := Lib.hid hvt
              have HFT := Lib.hid hft
              rw [hK1]
              clear hK1 hvt hft
              go_wp2_with fail
              refine wp_region_quiet_tail 19 (by kernel_rfl) (by kernel_rfl) ?_
              simp only [List.take_succ_cons, List.take_zero, List.drop_succ_cons, List.drop_zero]
              repeat (go_big_quiet_step (fail))
              refine wpQuiet_nil ?_
              rintro _ ⟨nq6, rfl⟩
              have HC6 := Lib.hid (HC5.out.below (of_drewN ⟨nq6, rfl⟩))
              have HVT6 := Lib.hid (HVT.out.below (of_drewN (w := w5) (w' := w5.drewN nq6) ⟨nq6, rfl⟩))
              clear HVT
              clear HC5 c0 c1 c2 cg
              generalize w5.drewN nq6 = w6 at *
              obtain ⟨q, hq⟩ : ∃ q, q = tx.size - lo + min (kz : Int).toNat lo := ⟨_, rfl⟩
              have HQ := Lib.hid hq
              have hqs : q ≤ tx.size := by omega
              have hE : (tx.size : Int) - (lo : Int) + min (max kz 0) (lo : Int) = (q : Nat) := by omega
              have HE : Hid (Value.int .i64 ((tx.size : Int) - (lo : Int) + min (max kz 0) (lo : Int)) = .int .i64 (q : Nat)) := congrArg _ hE
              have KC := Lib.hid (fcut_at (HC6.out.file HD.out) q hqs (by rw [HC6.out.own]; exact fun e => HC6.out.lay.no_p (HC6.out.mem HD.out) (HC6.out.mem HD.out) (by rw [HC6.out.own]; exact e)))
              clear hq hE
              go_wp2_with (go_at_call 52; rw [HE.out]; refine KC.out.mono ?_; rintro e w7 ⟨rfl, hF7, ho7, hs7⟩; have HF7 := Lib.hid hF7; have HO7 := Lib.hid ho7; clear hF7 ho7 hs7)
              have HN2 := Lib.hid (HC6.out.cut HD.out (fun h => Bool.noConfusion h.2) (by simp; omega) HQ.out HVT6.out HFT.out HA'.out HF7.out HO7.out)
              go_roundw
              case rel => exact ⟨i + 1, K1, (l - 1), (c - 1), _, _, _, rfl, by go_num, by omega, HN2⟩
              case measure => simp [intOf]; omega
        | false =>
          cases js with
          | nil =>
            have hl0 : l = 0 := by have := HC.out.keep.1; simpa using this.symm
            subst hl0
            go_wp2_with fail
            refine wp_region_quiet_tail 19 (by kernel_rfl) (by kernel_rfl) ?_
            simp only [List.take_succ_cons, List.take_zero, List.drop_succ_cons, List.drop_zero]
            repeat (go_big_quiet_step (fail))
            refine wpQuiet_nil ?_
            rintro _ ⟨nq6, rfl⟩
            have HC6 := Lib.hid (HC.out.below (of_drewN ⟨nq6, rfl⟩))
            clear HC c0 c1 c2 cg
            generalize wr.drewN nq6 = w6 at *
            obtain ⟨q, hq⟩ : ∃ q, q = tx.size - lo + min ((-1) : Int).toNat lo := ⟨_, rfl⟩
            have HQ := Lib.hid hq
            have hqs : q ≤ tx.size := by omega
            have hE : (tx.size : Int) - (lo : Int) + min (max (-1) 0) (lo : Int) = (q : Nat) := by omega
            have HE : Hid (Value.int .i64 ((tx.size : Int) - (lo : Int) + min (max (-1) 0) (lo : Int)) = .int .i64 (q : Nat)) := congrArg _ hE
            have KC := Lib.hid (fcut_at (HC6.out.file HD.out) q hqs (by rw [HC6.out.own]; exact fun e => HC6.out.lay.no_p (HC6.out.mem HD.out) (HC6.out.mem HD.out) (by rw [HC6.out.own]; exact e)))
            clear hq hE
            go_wp2_with (go_at_call 52; rw [HE.out]; refine KC.out.mono ?_; rintro e w7 ⟨rfl, hF7, ho7, hs7⟩; have HF7 := Lib.hid hF7; have HO7 := Lib.hid ho7; clear hF7 ho7 hs7)
            have HN2 := Lib.hid (HC6.out.cut HD.out (fun h => q0 h.1) (by simp) HQ.out HC6.out.keep HC6.out.free HA'.out HF7.out HO7.out)
            go_roundw
            case rel => exact ⟨i + 1, K, 0, c, _, _, _, rfl, by go_num, by omega, HN2⟩
            case measure => simp [intOf]; omega
          | cons kz js =>
            have hlp : 0 < l := by have := HC.out.keep.1; simp at this; omega
            have hlc : l ≤ c := HC.out.keep.2.1
            have hcm : c ≤ maxLen := HC.out.keep.2.2.1
            obtain ⟨kb, ko, rfl, _, _⟩ := HC.out.keep.2.2.2.2.1 0 (by omega)
            have hkc := (view_tail HC.out.keep).1
            have d5 : decide ((0 : Int) < (l : Int)) = true := by simp; omega
            go_wp2_with fail
            go_quiet (fail)
            have HC5 : Hid (Crs w (wr.drewN nq) b P V σ.fs ks (some ⟨ba, oa, none⟩) i (some ⟨kb, ko, none⟩) l c (kz :: js) ds V2) := HC.out.below (of_drewN ⟨nq, rfl⟩)
            clear HC c0 c1 c2 cg hca hlk hkc
            generalize wr.drewN nq = w5 at *
            have hF := HC5.out.file HD.out
            have c0 := hF.c0
            rw [hV2] at c0
            have c1 := hF.c1
            have c2 := hF.c2
            simp only at c0 c1 c2
            clear hF
            have cg := (HC5.out.head HH.out HL.out).c2
            obtain ⟨K1, hK1⟩ : ∃ K1 : Option Addr, (if c = 1 then some (⟨kb, ko, none⟩ : Addr) else some ⟨kb, ko + 1, none⟩) = K1 := ⟨_, rfl⟩
            have hvt := view_tail2 HC5.out.keep
            have hft := free_tail (c := c) HC5.out.free
            rw [hK1] at hvt hft
            have HVT := Lib.hid hvt
            have HFT := Lib.hid hft
            rw [hK1]
            clear hK1 hvt hft
            go_wp2_with fail
            refine wp_region_quiet_tail 19 (by kernel_rfl) (by kernel_rfl) ?_
            simp only [List.take_succ_cons, List.take_zero, List.drop_succ_cons, List.drop_zero]
            repeat (go_big_quiet_step (fail))
            refine wpQuiet_nil ?_
            rintro _ ⟨nq6, rfl⟩
            have HC6 := Lib.hid (HC5.out.below (of_drewN ⟨nq6, rfl⟩))
            have HVT6 := Lib.hid (HVT.out.below (of_drewN (w := w5) (w' := w5.drewN nq6) ⟨nq6, rfl⟩))
            clear HVT
            clear HC5 c0 c1 c2 cg
            generalize w5.drewN nq6 = w6 at *
            obtain ⟨q, hq⟩ : ∃ q, q = tx.size - lo + min (kz : Int).toNat lo := ⟨_, rfl⟩
            have HQ := Lib.hid hq
            have hqs : q ≤ tx.size := by omega
            have hE : (tx.size : Int) - (lo : Int) + min (max kz 0) (lo : Int) = (q : Nat) := by omega
            have HE : Hid (Value.int .i64 ((tx.size : Int) - (lo : Int) + min (max kz 0) (lo : Int)) = .int .i64 (q : Nat)) := congrArg _ hE
            have KC := Lib.hid (fcut_at (HC6.out.file HD.out) q hqs (by rw [HC6.out.own]; exact fun e => HC6.out.lay.no_p (HC6.out.mem HD.out) (HC6.out.mem HD.out) (by rw [HC6.out.own]; exact e)))
            clear hq hE
            go_wp2_with (go_at_call 52; rw [HE.out]; refine KC.out.mono ?_; rintro e w7 ⟨rfl, hF7, ho7, hs7⟩; have HF7 := Lib.hid hF7; have HO7 := Lib.hid ho7; clear hF7 ho7 hs7)
            have HN2 := Lib.hid (HC6.out.cut HD.out (fun h => q0 h.1) (by simp) HQ.out HVT6.out HFT.out HA'.out HF7.out HO7.out)
            go_roundw
            case rel => exact ⟨i + 1, K1, (l - 1), (c - 1), _, _, _, rfl, by go_num, by omega, HN2⟩
            case measure => simp [intOf]; omega
    · obtain rfl : i = N := by omega
      have hdrop : σ.fs.drop i = [] := List.drop_of_length_le (by have := HN.out; have := HLEN.out; omega)
      have he := HC.out.eq
      rw [hdrop] at he
      have hds : crs σ.fs ks = ds ++ σ.fs.drop i := by rw [he, hdrop]; rfl
      have hh := HC.out.head HH.out HL.out
      have hlay := HC.out.lay
      rw [← hds] at hlay
      have hh' : wr.heap[g]? = _ := hh
      have h1 := heap_set (i := 3) hh' (.bool false)
      have h2 := heap_set (i := 4) h1 (.int .i64 0)
      have c3 := DHead.c3 hh
      have c4 := DHead.c4 hh
      have f3 := DHead.fr hh 3
      have f4 := DHead.fr hh 4
      have c4' : (wr.setCell ⟨g, 3, none⟩ (.bool false)).cell? ⟨g, 4, none⟩ = some (.int .i64 ((σ.fuse.getD 0 : Nat) : Int)) := (cell_hp h1 4).trans rfl
      have hsub : ∀ k, OLay b P V2 (crs σ.fs ks) k → OLay b P V σ.fs k := fun k hk => by rw [hds] at hk; exact OLay.sub HC.out hk
      have ho : Only (fun k => k = g) wr ((wr.setCell ⟨g, 3, none⟩ (.bool false)).setCell ⟨g, 4, none⟩ (.int .i64 0)) := (Only.set wr g 3 _).trans (Only.set _ g 4 _) (fun i hi => Or.inl hi)
      have HR : Hid (Did TheDisk O w g (crash σ ks) (.returned (.int .i64 (0 : Nat))) ((wr.setCell ⟨g, 3, none⟩ (.bool false)).setCell ⟨g, 4, none⟩ (.int .i64 0))) :=
        did_of (τ := ⟨σ.room, none, crs σ.fs ks⟩) (er := 0) hO HI.out (fun k hk => by cases hk) h2 (hlay.only ho (fun k hk e => HH.out.not_lay HL.out (hsub k hk) e))
          ((HC.out.only.wide (O' := O) (fun k hk => (hO k).2 (Or.inr hk))).trans ho (fun k hk => Or.inl ((hO k).2 (Or.inl hk)))) (fun k hk => Or.inl (hsub k hk))
      clear h1 h2 hh hh' hlay ho he hds hdrop hsub HC
      go_wp2_with fail
      go_ret
      exact HR.out

end Go.Proofs.YtikbokbmaihdbaaGreatDoor
