/-
  Layer 8: Open, over any disk.
-/
import Derived.Test.YtikbokbmaihdbaaGreatDoorLMem
import Derived.Test.YtikbokbmaihdbaaGreatDoorLFacts
import Derived.Test.YtikbokbmaihdbaaGreatDoorFWalkC
import Derived.Test.YtikbokbmaihdbaaGreatDoorDMay
namespace Go.Proofs.YtikbokbmaihdbaaGreatDoor
open Go.RowKit Go.ChangeShapes Go.WideShapes

theorem sc_size : ∀ (m : Nat) (l : List UInt8), l.length ≤ m → (frs (sc l).1).length = (sc l).2.1 ∧ (sc l).2.1 ≤ l.length
  | 0, l, h => by
    have : l = [] := List.length_eq_zero_iff.1 (by omega)
    subst this
    exact ⟨rfl, Nat.le_refl _⟩
  | m + 1, l, h => by
    by_cases h0 : l.length = 0
    · have : l = [] := List.length_eq_zero_iff.1 h0
      subst this
      exact ⟨rfl, Nat.le_refl _⟩
    · by_cases hc : cE l = 0
      · have hr : (cR l).length + (8 + (cT l).length) = l.length := by rw [cR_eq hc, List.length_drop, cT_len hc]; have := cE_zero hc; omega
        obtain ⟨h1, h2⟩ := sc_size m (cR l) (by omega)
        rw [sc_step hc]
        refine ⟨?_, ?_⟩
        · show (frs (str (cT l) :: (sc (cR l)).1)).length = 8 + (cT l).length + (sc (cR l)).2.1
          rw [frs, List.flatMap_cons, List.length_append, fr_len]
          have e : (str (cT l)).data.toList.length = (cT l).length := by simp [str]
          have h3 : (List.flatMap (fun t => fr t.data.toList) (sc (cR l)).1).length = (sc (cR l)).2.1 := h1
          omega
        · show 8 + (cT l).length + (sc (cR l)).2.1 ≤ l.length
          omega
      · rw [sc_wrong h0 hc]
        exact ⟨rfl, Nat.zero_le _⟩
theorem lopen_b1 {σ σ1 : Dsk} {n : ByteArray} {e : Nat} (h1 : made σ n = (σ1, e)) (he : e ≠ 0) : lopen σ n = (σ1, e, []) := by
  simp only [lopen, h1, ne_eq, he, not_false_eq_true, if_true]
theorem lopen_b2 {σ σ1 σ2 : Dsk} {n : ByteArray} {e : Nat} (h1 : made σ n = (σ1, 0)) (h2 : fit σ1 n (get σ.fs n).isNone = (σ2, e)) (he : e ≠ 0) : lopen σ n = (σ2, e, []) := by
  simp only [lopen, h1, h2, ne_eq, he, not_true_eq_false, not_false_eq_true, if_false, if_true]
theorem lopen_ok {σ σ1 σ2 : Dsk} {n : ByteArray} {ts : List ByteArray} (h1 : made σ n = (σ1, 0)) (h2 : fit σ1 n (get σ.fs n).isNone = (σ2, 0)) (h3 : recsOf σ1 n = ts) : lopen σ n = (σ2, 0, ts) := by
  rw [lopen_eq h1 h2, h3]
theorem create_get {σ τ : Dsk} {n : ByteArray} (hs : Srt σ.fs) (hg : get σ.fs n = none) (h : create σ n = (τ, 0)) : get τ.fs n = some ⟨⟨#[]⟩, 0, true⟩ := by
  unfold create at h
  rw [hg] at h
  split at h
  · cases h
  · split at h
    · cases h
    · split at h
      · rename_i h3; exact absurd h3 (by simp)
      · split at h
        · cases h
        · injection h with h1 h2
          rw [← h1]
          exact get_ins_same hs hg

theorem wf_i64 (n : Nat) (h : n ≤ 9223372036854775807) : (Lit.int .i64 (n : Int)).wf = true := by
  simp only [Lit.wf, Bool.and_eq_true, decide_eq_true_eq]
  exact ⟨show (-9223372036854775808 : Int) ≤ n by omega, show (n : Int) ≤ 9223372036854775807 by omega⟩
theorem strs_only {O : Nat → Prop} {w w' : World} {A : Option Addr} {n : Nat} {ss : List ByteArray} (h : Strs w A n ss) (ho : Only O w w') (hA : ∀ ad, A = some ad → ¬ O ad.block) : Strs w' A n ss :=
  ⟨h.len, fun i hi => by
    obtain ⟨b, off, e, hl, hc⟩ := h.cell i hi
    refine ⟨b, off, e, Nat.lt_of_lt_of_le hl ho.size, ?_⟩
    have hb := ho.block b hl (hA _ e)
    unfold World.cell? at hc ⊢
    rw [hb]
    exact hc⟩
/-- What Open leaves, and where the row lies. -/
def Opened0 (D : Disks) (O : Nat → Prop) (w : World) (g : Nat) (n : ByteArray) (r : Dsk × Nat × List ByteArray) (e : Ending) (w' : World) : Prop :=
  ∃ O', D O' w' g r.1 ∧ Only O w w' ∧ (∀ k, O' k → O k ∨ w.heap.size ≤ k) ∧
    ((r.2.1 = 0 ∧ ∃ x Q A c, e = .returned (.tuple #[ptr x, .slice A r.2.2.length c, .int .i64 0]) ∧ TheLog Q w' x g n ⟨r.2.2, r.2.2.length, false⟩ ∧ (∀ k, Q k → w.heap.size ≤ k) ∧ (∀ k, O' k → ¬ Q k) ∧ Strs w' A r.2.2.length r.2.2 ∧ (A = none → c = 0) ∧ ∀ ad, A = some ad → r.2.2 ≠ [] → w.heap.size ≤ ad.block ∧ ¬ O' ad.block ∧ ¬ Q ad.block) ∨
     (r.2.1 ≠ 0 ∧ ∃ A c, e = .returned (.tuple #[.pointer none, .slice A 0 c, .int .i64 (r.2.1 : Nat)])))
theorem Opened0.weak {D : Disks} {O : Nat → Prop} {w w' : World} {g : Nat} {n : ByteArray} {r : Dsk × Nat × List ByteArray} {e : Ending} (h : Opened0 D O w g n r e w') : Opened D TheLog O w g n r e w' := by
  obtain ⟨O', h1, h2, h3, h4⟩ := h
  refine ⟨O', h1, h2, h3, ?_⟩
  rcases h4 with ⟨h0, x, Q, A, c, he, hl, hq, hx, hs, hn, _⟩ | h4
  · exact Or.inl ⟨h0, x, Q, A, c, he, hl, hq, hx, hs, hn⟩
  · exact Or.inr h4
theorem opened_end {D : Disks} (hD : DoorB D) {O O3 : Nat → Prop} {w w3 w4 : World} {g : Nat} {τ : Dsk} {n : ByteArray} {ts : List ByteArray} {A : Option Addr} {c k : Nat} (hd3 : D O3 w3 g τ) (ho3 : Only O w w3) (hn3 : ∀ k, O3 k → O k ∨ w.heap.size ≤ k) (hst : Strs w3 A ts.length ts) (hA0 : A = none → c = 0) (hk : (frs ts).length = k) (hn : n.size ≤ many) (hs : k ≤ 1048576) (hb4 : Below w3.heap.size w3 w4) (hA9 : ∀ ad, A = some ad → ts ≠ [] → w.heap.size ≤ ad.block ∧ ¬ O3 ad.block) :
    Opened0 D O w g n (τ, 0, ts) (.returned (.tuple #[ptr w4.heap.size, .slice A ts.length c, .int .i64 0])) (w4.alloc (.cells #[ptr g, .string n, .int .i64 (k : Nat), .int .i64 (ts.length : Nat), .int .i64 (ts.length : Nat), .bool false] 71)) := by
  have hb := hb4.alloc hb4.size (Obj.cells #[ptr g, .string n, .int .i64 (k : Nat), .int .i64 (ts.length : Nat), .int .i64 (ts.length : Nat), .bool false] 71)
  have h1 := ho3.size
  have h2 := hb4.size
  refine ⟨O3, hD.below hd3 hb, ho3.trans (hb.only O3) (fun i hi => hn3 i hi), hn3, Or.inl ⟨rfl, w4.heap.size, fun k => k = w4.heap.size, A, c, rfl, ⟨hn, by show (frs ts).length ≤ _; omega, ?_, fun k => Iff.rfl⟩, fun k hk => by omega, fun k hk hq => ?_, hst.below hb, hA0, fun ad had hne => ⟨(hA9 ad had hne).1, (hA9 ad had hne).2, fun hq => ?_⟩⟩⟩
  · have h := heap_alloc_new w4 (Obj.cells #[ptr g, .string n, .int .i64 (k : Nat), .int .i64 (ts.length : Nat), .int .i64 (ts.length : Nat), .bool false] 71)
    show _ = some (Obj.cells #[ptr g, .string n, .int .i64 ((frs ts).length : Nat), .int .i64 (ts.length : Nat), .int .i64 (ts.length : Nat), .bool false] 71 (0, 0))
    rw [hk]
    exact h
  · have := hD.own hd3 k hk
    omega
  · have h5 : 0 < ts.length := List.length_pos_iff.2 hne
    obtain ⟨b, off, e, hl, _⟩ := hst.cell 0 h5
    rw [had] at e
    injection e with e
    rw [e] at hq
    simp only at hq
    omega
theorem opened_fail {D : Disks} {O O3 : Nat → Prop} {w w3 : World} {g : Nat} {τ : Dsk} {n : ByteArray} {er : Nat} (hd3 : D O3 w3 g τ) (ho3 : Only O w w3) (hn3 : ∀ k, O3 k → O k ∨ w.heap.size ≤ k) (her : er ≠ 0) :
    Opened0 D O w g n (τ, er, []) (.returned (.tuple #[.pointer none, .slice none 0 0, .int .i64 (er : Nat)])) w3 :=
  ⟨O3, hd3, ho3, hn3, Or.inr ⟨her, none, 0, rfl⟩⟩

set_option maxRecDepth 100000 in
set_option maxHeartbeats 2000000 in
theorem lg_opens0 {D : Disks} (hD : DoorB D) {O : Nat → Prop} {w : World} {g : Nat} {σ : Dsk} (n : ByteArray) (hd : D O w g σ) (hr : σ.room ≤ 1048576) (hn : n.size ≤ many) (hT : Hid (Tab w)) : Calls Tryz.prog 8 #[ptr g, .string n] w (Opened0 D O w g n (lopen σ n)) := by
  have HD := Lib.hid hD
  have HI := Lib.hid (hD.inv hd)
  have KR := hD.read n hd hn
  have H0 := Lib.hid hd
  have hnm : (Lit.int .i64 0).wf = true := rfl
  clear hnm hd hD
  cases hg : get σ.fs n with
  | some f =>
    have e1 : textOf σ n = f.text := by unfold textOf; rw [hg]
    have e2 : errOf σ n = 0 := by unfold errOf; rw [hg]
    have e3 : looseOf σ n = f.loose := by unfold looseOf; rw [hg]
    rw [e1, e2] at KR
    have hfs : f.text.size ≤ 1048576 := by
      have h1 := used_upd (f := ⟨⟨#[]⟩, 0, false⟩) HI.out.srt hg
      have h2 := HI.out.room
      have h3 : (⟨⟨#[]⟩, 0, false⟩ : Fil).text.size = 0 := rfl
      omega
    obtain ⟨T, hT0⟩ : ∃ T, f.text = T := ⟨_, rfl⟩
    obtain ⟨ts, k, er0, hsc⟩ : ∃ ts k e, sc f.text.data.toList = (ts, k, e) := ⟨_, _, _, rfl⟩
    have hsz := sc_size _ f.text.data.toList (Nat.le_refl _)
    rw [hsc] at hsz
    have HK : Hid ((frs ts).length = k) := hsz.1
    have hkl : k ≤ f.text.size := by have := hsz.2; simpa using this
    have hmk : made σ n = (σ, 0) := by unfold made; rw [hg]; rfl
    have hno : (get σ.fs n).isNone = false := by rw [hg]; rfl
    have hrec : recsOf σ n = ts := by unfold recsOf; rw [hg]; show (sc f.text.data.toList).1 = ts; rw [hsc]
    have hfit1 : k < f.text.size → fit σ n false = cut σ n (k : Nat) := fun h => by unfold fit; rw [hg]; dsimp only; rw [show (scanOf f).2.1 = k by unfold scanOf; rw [hsc], if_pos h]
    have hfit2 : ¬ k < f.text.size → 0 < f.loose → fit σ n false = sync σ n := fun h h2 => by unfold fit; rw [hg]; dsimp only; rw [show (scanOf f).2.1 = k by unfold scanOf; rw [hsc], if_neg h, if_pos (Or.inr h2)]
    have hfit3 : ¬ k < f.text.size → ¬ 0 < f.loose → fit σ n false = (σ, 0) := fun h h2 => by unfold fit; rw [hg]; dsimp only; rw [show (scanOf f).2.1 = k by unfold scanOf; rw [hsc], if_neg h, if_neg (by simp; omega)]
    have EB : Hid (∀ τ er, fit σ n false = (τ, er) → er ≠ 0 → lopen σ n = (τ, er, [])) := fun τ er h h0 => lopen_b2 hmk (by rw [hno]; exact h) h0
    have EG : Hid (∀ τ, fit σ n false = (τ, 0) → lopen σ n = (τ, 0, ts)) := fun τ h => lopen_ok hmk (by rw [hno]; exact h) hrec
    rw [hT0] at KR hsc hfs hkl hfit1 hfit2 hfit3
    have KS : Hid (∀ W, Below w.heap.size w W → Calls Tryz.prog 25 #[.string T] W fun r w' => ∃ A cap, r = .returned (.tuple #[.slice A ts.length cap, .int .i64 k, .int .i64 er0]) ∧ Strs w' A ts.length ts ∧ Below W.heap.size W w' ∧ (A = none → cap = 0) ∧ ∀ ad, A = some ad → W.heap.size ≤ ad.block) := fun W hW => Scan_any0 T hfs W (hT.out.below hW) ts k er0 hsc
    have F1 := Lib.hid hfit1
    have F2 := Lib.hid hfit2
    have F3 := Lib.hid hfit3
    clear hmk hno hrec hfit1 hfit2 hfit3 hsz hsc e1 e2 hT0 hg
    go_enter Tryz.func8, Tryz.ntmps8
    go_wp2_with fail
    refine KR.mono ?_
    rintro e w1 ⟨rfl, hb1⟩
    have HB1 := Lib.hid hb1
    clear hb1 KR
    go_wp2_with fail
    refine (KS.out _ HB1.out).mono ?_
    rintro e w2 ⟨A, c, rfl, hst, hb2, hA0, hAn⟩
    have HB2 := Lib.hid (HB1.out.trans (hb2.mono HB1.out.size))
    have HST := Lib.hid hst
    have HA0 := Lib.hid hA0
    have HAN : Hid (∀ ad, A = some ad → ¬ O ad.block) := fun ad had ho => by
      have h1 := hAn ad had
      have h2 := HD.out.own H0.out _ ho
      have h3 := HB1.out.size
      omega
    have HANN : Hid (∀ ad, A = some ad → w.heap.size ≤ ad.block) := fun ad had => Nat.le_trans HB1.out.size (hAn ad had)
    clear hb2 hst hA0 hAn HB1 KS
    have HD2 := Lib.hid (HD.out.below H0.out HB2.out)
    by_cases hk : k < T.size
    · have d1 : decide ((k : Int) < (T.size : Int)) = true := by simp; omega
      have KC := HD.out.cut n (k : Nat) HD2.out hn (wf_i64 k (by omega))
      obtain ⟨τ, er, hτ⟩ : ∃ τ er, cut σ n (k : Nat) = (τ, er) := ⟨_, _, rfl⟩
      rw [hτ] at KC
      have HF : Hid (fit σ n false = (τ, er)) := (F1.out hk).trans hτ
      clear hτ F1 F2 F3
      go_wp2_with fail
      refine KC.mono ?_
      rintro e w3 ⟨rfl, O3, hd3, ho3, hn3⟩
      have HD4 := Lib.hid hd3
      have HO4 := Lib.hid ((HB2.out.only O).trans ho3 (fun k hk => Or.inl hk))
      have HN4 : Hid (∀ k, O3 k → O k ∨ w.heap.size ≤ k) := fun k hk => by rcases hn3 k hk with h | h; exact Or.inl h; exact Or.inr (Nat.le_trans HB2.out.size h)
      have HST4 : Hid (Strs w3 A ts.length ts) := strs_only HST.out ho3 HAN.out
      have HA9 : Hid (∀ ad, A = some ad → ts ≠ [] → w.heap.size ≤ ad.block ∧ ¬ O3 ad.block) := fun ad had hne => ⟨HANN.out ad had, fun ho => by
        rcases hn3 _ ho with h | h
        · exact HAN.out ad had h
        · obtain ⟨b, off, e, hl, _⟩ := HST.out.cell 0 (List.length_pos_iff.2 hne)
          rw [had] at e
          injection e with e
          rw [e] at h
          simp only at h
          omega⟩
      clear hd3 ho3 hn3 KC
      by_cases h0 : er = 0
      · subst h0
        have HE := Lib.hid (EG.out τ HF.out)
        clear EB EG HF
        go_wp2_with (go_at_call 29; refine (clone_at n _ hn).mono ?_; rintro e w4 ⟨rfl, hb4⟩)
        go_ret3
        rw [HE.out]
        exact opened_end HD.out HD4.out HO4.out HN4.out HST4.out HA0.out HK.out hn (by omega) hb4 HA9.out
      · have q : ((er : Int) == 0) = false := by rw [beq_eq_false_iff_ne]; omega
        have HE := Lib.hid (EB.out τ er HF.out h0)
        clear EB EG HF
        go_wp2_with fail
        go_ret3
        rw [HE.out]
        exact opened_fail HD4.out HO4.out HN4.out h0
    · have d1 : decide ((k : Int) < (T.size : Int)) = false := by simp; omega
      have KL := HD.out.loose n HD2.out hn
      rw [e3] at KL
      obtain ⟨fl, hfl⟩ : ∃ fl, f.loose = fl := ⟨_, rfl⟩
      rw [hfl] at KL F2 F3
      clear hfl
      go_wp2_with fail
      refine KL.mono ?_
      rintro e w3 ⟨rfl, hb3⟩
      have HB3 := Lib.hid (HB2.out.trans (hb3.mono HB2.out.size))
      have HST3 : Hid (Strs w3 A ts.length ts) := HST.out.below hb3
      clear KL HD2 hb3
      have HD3 := Lib.hid (HD.out.below H0.out HB3.out)
      by_cases hl : 0 < fl
      · have d2 : decide (0 < fl) = true := decide_eq_true (by omega)
        have KC := HD.out.sync n HD3.out hn
        obtain ⟨τ, er, hτ⟩ : ∃ τ er, sync σ n = (τ, er) := ⟨_, _, rfl⟩
        rw [hτ] at KC
        have HF : Hid (fit σ n false = (τ, er)) := (F2.out hk hl).trans hτ
        clear hτ F1 F2 F3 HST HB2
        have HST := HST3
        have HB2 := HB3
        clear HST3 HB3
        go_wp2_with fail
        refine KC.mono ?_
        rintro e w3 ⟨rfl, O3, hd3, ho3, hn3⟩
        have HD4 := Lib.hid hd3
        have HO4 := Lib.hid ((HB2.out.only O).trans ho3 (fun k hk => Or.inl hk))
        have HN4 : Hid (∀ k, O3 k → O k ∨ w.heap.size ≤ k) := fun k hk => by rcases hn3 k hk with h | h; exact Or.inl h; exact Or.inr (Nat.le_trans HB2.out.size h)
        have HST4 : Hid (Strs w3 A ts.length ts) := strs_only HST.out ho3 HAN.out
        have HA9 : Hid (∀ ad, A = some ad → ts ≠ [] → w.heap.size ≤ ad.block ∧ ¬ O3 ad.block) := fun ad had hne => ⟨HANN.out ad had, fun ho => by
          rcases hn3 _ ho with h | h
          · exact HAN.out ad had h
          · obtain ⟨b, off, e, hl, _⟩ := HST.out.cell 0 (List.length_pos_iff.2 hne)
            rw [had] at e
            injection e with e
            rw [e] at h
            simp only at h
            omega⟩
        clear hd3 ho3 hn3 KC
        by_cases h0 : er = 0
        · subst h0
          have HE := Lib.hid (EG.out τ HF.out)
          clear EB EG HF
          go_wp2_with (go_at_call 29; refine (clone_at n _ hn).mono ?_; rintro e w4 ⟨rfl, hb4⟩)
          go_ret3
          rw [HE.out]
          exact opened_end HD.out HD4.out HO4.out HN4.out HST4.out HA0.out HK.out hn (by omega) hb4 HA9.out
        · have q : ((er : Int) == 0) = false := by rw [beq_eq_false_iff_ne]; omega
          have HE := Lib.hid (EB.out τ er HF.out h0)
          clear EB EG HF
          go_wp2_with fail
          go_ret3
          rw [HE.out]
          exact opened_fail HD4.out HO4.out HN4.out h0
      · have d2 : decide (0 < fl) = false := decide_eq_false (by omega)
        have HE := Lib.hid (EG.out σ (F3.out hk hl))
        clear F1 F2 F3 EB EG
        go_wp2_with (go_at_call 29; refine (clone_at n _ hn).mono ?_; rintro e w4 ⟨rfl, hb4⟩)
        go_ret3
        rw [HE.out]
        exact opened_end HD.out HD3.out (HB3.out.only O) (fun k hk => Or.inl hk) HST3.out HA0.out HK.out hn (by omega) hb4 (fun ad had _ => ⟨HANN.out ad had, HAN.out ad had⟩)
  | none =>
    have e1 : textOf σ n = ⟨#[]⟩ := by unfold textOf; rw [hg]
    have e2 : errOf σ n = 5 := by unfold errOf; rw [hg]
    rw [e1, e2] at KR
    obtain ⟨T, hT0⟩ : ∃ T : ByteArray, ⟨#[]⟩ = T := ⟨_, rfl⟩
    have hTs : T.size = 0 := by rw [← hT0]; rfl
    rw [hT0] at KR
    have KS := Lib.hid (fun W => Scan_nil T hTs W)
    obtain ⟨τ1, er1, hτ1⟩ : ∃ τ er, create σ n = (τ, er) := ⟨_, _, rfl⟩
    have hmk : made σ n = (τ1, er1) := by unfold made; rw [hg]; exact hτ1
    have hno : (get σ.fs n).isNone = true := by rw [hg]; rfl
    have d1 : decide (0 < T.size) = false := decide_eq_false (by omega)
    have KC : Hid (∀ W, Below w.heap.size w W → Calls Tryz.prog 24 #[ptr g, .string n] W (Did D O W g (τ1, er1))) := fun W hW => by rw [← hτ1]; exact HD.out.create n (HD.out.below H0.out hW) hn
    by_cases h1 : er1 = 0
    · subst h1
      have hg1 := create_get HI.out.srt hg hτ1
      obtain ⟨τ, er, hτ⟩ : ∃ τ er, sync τ1 n = (τ, er) := ⟨_, _, rfl⟩
      have hft : fit τ1 n true = (τ, er) := by
        unfold fit
        rw [hg1]
        dsimp only
        rw [if_neg (show ¬ _ < (⟨#[]⟩ : ByteArray).size from Nat.not_lt_zero _), if_pos (Or.inl rfl)]
        exact hτ
      have hrec : recsOf τ1 n = [] := by unfold recsOf; rw [hg1]; rfl
      have EB : Hid (er ≠ 0 → lopen σ n = (τ, er, [])) := fun h0 => lopen_b2 hmk (by rw [hno]; exact hft) h0
      have EG : Hid (er = 0 → lopen σ n = (τ, 0, [])) := fun h0 => by subst h0; exact lopen_ok hmk (by rw [hno]; exact hft) hrec
      have KY : Hid (∀ O' W, D O' W g τ1 → Calls Tryz.prog 28 #[ptr g, .string n] W (Did D O' W g (τ, er))) := fun O' W h => by rw [← hτ]; exact HD.out.sync n h hn
      clear hmk hno hrec hft hτ hτ1 hg1 hg e1 e2 hT0 HI hTs
      go_enter Tryz.func8, Tryz.ntmps8
      go_wp2_with fail
      refine KR.mono ?_
      rintro e w1 ⟨rfl, hb1⟩
      have HB1 := Lib.hid hb1
      clear hb1 KR
      go_wp2_with fail
      refine (KC.out _ HB1.out).mono ?_
      rintro e w2 ⟨rfl, O2, hd2, ho2, hn2⟩
      have HD2 := Lib.hid hd2
      have HO2 := Lib.hid ((HB1.out.only O).trans ho2 (fun k hk => Or.inl hk))
      have HN2 : Hid (∀ k, O2 k → O k ∨ w.heap.size ≤ k) := fun k hk => by rcases hn2 k hk with h | h; exact Or.inl h; exact Or.inr (Nat.le_trans HB1.out.size h)
      clear hd2 ho2 hn2 HB1 KC
      go_wp2_with fail
      refine (KS.out _).mono ?_
      rintro e w3 ⟨rfl, rfl⟩
      have HD3 := HD2
      go_wp2_with fail
      refine (KY.out _ _ HD3.out).mono ?_
      rintro e w4 ⟨rfl, O4, hd4, ho4, hn4⟩
      have HD4 := Lib.hid hd4
      have HO4 := Lib.hid (HO2.out.trans ho4 (fun k hk => HN2.out k hk))
      have HN4 : Hid (∀ k, O4 k → O k ∨ w.heap.size ≤ k) := fun k hk => by
        rcases hn4 k hk with h | h
        · exact HN2.out k h
        · exact Or.inr (by have h1 := HO2.out.size; omega)
      clear hd4 ho4 hn4
      by_cases h0 : er = 0
      · subst h0
        have HE := Lib.hid (EG.out rfl)
        clear EG EB
        go_wp2_with (go_at_call 29; refine (clone_at n _ hn).mono ?_; rintro e w5 ⟨rfl, hb5⟩)
        go_ret3
        rw [HE.out]
        exact opened_end (ts := []) (k := 0) HD.out HD4.out HO4.out HN4.out ⟨rfl, fun i hi => by simp at hi⟩ (fun _ => rfl) rfl hn (by omega) hb5 (fun ad had hne => absurd rfl hne)
      · have q : ((er : Int) == 0) = false := by rw [beq_eq_false_iff_ne]; omega
        have HE := Lib.hid (EB.out h0)
        clear EG EB
        go_wp2_with fail
        go_ret3
        rw [HE.out]
        exact opened_fail HD4.out HO4.out HN4.out h0
    · have q : ((er1 : Int) == 0) = false := by rw [beq_eq_false_iff_ne]; omega
      have EB : Hid (lopen σ n = (τ1, er1, [])) := lopen_b1 hmk h1
      clear hmk hno hτ1 hg e1 e2 hT0 HI hTs KS
      go_enter Tryz.func8, Tryz.ntmps8
      go_wp2_with fail
      refine KR.mono ?_
      rintro e w1 ⟨rfl, hb1⟩
      have HB1 := Lib.hid hb1
      clear hb1 KR
      go_wp2_with fail
      refine (KC.out _ HB1.out).mono ?_
      rintro e w2 ⟨rfl, O2, hd2, ho2, hn2⟩
      go_wp2_with fail
      go_ret3
      rw [EB.out]
      exact opened_fail hd2 ((HB1.out.only O).trans ho2 (fun k hk => Or.inl hk)) (fun k hk => by rcases hn2 k hk with h | h; exact Or.inl h; exact Or.inr (Nat.le_trans HB1.out.size h)) h1
theorem lg_opens {D : Disks} (hD : DoorB D) {O : Nat → Prop} {w : World} {g : Nat} {σ : Dsk} (n : ByteArray) (hd : D O w g σ) (hr : σ.room ≤ 1048576) (hn : n.size ≤ many) (hT : Hid (Tab w)) : Calls Tryz.prog 8 #[ptr g, .string n] w (Opened D TheLog O w g n (lopen σ n)) :=
  (lg_opens0 hD n hd hr hn hT).mono fun _ _ h => h.weak

end Go.Proofs.YtikbokbmaihdbaaGreatDoor
