/-
  Layer 7: Create, at a disk that New made.
-/
import Derived.Test.YtikbokbmaihdbaaGreatDoorDOpsC
import Derived.Test.YtikbokbmaihdbaaGreatDoorDMay
import Derived.Deep.RegionWith
namespace Go.Proofs.YtikbokbmaihdbaaGreatDoor
open Go.RowKit Go.Maps Go.Lib Go.ChangeShapes Go.WideShapes

abbrev mpt : TypeId := 56
theorem Did.after {O : Nat → Prop} {w w1 w2 : World} {g : Nat} {r : Dsk × Nat} {e : Ending} (h : Did TheDisk O w g r e w1) (hb : Below w1.heap.size w1 w2) : Did TheDisk O w g r e w2 := by
  obtain ⟨he, O', ⟨hi, hz, b, P, V, hh, hl, hO⟩, ho, hs⟩ := h
  exact ⟨he, O', ⟨hi, hz, b, P, V, (hb.block g hh.lt).trans hh, hl.below hb, hO⟩, ho.trans (hb.only O') (fun i hi => hs i hi), hs⟩
theorem Did.ahead {O : Nat → Prop} {w w1 w2 : World} {g : Nat} {r : Dsk × Nat} {e : Ending} (hb : Below w.heap.size w w1) (h : Did TheDisk O w1 g r e w2) : Did TheDisk O w g r e w2 := by
  obtain ⟨he, O', hd, ho, hs⟩ := h
  exact ⟨he, O', hd, (hb.only O).trans ho (fun i hi => Or.inl hi), fun k hk => by rcases hs k hk with h1 | h1; exact Or.inl h1; exact Or.inr (Nat.le_trans hb.size h1)⟩

/-- The map's store, at the end. -/
theorem create_done {O : Nat → Prop} {w w2 wf : World} {g : Nat} {σ : Dsk} {b : Nat} {P : ByteArray → Nat} {V : ByteArray → Value} {n : ByteArray} {p : Nat} (hO : ∀ k, O k ↔ (k = g ∨ OLay b P V σ.fs k)) (hg : get σ.fs n = none)
    (hi : Inv ⟨σ.room, burn σ, ins n ⟨⟨#[]⟩, 0, true⟩ σ.fs⟩) (hz : ∀ k, burn σ = some k → k ≤ 9223372036854775807) (hl : Lay w2 b P V σ.fs) (hh : DHead w2 g σ.room b (burn σ)) (ho : Only O w w2) (hn : n.size ≤ maxLen)
    (hb : Below w2.heap.size w2 wf) (hp : w2.heap.size ≤ p) (hF : wf.heap[p]? = some (.cells #[.slice none 0 0, .int .i64 0, .bool true] 91 (0, 0))) :
    ∃ w3, (Instr.mapUpdate mpt (.map (some b)) (.string n) (ptr p)).run Tryz.prog wf = .ok () w3 ∧ Did TheDisk O w g (⟨σ.room, burn σ, ins n ⟨⟨#[]⟩, 0, true⟩ σ.fs⟩, 0) (.returned (.int .i64 (0 : Nat))) w3 := by
  have hlf := hl.below hb
  have hle : (kvOf P σ.fs).length < maxLen := by
    have h1 := hi.few
    rw [len_kvOf]
    simp only [len_ins] at h1
    unfold maxLen
    omega
  obtain ⟨w3, hrun, hm, ht⟩ := hlf.map.store Tryz.underlying9 Tryz.underlying56 hle n hn (ptr p)
  refine ⟨w3, hrun, ?_⟩
  have hkv : get (kvOf P σ.fs) n = none := by rw [get_kvOf, hg]; rfl
  have hkp : kput (kvOf P σ.fs) n (ptr p) = ins n (ptr p) (kvOf P σ.fs) := by unfold kput; rw [hkv]; rfl
  rw [hkp] at hm
  have hot := Only.grown ht.grown
  have hpb : p ≠ b := by have := hl.map.lt; omega
  have hF3 : File w3 p (.slice none 0 0) ⟨⟨#[]⟩, 0, true⟩ := ⟨(hot.block p (lt_of_heap hF) (fun e => by injection e with e; exact hpb e.symm)).trans hF, by rfl, Or.inl ⟨rfl, rfl⟩⟩
  have hl3 := hl.new (w' := w3) (v := .slice none 0 0) hg hF3 hp (fun k hk => by cases hk) hm (fun k hk hkb => (hot.block k (Nat.lt_of_lt_of_le (hl.lt hk) hb.size) (fun e => by injection e with e; exact hkb e.symm)).trans (hb.block k (hl.lt hk)))
  have hgb : g ≠ b := fun e => hh.not_lay hl (Or.inl rfl) e.symm
  have hh3 : DHead w3 g σ.room b (burn σ) := (hot.block g (Nat.lt_of_lt_of_le hh.lt hb.size) (fun e => by injection e with e; exact hgb e.symm)).trans ((hb.block g hh.lt).trans hh)
  have hoo := (ho.trans (hb.only O) (fun k hk => Or.inl hk)).trans hot (fun k hk => by injection hk with hk; exact Or.inl ((hO k).2 (Or.inr (Or.inl hk.symm))))
  exact did_of (τ := ⟨σ.room, burn σ, ins n ⟨⟨#[]⟩, 0, true⟩ σ.fs⟩) (er := 0) hO hi hz hh3 hl3 hoo (fun k hk => by
    rcases OLay.new (B := w2.heap.size) hp (fun k hk => by cases hk) hk with h1 | h1
    · exact Or.inl h1
    · exact Or.inr (Nat.le_trans ho.size h1))

set_option maxHeartbeats 2000000 in
set_option maxRecDepth 100000 in
theorem create_any {O : Nat → Prop} {w : World} {g : Nat} {σ : Dsk} (n : ByteArray) (hn : n.size ≤ many) (hd : TheDisk O w g σ) : Calls Tryz.prog 24 #[ptr g, .string n] w (Did TheDisk O w g (create σ n)) := by
  have HI := Lib.hid (hd.1.create n)
  obtain ⟨hi, hz, b, P, V, h, hl, hO⟩ := hd
  have hn' : n.size ≤ maxLen := by unfold many at hn; unfold maxLen; omega
  have KM := mayBe_at n w hn
  have HA := Lib.hid (fun er => fun w1 => fun hb1 : Below w.heap.size w w1 => did_of (w := w) (w' := w1) (er := er) hO hi hz ((hb1.block g h.lt).trans h) (hl.below hb1) (hb1.only O) (fun k hk => Or.inl hk))
  unfold create at HI ⊢
  by_cases hm : mayB n = false
  · rw [if_pos hm]
    rw [hm] at KM
    go_enter Tryz.func24, Tryz.ntmps24
    go_wp2_with (first
      | (go_at_call 51; refine (unmade_at h).mono ?_; rintro e w' ⟨rfl, rfl⟩)
      | (go_at_call 54; refine KM.mono ?_; rintro e w1 ⟨rfl, hb1⟩; have HB1 := Lib.hid hb1; clear hb1))
    go_ret
    exact HA.out 2 _ HB1.out
  rw [if_neg hm] at HI ⊢
  have hm' : mayB n = true := by simpa using hm
  rw [hm'] at KM
  have HH := Lib.hid h
  have HL := Lib.hid hl
  have HZ := Lib.hid hz
  have KS : Hid (∀ w1, Below w.heap.size w w1 → Calls Tryz.prog 55 #[ptr g] w1 fun e w' => e = .returned (.bool (decide (σ.fuse = some 0))) ∧ w1 = w') := fun w1 hb1 => still_at ((hb1.block g HH.out.lt).trans HH.out : DHead w1 g σ.room b σ.fuse)
  clear hm
  by_cases hf : σ.fuse = some 0
  · rw [if_pos hf]
    rw [decide_eq_true hf] at KS
    clear hl h hz hi HI
    go_enter Tryz.func24, Tryz.ntmps24
    go_wp2_with (first
      | (go_at_call 51; refine (unmade_at HH.out).mono ?_; rintro e w' ⟨rfl, rfl⟩)
      | (go_at_call 54; refine KM.mono ?_; rintro e w1 ⟨rfl, hb1⟩; have HB1 := Lib.hid hb1; clear hb1)
      | (go_at_call 55; refine (KS.out _ HB1.out).mono ?_; rintro e w' ⟨rfl, rfl⟩))
    go_ret
    exact HA.out 70 _ HB1.out
  rw [if_neg hf] at HI ⊢
  rw [decide_eq_false hf] at KS
  cases hg : get σ.fs n with
  | some f =>
    rw [hg] at HI
    have HGK : Hid (get (kvOf P σ.fs) n = some (ptr (P n))) := by show _ = _; rw [get_kvOf, hg]; rfl
    clear hl h hz hi HI hg
    go_enter Tryz.func24, Tryz.ntmps24
    go_wp2_with (first
      | (go_at_call 51; refine (unmade_at HH.out).mono ?_; rintro e w' ⟨rfl, rfl⟩)
      | (go_at_call 54; refine KM.mono ?_; rintro e w1 ⟨rfl, hb1⟩; have HB1 := Lib.hid hb1; have HH1 : Hid (DHead w1 g σ.room b σ.fuse) := (hb1.block g HH.out.lt).trans HH.out; have HL1 := Lib.hid (HL.out.below hb1); have c2 := HH1.out.c2; have hlk := HL1.out.map.look Tryz.underlying9 Tryz.underlying56 (Tryz.zeroValue89 w1) n hn'; have hln := HL1.out.map.size (K := 9) Tryz.underlying56 3; rw [HGK.out] at hlk; rw [len_kvOf] at hln; dsimp only [Option.getD] at hlk; clear hb1)
      | (go_at_call 55; refine (KS.out _ HB1.out).mono ?_; rintro e w' ⟨rfl, rfl⟩))
    go_ret
    exact HA.out 7 _ HB1.out
  | none =>
    rw [hg] at HI
    rw [if_neg (by simp)] at HI ⊢
    have HGK : Hid (get (kvOf P σ.fs) n = none) := by show _ = _; rw [get_kvOf, hg]; rfl
    by_cases hfull : 16 ≤ σ.fs.length
    · rw [if_pos hfull]
      have d1 : decide ((16 : Int) ≤ (σ.fs.length : Int)) = true := by simp; omega
      clear hl h hz hi HI hg
      go_enter Tryz.func24, Tryz.ntmps24
      go_wp2_with (first
        | (go_at_call 51; refine (unmade_at HH.out).mono ?_; rintro e w' ⟨rfl, rfl⟩)
        | (go_at_call 54; refine KM.mono ?_; rintro e w1 ⟨rfl, hb1⟩; have HB1 := Lib.hid hb1; have HH1 : Hid (DHead w1 g σ.room b σ.fuse) := (hb1.block g HH.out.lt).trans HH.out; have HL1 := Lib.hid (HL.out.below hb1); have c2 := HH1.out.c2; have hlk := HL1.out.map.look Tryz.underlying9 Tryz.underlying56 (Tryz.zeroValue89 w1) n hn'; have hln := HL1.out.map.size (K := 9) Tryz.underlying56 3; rw [HGK.out] at hlk; rw [len_kvOf] at hln; dsimp only [Option.getD] at hlk; clear hb1)
        | (go_at_call 55; refine (KS.out _ HB1.out).mono ?_; rintro e w' ⟨rfl, rfl⟩))
      go_ret
      exact HA.out 6 _ HB1.out
    · rw [if_neg hfull] at HI ⊢
      have d1 : decide ((16 : Int) ≤ (σ.fs.length : Int)) = false := by simp; omega
      have HG := Lib.hid hg
      have HF := Lib.hid hf
      clear hl h hz hi hg hf
      go_enter Tryz.func24, Tryz.ntmps24
      go_wp2_with (first
        | (go_at_call 51; refine (unmade_at HH.out).mono ?_; rintro e w' ⟨rfl, rfl⟩)
        | (go_at_call 54; refine KM.mono ?_; rintro e w1 ⟨rfl, hb1⟩; have HB1 := Lib.hid hb1; have HH1 : Hid (DHead w1 g σ.room b σ.fuse) := (hb1.block g HH.out.lt).trans HH.out; have HL1 := Lib.hid (HL.out.below hb1); have c2 := HH1.out.c2; have hlk := HL1.out.map.look Tryz.underlying9 Tryz.underlying56 (Tryz.zeroValue89 w1) n hn'; have hln := HL1.out.map.size (K := 9) Tryz.underlying56 3; rw [HGK.out] at hlk; rw [len_kvOf] at hln; dsimp only [Option.getD] at hlk; clear hb1)
        | (go_at_call 55; refine (KS.out _ HB1.out).mono ?_; rintro e w' ⟨rfl, rfl⟩)
        | (go_at_call 56; refine (burn_at HH1.out HF.out HZ.out).mono ?_; rintro e w2 ⟨rfl, h1, ho1, hs1⟩; have HL2 := Lib.hid (HL1.out.only ho1 (fun k hk => DHead.not_lay HH1.out HL1.out hk)); have HH2 := Lib.hid h1; have HO2 := Lib.hid ((HB1.out.only O).trans ho1 (fun k hk => Or.inl ((hO k).2 (Or.inl hk)))); clear h1 ho1 hs1))
      clear hlk hln c2 KM KS
      refine wp_region_any (by kernel_rfl) ?_
      change wpAny _ _ _ _ _ _ _ (World.drew _)
      have HL3 : Hid (Lay w2.drew b P V σ.fs) := HL2.out.below (Below.refl _ _).drew
      have HH3 : Hid (DHead w2.drew g σ.room b (burn σ)) := HH2.out
      have HO3 : Hid (Only O w w2.drew) := HO2.out.trans ((Below.refl _ w2).drew.only O) (fun k hk => Or.inl hk)
      clear HL2 HH2 HO2
      generalize w2.drew = w3 at *
      refine wpAny_take (i := 0) (v := ptr g) rfl (by kernel_rfl) (by kernel_rfl) (by kernel_rfl) (fun _ _ _ h => h) (Or.inl ⟨by kernel_rfl, ?_⟩) ?_
      · intro w; go_simp
      refine wpAny_take (i := 1) (v := ptr g) rfl (by kernel_rfl) (by kernel_rfl) (by kernel_rfl) (fun _ _ _ h => h) (Or.inl ⟨by kernel_rfl, ?_⟩) ?_
      · intro w; go_simp
      refine wpAny_take (i := 2) (v := .pointer (some ⟨g, 2, none⟩)) rfl (by kernel_rfl) (by kernel_rfl) (by kernel_rfl) (fun _ _ _ h => h) (Or.inl ⟨by kernel_rfl, ?_⟩) ?_
      · intro w; go_simp
      refine wpAny_take (i := 4) (v := .string n) rfl (by kernel_rfl) (by kernel_rfl) (by kernel_rfl) (fun _ _ _ h => h) (Or.inl ⟨by kernel_rfl, ?_⟩) ?_
      · intro w; go_simp
      refine wpAny_take (i := 6) (v := .agg #[.slice none 0 0, .int .i64 0, .bool true]) rfl (by kernel_rfl) (by kernel_rfl) (by kernel_rfl) (fun _ _ _ h => h) (Or.inl ⟨by kernel_rfl, ?_⟩) ?_
      · intro w; go_simp
      have HB3 := Lib.hid (Below.refl w3.heap.size w3)
      refine wpAny_ready (rs := [3, 5, 7]) (by kernel_rfl) (by simp) ?_
      refine AllReady.cons rfl (fun K hK => ?_) (AllReady.cons rfl (fun K hK => ?_) (AllReady.cons rfl (fun K hK => ?_) AllReady.nil))
      · have c2 : w3.cell? ⟨g, 2, none⟩ = some (.map (some b)) := (HB3.out.cell (p := ⟨g, 2, none⟩) HH3.out.lt).trans HH3.out.c2
        go_simp
        clear c2
        refine hK _ _ ?_
        clear hK K
        refine wpAny_ready (rs := [5, 7]) (by kernel_rfl) (by simp) ?_
        refine AllReady.cons rfl (fun K hK => ?_) (AllReady.cons rfl (fun K hK => ?_) AllReady.nil)
        · go_simp
          refine (clone_at n _ hn).mono ?_
          rintro e x2 ⟨rfl, hb⟩
          have HB2 := Lib.hid (HB3.out.trans (hb.mono HB3.out.size))
          clear hb
          refine hK _ _ ?_
          clear hK K
          refine wpAny_ready (rs := [7]) (by kernel_rfl) (by simp) ?_
          refine AllReady.cons rfl (fun K hK => ?_) AllReady.nil
          · go_simp
            refine hK _ _ ?_
            clear hK K
            have HP := Lib.hid (heap_alloc_new x2 (.cells #[.slice none 0 0, .int .i64 0, .bool true] 91))
            have HPl := Lib.hid (HB2.out.size)
            have HB3 := Lib.hid (HB2.out.alloc HB2.out.size (.cells #[.slice none 0 0, .int .i64 0, .bool true] 91))
            obtain ⟨wE, hrun, hres⟩ := create_done hO HG.out HI.out (burn_le HZ.out) HL3.out HH3.out HO3.out hn' HB3.out HPl.out HP.out
            refine wpAny_ready (rs := [8]) (by kernel_rfl) (by simp) ?_
            refine AllReady.cons rfl (fun K hK => ?_) AllReady.nil
            have HRES := Lib.hid hres
            clear hres
            go_simp
            refine hK _ _ ?_
            clear hK K hrun
            refine wpAny_done (by kernel_rfl) ?_ _
            go_wp2_with fail
            go_ret
            exact HRES.out
        · go_simp
          refine hK _ _ ?_
          clear hK K
          have HP := Lib.hid (heap_alloc_new w3 (.cells #[.slice none 0 0, .int .i64 0, .bool true] 91))
          have HPl := Lib.hid (HB3.out.size)
          have HB4 := Lib.hid (HB3.out.alloc HB3.out.size (.cells #[.slice none 0 0, .int .i64 0, .bool true] 91))
          refine wpAny_ready (rs := [5]) (by kernel_rfl) (by simp) ?_
          refine AllReady.cons rfl (fun K hK => ?_) AllReady.nil
          · go_simp
            refine (clone_at n _ hn).mono ?_
            rintro e x5 ⟨rfl, hb⟩
            have HB5 := Lib.hid (HB4.out.trans (hb.mono HB4.out.size))
            have HP := Lib.hid ((hb.block _ (lt_of_heap HP.out)).trans HP.out)
            clear hb
            refine hK _ _ ?_
            clear hK K
            obtain ⟨wE, hrun, hres⟩ := create_done hO HG.out HI.out (burn_le HZ.out) HL3.out HH3.out HO3.out hn' HB5.out HPl.out HP.out
            refine wpAny_ready (rs := [8]) (by kernel_rfl) (by simp) ?_
            refine AllReady.cons rfl (fun K hK => ?_) AllReady.nil
            have HRES := Lib.hid hres
            clear hres
            go_simp
            refine hK _ _ ?_
            clear hK K hrun
            refine wpAny_done (by kernel_rfl) ?_ _
            go_wp2_with fail
            go_ret
            exact HRES.out
      · go_simp
        refine (clone_at n _ hn).mono ?_
        rintro e x6 ⟨rfl, hb⟩
        have HB6 := Lib.hid (HB3.out.trans (hb.mono HB3.out.size))
        clear hb
        refine hK _ _ ?_
        clear hK K
        refine wpAny_ready (rs := [3, 7]) (by kernel_rfl) (by simp) ?_
        refine AllReady.cons rfl (fun K hK => ?_) (AllReady.cons rfl (fun K hK => ?_) AllReady.nil)
        · have c2 : x6.cell? ⟨g, 2, none⟩ = some (.map (some b)) := (HB6.out.cell (p := ⟨g, 2, none⟩) HH3.out.lt).trans HH3.out.c2
          go_simp
          clear c2
          refine hK _ _ ?_
          clear hK K
          refine wpAny_ready (rs := [7]) (by kernel_rfl) (by simp) ?_
          refine AllReady.cons rfl (fun K hK => ?_) AllReady.nil
          · go_simp
            refine hK _ _ ?_
            clear hK K
            have HP := Lib.hid (heap_alloc_new x6 (.cells #[.slice none 0 0, .int .i64 0, .bool true] 91))
            have HPl := Lib.hid (HB6.out.size)
            have HB8 := Lib.hid (HB6.out.alloc HB6.out.size (.cells #[.slice none 0 0, .int .i64 0, .bool true] 91))
            obtain ⟨wE, hrun, hres⟩ := create_done hO HG.out HI.out (burn_le HZ.out) HL3.out HH3.out HO3.out hn' HB8.out HPl.out HP.out
            refine wpAny_ready (rs := [8]) (by kernel_rfl) (by simp) ?_
            refine AllReady.cons rfl (fun K hK => ?_) AllReady.nil
            have HRES := Lib.hid hres
            clear hres
            go_simp
            refine hK _ _ ?_
            clear hK K hrun
            refine wpAny_done (by kernel_rfl) ?_ _
            go_wp2_with fail
            go_ret
            exact HRES.out
        · go_simp
          refine hK _ _ ?_
          clear hK K
          have HP := Lib.hid (heap_alloc_new x6 (.cells #[.slice none 0 0, .int .i64 0, .bool true] 91))
          have HPl := Lib.hid (HB6.out.size)
          have HB9 := Lib.hid (HB6.out.alloc HB6.out.size (.cells #[.slice none 0 0, .int .i64 0, .bool true] 91))
          refine wpAny_ready (rs := [3]) (by kernel_rfl) (by simp) ?_
          refine AllReady.cons rfl (fun K hK => ?_) AllReady.nil
          · have c2 : (x6.alloc (.cells #[.slice none 0 0, .int .i64 0, .bool true] 91)).cell? ⟨g, 2, none⟩ = some (.map (some b)) := (HB9.out.cell (p := ⟨g, 2, none⟩) HH3.out.lt).trans HH3.out.c2
            go_simp
            clear c2
            refine hK _ _ ?_
            clear hK K
            obtain ⟨wE, hrun, hres⟩ := create_done hO HG.out HI.out (burn_le HZ.out) HL3.out HH3.out HO3.out hn' HB9.out HPl.out HP.out
            refine wpAny_ready (rs := [8]) (by kernel_rfl) (by simp) ?_
            refine AllReady.cons rfl (fun K hK => ?_) AllReady.nil
            have HRES := Lib.hid hres
            clear hres
            go_simp
            refine hK _ _ ?_
            clear hK K hrun
            refine wpAny_done (by kernel_rfl) ?_ _
            go_wp2_with fail
            go_ret
            exact HRES.out
      · go_simp
        refine hK _ _ ?_
        clear hK K
        have HP := Lib.hid (heap_alloc_new w3 (.cells #[.slice none 0 0, .int .i64 0, .bool true] 91))
        have HPl := Lib.hid (HB3.out.size)
        have HB11 := Lib.hid (HB3.out.alloc HB3.out.size (.cells #[.slice none 0 0, .int .i64 0, .bool true] 91))
        refine wpAny_ready (rs := [3, 5]) (by kernel_rfl) (by simp) ?_
        refine AllReady.cons rfl (fun K hK => ?_) (AllReady.cons rfl (fun K hK => ?_) AllReady.nil)
        · have c2 : (w3.alloc (.cells #[.slice none 0 0, .int .i64 0, .bool true] 91)).cell? ⟨g, 2, none⟩ = some (.map (some b)) := (HB11.out.cell (p := ⟨g, 2, none⟩) HH3.out.lt).trans HH3.out.c2
          go_simp
          clear c2
          refine hK _ _ ?_
          clear hK K
          refine wpAny_ready (rs := [5]) (by kernel_rfl) (by simp) ?_
          refine AllReady.cons rfl (fun K hK => ?_) AllReady.nil
          · go_simp
            refine (clone_at n _ hn).mono ?_
            rintro e x13 ⟨rfl, hb⟩
            have HB13 := Lib.hid (HB11.out.trans (hb.mono HB11.out.size))
            have HP := Lib.hid ((hb.block _ (lt_of_heap HP.out)).trans HP.out)
            clear hb
            refine hK _ _ ?_
            clear hK K
            obtain ⟨wE, hrun, hres⟩ := create_done hO HG.out HI.out (burn_le HZ.out) HL3.out HH3.out HO3.out hn' HB13.out HPl.out HP.out
            refine wpAny_ready (rs := [8]) (by kernel_rfl) (by simp) ?_
            refine AllReady.cons rfl (fun K hK => ?_) AllReady.nil
            have HRES := Lib.hid hres
            clear hres
            go_simp
            refine hK _ _ ?_
            clear hK K hrun
            refine wpAny_done (by kernel_rfl) ?_ _
            go_wp2_with fail
            go_ret
            exact HRES.out
        · go_simp
          refine (clone_at n _ hn).mono ?_
          rintro e x14 ⟨rfl, hb⟩
          have HB14 := Lib.hid (HB11.out.trans (hb.mono HB11.out.size))
          have HP := Lib.hid ((hb.block _ (lt_of_heap HP.out)).trans HP.out)
          clear hb
          refine hK _ _ ?_
          clear hK K
          refine wpAny_ready (rs := [3]) (by kernel_rfl) (by simp) ?_
          refine AllReady.cons rfl (fun K hK => ?_) AllReady.nil
          · have c2 : x14.cell? ⟨g, 2, none⟩ = some (.map (some b)) := (HB14.out.cell (p := ⟨g, 2, none⟩) HH3.out.lt).trans HH3.out.c2
            go_simp
            clear c2
            refine hK _ _ ?_
            clear hK K
            obtain ⟨wE, hrun, hres⟩ := create_done hO HG.out HI.out (burn_le HZ.out) HL3.out HH3.out HO3.out hn' HB14.out HPl.out HP.out
            refine wpAny_ready (rs := [8]) (by kernel_rfl) (by simp) ?_
            refine AllReady.cons rfl (fun K hK => ?_) AllReady.nil
            have HRES := Lib.hid hres
            clear hres
            go_simp
            refine hK _ _ ?_
            clear hK K hrun
            refine wpAny_done (by kernel_rfl) ?_ _
            go_wp2_with fail
            go_ret
            exact HRES.out

end Go.Proofs.YtikbokbmaihdbaaGreatDoor
