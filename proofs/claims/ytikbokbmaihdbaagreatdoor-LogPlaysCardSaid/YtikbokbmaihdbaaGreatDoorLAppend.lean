/-
  Layer 8: Append, over any disk.
-/
import Derived.Test.YtikbokbmaihdbaaGreatDoorLSync
namespace Go.Proofs.YtikbokbmaihdbaaGreatDoor
open Go.RowKit Go.ChangeShapes Go.WideShapes

set_option maxRecDepth 100000 in
set_option maxHeartbeats 4000000 in
theorem lg_append {D : Disks} (hD : DoorB D) {O Q : Nat → Prop} {w : World} {x g : Nat} {σ : Dsk} {n : ByteArray} {l : Lg} (A : Option Addr) (c : Nat) (rs : List ByteArray) (hd : D O w g σ) (hl : TheLog Q w x g n l) (hx : ∀ k, O k → ¬ Q k) (hT : Hid (Tab w)) (hst : Strs w A rs.length rs) (hf : (frs rs).length ≤ 1048576) (hlb : (frs l.recs).length ≤ 1099511627776) :
    Calls Tryz.prog 10 #[ptr x, .slice A rs.length c] w (Put D TheLog O Q w x g n (lappend σ n l rs)) := by
  obtain ⟨hn, hsz, hh, hQ⟩ := hl
  obtain ⟨recs, su, br⟩ := l
  have hlt := hh.lt
  have KR := lready_at hh
  have PE := Lib.hid (fun O1 w1 w2 τ l er => put_end (w1 := w1) (w2 := w2) (O1 := O1) (n := n) (g := g) (τ := τ) (l := l) (er := er) hD hQ hx hlt)
  obtain ⟨m, hm⟩ : ∃ m, rs.length = m := ⟨_, rfl⟩
  rw [hm]
  rw [hm] at hst
  cases br with
  | true =>
    have e1 : lappend σ n ⟨recs, su, true⟩ rs = (σ, ⟨recs, su, true⟩, 3) := if_pos rfl
    rw [e1]
    go_enter Tryz.func10, Tryz.ntmps10
    go_wp2_with (go_at_call 35; refine KR.mono ?_; rintro e w' ⟨rfl, rfl⟩)
    go_ret
    exact PE.out O w w σ ⟨recs, su, true⟩ 3 hd (Only.refl _ _) (fun k hk => Or.inl hk) (Only.refl _ _) hh hn hsz
  | false =>
    have HH := Lib.hid hh
    have HD0 := Lib.hid hd
    have HS := Lib.hid hst
    have HL := Lib.hid hm
    have HSH := Lib.hid (short_all hf)
    have hfe := Lib.hid (frs_elem rs)
    have hrl : m ≤ 1048576 := by have := count_le rs; omega
    have HI : Hid (Lib.IsBuilder 77 5 w.heap.size w.heap.size (Lib.byteCells (frs (rs.take 0))) (w.alloc (.cells #[.pointer none, .slice none 0 0] 77))) := Lib.fresh_isBuilder _ _ w
    clear hst hd hh
    go_enter Tryz.func10, Tryz.ntmps10
    go_wp2_with (go_at_call 35; refine KR.mono ?_; rintro e w' ⟨rfl, rfl⟩)
    go_loopw [8, 9, 10, 19] (fun _ _ _ iv wr => ∃ i : Nat, i ≤ m ∧ iv = .int .i64 i ∧ Hid (Lib.IsBuilder 77 5 w.heap.size w.heap.size (Lib.byteCells (frs (rs.take i))) wr) ∧ Below w.heap.size w wr) (fun _ _ _ iv _ => m - (intOf iv).toNat)
    case atStart => exact ⟨0, Nat.zero_le _, rfl, HI, (Below.refl _ _).alloc (Nat.le_refl _) _⟩
    case round =>
      clear HI
      obtain ⟨i, hi, rfl, HI, hbw⟩ := hrel
      have hsw := hbw.size
      by_cases hlti : i < m
      · have hil : i < rs.length := by rw [HL.out]; exact hlti
        obtain ⟨b, off, rfl, hbl, hc⟩ := HS.out.cell i hil
        have hys := HSH.out rs[i] (List.getElem_mem _)
        have hle := hfe.out i hil
        have hsn := frs_take_snoc rs i hil
        obtain ⟨y, hy⟩ : ∃ y, rs[i] = y := ⟨_, rfl⟩
        rw [hy] at hc hys hle hsn
        have hcw : wr.cell? ⟨b, off + i, none⟩ = some (.string y) := (hbw.cell (p := ⟨b, off + i, none⟩) hbl).trans hc
        obtain ⟨F, hF⟩ : ∃ F, str (fr y.data.toList) = F := ⟨_, rfl⟩
        have hFs : F.size = 8 + y.size := by rw [← hF, str_size, fr_len]; simp
        have HE : Hid (frs (rs.take (i + 1)) = frs (rs.take i) ++ F.data.toList) := by show _ = _; rw [hsn, ← hF]; simp [str]
        have HF := Lib.hid hF
        have hle2 : (frs (rs.take i)).length + F.size ≤ 140737488355328 := by omega
        clear hy hc hsn hF hle
        go_wp2_with fail
        refine (Put_at y F hys _ (hT.out.below hbw) HF).mono ?_
        rintro e w1 ⟨rfl, hb1⟩
        have HI1 := Lib.hid (builder_below HI.out hb1)
        have hb2 : Below w.heap.size w w1 := hbw.trans (hb1.mono hsw)
        clear hcw hbw hb1 HI HF
        go_wp2_with fail
        refine (lwrite_at w.heap.size w.heap.size (frs (rs.take i)) F w1 HI1 hle2 hb2.size _ HE).mono ?_
        rintro e w2 ⟨rfl, h3, hb3⟩
        have HI2 := Lib.hid h3
        have hb4 := hb2.trans hb3
        clear h3 hb3 hb2 HI1
        go_wp2_with fail
        go_roundw
        case rel => exact ⟨i + 1, by omega, by go_num, HI2, hb4⟩
        case measure => simp [intOf]; omega
      · have HB : Hid (Lib.IsBuilderF 77 5 w.heap.size w.heap.size (Lib.byteCells (frs rs)) wr) := by
          have h := HI.out
          rw [List.take_of_length_le (by rw [HL.out]; omega)] at h
          exact Lib.IsBuilderF.of h
        have HBW := Lib.hid hbw
        clear HI hfe hsw hbw HS HSH
        by_cases hm0 : m = 0
        · have hrs : rs = [] := List.length_eq_zero_iff.1 (by rw [HL.out]; exact hm0)
          have q1 : ((m : Int) == 0) = true := by rw [beq_iff_eq]; omega
          have HE : Hid (lappend σ n ⟨recs, su, false⟩ rs = (σ, ⟨recs, su, false⟩, 0)) := by show _ = _; rw [hrs]; exact lappend_none rfl
          go_wp2_with fail
          go_ret
          rw [HE.out]
          exact PE.out O wr wr σ ⟨recs, su, false⟩ 0 (hD.below HD0.out HBW.out) (HBW.out.only O) (fun k hk => Or.inl hk) (Only.refl _ _) (HH.out.below HBW.out) hn hsz
        · have hne : rs ≠ [] := fun h => hm0 (by rw [← HL.out, h]; rfl)
          have q1 : ((m : Int) == 0) = false := by rw [beq_eq_false_iff_ne]; omega
          obtain ⟨τ, er, hτ⟩ : ∃ τ er, append σ n (str (frs rs)) = (τ, er) := ⟨_, _, rfl⟩
          have HE := Lib.hid (lappend_eq (recs := recs) (su := su) (short_all hf) hne hτ)
          obtain ⟨X, hX⟩ : ∃ X, str (frs rs) = X := ⟨_, rfl⟩
          obtain ⟨fl, hfl⟩ : ∃ fl, (frs rs).length = fl := ⟨_, rfl⟩
          have HX := Lib.hid hX
          have hXs : X.size ≤ many := by rw [← hX, str_size]; unfold many; omega
          have KA : Hid (∀ W, Below w.heap.size w W → Calls Tryz.prog 39 #[ptr g, .string n, .string X] W (Did D O W g (τ, er))) := fun W hW => by rw [← hτ, hX]; exact hD.append n X (hD.below HD0.out hW) hn hXs
          have hn' := Lib.hid hn
          have HLL : Hid (llen ⟨recs, su, false⟩ = (frs recs).length) := rfl
          obtain ⟨sz, hszz⟩ : ∃ sz, llen ⟨recs, su, false⟩ = sz := ⟨_, rfl⟩
          have hsz1 : sz ≤ 1099511627776 := by rw [← hszz]; exact hlb
          have hct1 : recs.length ≤ 1099511627776 := by have := count_le recs; have h2 : (frs recs).length ≤ 1099511627776 := hlb; omega
          have HSZ := Lib.hid hszz
          obtain ⟨ct, hct⟩ : ∃ ct, recs.length = ct := ⟨_, rfl⟩
          have HCT := Lib.hid hct
          have hct2 : ct ≤ 1099511627776 := by rw [← hct]; exact hct1
          have HFL := Lib.hid hfl
          have hfl2 : fl ≤ 1048576 := by omega
          have HH9 : Hid (LHead w x g n sz ct su false) := by have h := HH.out; rw [← hszz, ← hct]; exact h
          clear hX hτ hszz hct hfl HH KR hne
          go_wp2_with fail
          refine wp_region_any (by kernel_rfl) ?_
          change wpAny _ _ _ _ _ _ _ (World.drew _)
          have HB3 := Lib.hid (builder_kept (w' := wr.drew) HB.out (fun _ _ _ => rfl))
          have HW3 : Hid (Below w.heap.size w wr.drew) := HBW.out.trans ((Below.refl _ _).drew)
          clear HB HBW
          generalize wr.drew = w3 at *
          clear wr
          refine wpAny_take (i := 0) (v := ptr x) rfl (by kernel_rfl) (by kernel_rfl) (by kernel_rfl) (fun _ _ _ h => h) (Or.inl ⟨by kernel_rfl, ?_⟩) ?_
          · intro w; go_simp
          refine wpAny_take (i := 1) (v := ptr x) rfl (by kernel_rfl) (by kernel_rfl) (by kernel_rfl) (fun _ _ _ h => h) (Or.inl ⟨by kernel_rfl, ?_⟩) ?_
          · intro w; go_simp
          refine wpAny_take (i := 2) (v := ptr x) rfl (by kernel_rfl) (by kernel_rfl) (by kernel_rfl) (fun _ _ _ h => h) (Or.inl ⟨by kernel_rfl, ?_⟩) ?_
          · intro w; go_simp
          refine wpAny_take (i := 3) (v := ptr x) rfl (by kernel_rfl) (by kernel_rfl) (by kernel_rfl) (fun _ _ _ h => h) (Or.inl ⟨by kernel_rfl, ?_⟩) ?_
          · intro w; go_simp
          refine wpAny_take (i := 5) (v := ptr x) rfl (by kernel_rfl) (by kernel_rfl) (by kernel_rfl) (fun _ _ _ h => h) (Or.inl ⟨by kernel_rfl, ?_⟩) ?_
          · intro w; go_simp
          refine wpAny_take (i := 6) (v := ptr x) rfl (by kernel_rfl) (by kernel_rfl) (by kernel_rfl) (fun _ _ _ h => h) (Or.inl ⟨by kernel_rfl, ?_⟩) ?_
          · intro w; go_simp
          refine wpAny_take (i := 7) (v := .pointer (some ⟨x, 1, none⟩)) rfl (by kernel_rfl) (by kernel_rfl) (by kernel_rfl) (fun _ _ _ h => h) (Or.inl ⟨by kernel_rfl, ?_⟩) ?_
          · intro w; go_simp
          refine wpAny_ready (rs := [4, 8, 9]) (by kernel_rfl) (by simp) ?_
          refine AllReady.cons rfl (fun K hK => ?_) (AllReady.cons rfl (fun K hK => ?_) (AllReady.cons rfl (fun K hK => ?_) AllReady.nil))
          · have c0 := (HH9.out.below HW3.out).c0
            go_simp
            clear c0
            refine hK _ _ ?_
            clear hK K
            refine wpAny_ready (rs := [8, 9]) (by kernel_rfl) (by simp) ?_
            refine AllReady.cons rfl (fun K hK => ?_) (AllReady.cons rfl (fun K hK => ?_) AllReady.nil)
            · have c1 := (HH9.out.below HW3.out).c1
              go_simp
              clear c1
              refine hK _ _ ?_
              clear hK K
              refine wpAny_ready (rs := [9]) (by kernel_rfl) (by simp) ?_
              refine AllReady.cons rfl (fun K hK => ?_) AllReady.nil
              · go_simp
                refine (lstring_at w.heap.size w.heap.size (frs rs) X _ HB3 HW3.out.size HX).mono ?_
                rintro e v3 ⟨rfl, hb, hb2⟩
                have HB103 := Lib.hid hb
                have HW103 := Lib.hid (HW3.out.trans hb2)
                clear hb hb2
                refine hK _ _ ?_
                clear hK K
                refine wpAny_ready (rs := [10]) (by kernel_rfl) (by simp) ?_
                refine AllReady.cons rfl (fun K hK => ?_) AllReady.nil
                go_simp
                refine (KA.out _ HW103.out).mono ?_
                rintro e w5 ⟨rfl, O5, hd5, ho5, hn5⟩
                have HD5 := Lib.hid hd5
                have HO5 := Lib.hid ((HW103.out.only O).trans ho5 (fun k hk => Or.inl hk))
                have HN5 : Hid (∀ k, O5 k → O k ∨ w.heap.size ≤ k) := fun k hk => by rcases hn5 k hk with h | h; exact Or.inl h; exact Or.inr (Nat.le_trans HW103.out.size h)
                have HH5 : Hid (LHead w5 x g n sz ct su false) := HH9.out.kept (HO5.out.block x hlt (fun h => hx x h ((hQ x).2 rfl)))
                have HB5 := Lib.hid (builder_kept HB103.out (fun k hk1 hk2 => ho5.block k hk2 (fun ho => by have := hD.own HD0.out k ho; omega)))
                clear hd5 ho5 hn5
                refine hK _ _ ?_
                clear hK K
                refine wpAny_ready (rs := [11]) (by kernel_rfl) (by simp) ?_
                refine AllReady.cons rfl (fun K hK => ?_) AllReady.nil
                go_simp
                refine (lheed_at HH5.out er).mono ?_
                rintro e w6 ⟨rfl, hh6, ho6, hs6⟩
                have HH6 := Lib.hid hh6
                have HO6 := Lib.hid ho6
                have HB6 := Lib.hid (builder_kept HB5.out (fun k hk1 hk2 => ho6.block k hk2 (fun e => by subst e; omega)))
                clear hh6 ho6 hs6
                refine hK _ _ ?_
                clear hK K
                refine wpAny_ready (rs := [12]) (by kernel_rfl) (by simp) ?_
                refine AllReady.cons rfl (fun K hK => ?_) AllReady.nil
                go_simp
                refine hK _ _ ?_
                clear hK K
                refine wpAny_done (by kernel_rfl) ?_ _
                by_cases h0 : er = 0
                · subst h0
                  have e1 : heeded 0 false = false := rfl
                  rw [e1] at HH6
                  rw [if_pos rfl] at HE
                  go_wp2_with fail
                  have c2 := HH6.out.c2
                  have c3 := HH6.out.c3
                  have f2 := HH6.out.fr 2
                  have KLN : Hid (∀ p, Calls Tryz.prog 41 #[.pointer (some ⟨w.heap.size, 0, none⟩)] (w6.drewN p) fun e w' => e = .returned (.int .i64 (fl : Nat)) ∧ ∃ n, w' = (w6.drewN p).drewN n) := fun p => lblen_at w.heap.size w.heap.size (frs rs) fl _ (builder_kept HB6.out (fun _ _ _ => rfl)) HFL.out
                  refine wp_region_quiet_tail 8 (by kernel_rfl) (by kernel_rfl) ?_
                  simp only [List.take_succ_cons, List.take_zero, List.drop_succ_cons, List.drop_zero]
                  repeat (go_big_quiet_step ((go_at_call 41; exact Calls.quiet_of (KLN.out _))))
                  refine wpQuiet_nil ?_
                  rintro _ ⟨p, rfl⟩
                  have HH7 : Hid (LHead (w6.drewN p) x g n sz ct su false) := HH6.out
                  have HO7 : Hid (Only (fun k => k = x) w5 (w6.drewN p)) := HO6.out.trans (((Below.refl _ w6).drewN p).only _) (fun k hk => Or.inl hk)
                  clear HH6 HO6 HB6 KLN c2 c3 f2 HB5
                  generalize w6.drewN p = w7 at *
                  have c2 := HH7.out.c2
                  have c3 := HH7.out.c3
                  have f2 := HH7.out.fr 2
                  have hs2 := heap_set (i := 2) HH7.out (.int .i64 ((sz : Int) + (fl : Int)))
                  have d3 : (w7.setCell ⟨x, 2, none⟩ (.int .i64 ((sz : Int) + (fl : Int)))).cell? ⟨x, 3, none⟩ = some (.int .i64 (ct : Nat)) := by rw [cell_hp hs2]; rfl
                  have f3 : (w7.setCell ⟨x, 2, none⟩ (.int .i64 ((sz : Int) + (fl : Int)))).frozen? ⟨x, 3, none⟩ = false := frozen_hp hs2 3
                  have hs3 := heap_set (i := 3) hs2 (.int .i64 ((ct : Int) + (m : Int)))
                  go_wp2_with fail
                  go_ret
                  rw [HE.out]
                  refine PE.out O5 w5 _ τ ⟨recs ++ rs, su, false⟩ 0 HD5.out HO5.out HN5.out (HO7.out.trans ((Only.set w7 x 2 _).trans (Only.set _ x 3 _) (fun k hk => Or.inl hk)) (fun k hk => Or.inl hk)) ?_ hn'.out (by show (frs (recs ++ rs)).length ≤ _; rw [frs_append, List.length_append]; have h1 : (frs recs).length ≤ 1099511627776 := hlb; omega)
                  have e5 : llen ⟨recs ++ rs, su, false⟩ = sz + fl := by rw [← HSZ.out, ← HFL.out]; show (frs (recs ++ rs)).length = (frs recs).length + _; rw [frs_append, List.length_append]
                  have e6 : (recs ++ rs).length = ct + m := by rw [List.length_append, HCT.out, HL.out]
                  rw [e5]
                  show LHead _ x g n (sz + fl) (recs ++ rs).length su false
                  rw [e6]
                  have e2 : ((sz + fl : Nat) : Int) = (sz : Int) + (fl : Int) := by omega
                  have e3 : ((ct + m : Nat) : Int) = (ct : Int) + (m : Int) := by omega
                  unfold LHead
                  rw [e2, e3]
                  exact hs3
                · have q : ((er : Int) == 0) = false := by rw [beq_eq_false_iff_ne]; omega
                  rw [if_neg h0] at HE
                  go_wp2_with fail
                  go_ret
                  rw [HE.out]
                  by_cases h6 : er = 6
                  · subst h6
                    rw [if_pos rfl]
                    refine PE.out O5 w5 _ τ ⟨recs, su, false⟩ 6 HD5.out HO5.out HN5.out HO6.out ?_ hn'.out hsz
                    have h := HH6.out
                    rw [← HSZ.out, ← HCT.out] at h
                    exact h
                  · rw [if_neg h6]
                    refine PE.out O5 w5 _ τ ⟨recs, su, true⟩ er HD5.out HO5.out HN5.out HO6.out ?_ hn'.out hsz
                    have h := HH6.out
                    have e1 : heeded er false = true := if_neg (by omega)
                    rw [← HSZ.out, ← HCT.out, e1] at h
                    exact h
            · go_simp
              refine (lstring_at w.heap.size w.heap.size (frs rs) X _ HB3 HW3.out.size HX).mono ?_
              rintro e v4 ⟨rfl, hb, hb2⟩
              have HB104 := Lib.hid hb
              have HW104 := Lib.hid (HW3.out.trans hb2)
              clear hb hb2
              refine hK _ _ ?_
              clear hK K
              refine wpAny_ready (rs := [8]) (by kernel_rfl) (by simp) ?_
              refine AllReady.cons rfl (fun K hK => ?_) AllReady.nil
              · have c1 := (HH9.out.below HW104.out).c1
                go_simp
                clear c1
                refine hK _ _ ?_
                clear hK K
                refine wpAny_ready (rs := [10]) (by kernel_rfl) (by simp) ?_
                refine AllReady.cons rfl (fun K hK => ?_) AllReady.nil
                go_simp
                refine (KA.out _ HW104.out).mono ?_
                rintro e w5 ⟨rfl, O5, hd5, ho5, hn5⟩
                have HD5 := Lib.hid hd5
                have HO5 := Lib.hid ((HW104.out.only O).trans ho5 (fun k hk => Or.inl hk))
                have HN5 : Hid (∀ k, O5 k → O k ∨ w.heap.size ≤ k) := fun k hk => by rcases hn5 k hk with h | h; exact Or.inl h; exact Or.inr (Nat.le_trans HW104.out.size h)
                have HH5 : Hid (LHead w5 x g n sz ct su false) := HH9.out.kept (HO5.out.block x hlt (fun h => hx x h ((hQ x).2 rfl)))
                have HB5 := Lib.hid (builder_kept HB104.out (fun k hk1 hk2 => ho5.block k hk2 (fun ho => by have := hD.own HD0.out k ho; omega)))
                clear hd5 ho5 hn5
                refine hK _ _ ?_
                clear hK K
                refine wpAny_ready (rs := [11]) (by kernel_rfl) (by simp) ?_
                refine AllReady.cons rfl (fun K hK => ?_) AllReady.nil
                go_simp
                refine (lheed_at HH5.out er).mono ?_
                rintro e w6 ⟨rfl, hh6, ho6, hs6⟩
                have HH6 := Lib.hid hh6
                have HO6 := Lib.hid ho6
                have HB6 := Lib.hid (builder_kept HB5.out (fun k hk1 hk2 => ho6.block k hk2 (fun e => by subst e; omega)))
                clear hh6 ho6 hs6
                refine hK _ _ ?_
                clear hK K
                refine wpAny_ready (rs := [12]) (by kernel_rfl) (by simp) ?_
                refine AllReady.cons rfl (fun K hK => ?_) AllReady.nil
                go_simp
                refine hK _ _ ?_
                clear hK K
                refine wpAny_done (by kernel_rfl) ?_ _
                by_cases h0 : er = 0
                · subst h0
                  have e1 : heeded 0 false = false := rfl
                  rw [e1] at HH6
                  rw [if_pos rfl] at HE
                  go_wp2_with fail
                  have c2 := HH6.out.c2
                  have c3 := HH6.out.c3
                  have f2 := HH6.out.fr 2
                  have KLN : Hid (∀ p, Calls Tryz.prog 41 #[.pointer (some ⟨w.heap.size, 0, none⟩)] (w6.drewN p) fun e w' => e = .returned (.int .i64 (fl : Nat)) ∧ ∃ n, w' = (w6.drewN p).drewN n) := fun p => lblen_at w.heap.size w.heap.size (frs rs) fl _ (builder_kept HB6.out (fun _ _ _ => rfl)) HFL.out
                  refine wp_region_quiet_tail 8 (by kernel_rfl) (by kernel_rfl) ?_
                  simp only [List.take_succ_cons, List.take_zero, List.drop_succ_cons, List.drop_zero]
                  repeat (go_big_quiet_step ((go_at_call 41; exact Calls.quiet_of (KLN.out _))))
                  refine wpQuiet_nil ?_
                  rintro _ ⟨p, rfl⟩
                  have HH7 : Hid (LHead (w6.drewN p) x g n sz ct su false) := HH6.out
                  have HO7 : Hid (Only (fun k => k = x) w5 (w6.drewN p)) := HO6.out.trans (((Below.refl _ w6).drewN p).only _) (fun k hk => Or.inl hk)
                  clear HH6 HO6 HB6 KLN c2 c3 f2 HB5
                  generalize w6.drewN p = w7 at *
                  have c2 := HH7.out.c2
                  have c3 := HH7.out.c3
                  have f2 := HH7.out.fr 2
                  have hs2 := heap_set (i := 2) HH7.out (.int .i64 ((sz : Int) + (fl : Int)))
                  have d3 : (w7.setCell ⟨x, 2, none⟩ (.int .i64 ((sz : Int) + (fl : Int)))).cell? ⟨x, 3, none⟩ = some (.int .i64 (ct : Nat)) := by rw [cell_hp hs2]; rfl
                  have f3 : (w7.setCell ⟨x, 2, none⟩ (.int .i64 ((sz : Int) + (fl : Int)))).frozen? ⟨x, 3, none⟩ = false := frozen_hp hs2 3
                  have hs3 := heap_set (i := 3) hs2 (.int .i64 ((ct : Int) + (m : Int)))
                  go_wp2_with fail
                  go_ret
                  rw [HE.out]
                  refine PE.out O5 w5 _ τ ⟨recs ++ rs, su, false⟩ 0 HD5.out HO5.out HN5.out (HO7.out.trans ((Only.set w7 x 2 _).trans (Only.set _ x 3 _) (fun k hk => Or.inl hk)) (fun k hk => Or.inl hk)) ?_ hn'.out (by show (frs (recs ++ rs)).length ≤ _; rw [frs_append, List.length_append]; have h1 : (frs recs).length ≤ 1099511627776 := hlb; omega)
                  have e5 : llen ⟨recs ++ rs, su, false⟩ = sz + fl := by rw [← HSZ.out, ← HFL.out]; show (frs (recs ++ rs)).length = (frs recs).length + _; rw [frs_append, List.length_append]
                  have e6 : (recs ++ rs).length = ct + m := by rw [List.length_append, HCT.out, HL.out]
                  rw [e5]
                  show LHead _ x g n (sz + fl) (recs ++ rs).length su false
                  rw [e6]
                  have e2 : ((sz + fl : Nat) : Int) = (sz : Int) + (fl : Int) := by omega
                  have e3 : ((ct + m : Nat) : Int) = (ct : Int) + (m : Int) := by omega
                  unfold LHead
                  rw [e2, e3]
                  exact hs3
                · have q : ((er : Int) == 0) = false := by rw [beq_eq_false_iff_ne]; omega
                  rw [if_neg h0] at HE
                  go_wp2_with fail
                  go_ret
                  rw [HE.out]
                  by_cases h6 : er = 6
                  · subst h6
                    rw [if_pos rfl]
                    refine PE.out O5 w5 _ τ ⟨recs, su, false⟩ 6 HD5.out HO5.out HN5.out HO6.out ?_ hn'.out hsz
                    have h := HH6.out
                    rw [← HSZ.out, ← HCT.out] at h
                    exact h
                  · rw [if_neg h6]
                    refine PE.out O5 w5 _ τ ⟨recs, su, true⟩ er HD5.out HO5.out HN5.out HO6.out ?_ hn'.out hsz
                    have h := HH6.out
                    have e1 : heeded er false = true := if_neg (by omega)
                    rw [← HSZ.out, ← HCT.out, e1] at h
                    exact h
          · have c1 := (HH9.out.below HW3.out).c1
            go_simp
            clear c1
            refine hK _ _ ?_
            clear hK K
            refine wpAny_ready (rs := [4, 9]) (by kernel_rfl) (by simp) ?_
            refine AllReady.cons rfl (fun K hK => ?_) (AllReady.cons rfl (fun K hK => ?_) AllReady.nil)
            · have c0 := (HH9.out.below HW3.out).c0
              go_simp
              clear c0
              refine hK _ _ ?_
              clear hK K
              refine wpAny_ready (rs := [9]) (by kernel_rfl) (by simp) ?_
              refine AllReady.cons rfl (fun K hK => ?_) AllReady.nil
              · go_simp
                refine (lstring_at w.heap.size w.heap.size (frs rs) X _ HB3 HW3.out.size HX).mono ?_
                rintro e v8 ⟨rfl, hb, hb2⟩
                have HB108 := Lib.hid hb
                have HW108 := Lib.hid (HW3.out.trans hb2)
                clear hb hb2
                refine hK _ _ ?_
                clear hK K
                refine wpAny_ready (rs := [10]) (by kernel_rfl) (by simp) ?_
                refine AllReady.cons rfl (fun K hK => ?_) AllReady.nil
                go_simp
                refine (KA.out _ HW108.out).mono ?_
                rintro e w5 ⟨rfl, O5, hd5, ho5, hn5⟩
                have HD5 := Lib.hid hd5
                have HO5 := Lib.hid ((HW108.out.only O).trans ho5 (fun k hk => Or.inl hk))
                have HN5 : Hid (∀ k, O5 k → O k ∨ w.heap.size ≤ k) := fun k hk => by rcases hn5 k hk with h | h; exact Or.inl h; exact Or.inr (Nat.le_trans HW108.out.size h)
                have HH5 : Hid (LHead w5 x g n sz ct su false) := HH9.out.kept (HO5.out.block x hlt (fun h => hx x h ((hQ x).2 rfl)))
                have HB5 := Lib.hid (builder_kept HB108.out (fun k hk1 hk2 => ho5.block k hk2 (fun ho => by have := hD.own HD0.out k ho; omega)))
                clear hd5 ho5 hn5
                refine hK _ _ ?_
                clear hK K
                refine wpAny_ready (rs := [11]) (by kernel_rfl) (by simp) ?_
                refine AllReady.cons rfl (fun K hK => ?_) AllReady.nil
                go_simp
                refine (lheed_at HH5.out er).mono ?_
                rintro e w6 ⟨rfl, hh6, ho6, hs6⟩
                have HH6 := Lib.hid hh6
                have HO6 := Lib.hid ho6
                have HB6 := Lib.hid (builder_kept HB5.out (fun k hk1 hk2 => ho6.block k hk2 (fun e => by subst e; omega)))
                clear hh6 ho6 hs6
                refine hK _ _ ?_
                clear hK K
                refine wpAny_ready (rs := [12]) (by kernel_rfl) (by simp) ?_
                refine AllReady.cons rfl (fun K hK => ?_) AllReady.nil
                go_simp
                refine hK _ _ ?_
                clear hK K
                refine wpAny_done (by kernel_rfl) ?_ _
                by_cases h0 : er = 0
                · subst h0
                  have e1 : heeded 0 false = false := rfl
                  rw [e1] at HH6
                  rw [if_pos rfl] at HE
                  go_wp2_with fail
                  have c2 := HH6.out.c2
                  have c3 := HH6.out.c3
                  have f2 := HH6.out.fr 2
                  have KLN : Hid (∀ p, Calls Tryz.prog 41 #[.pointer (some ⟨w.heap.size, 0, none⟩)] (w6.drewN p) fun e w' => e = .returned (.int .i64 (fl : Nat)) ∧ ∃ n, w' = (w6.drewN p).drewN n) := fun p => lblen_at w.heap.size w.heap.size (frs rs) fl _ (builder_kept HB6.out (fun _ _ _ => rfl)) HFL.out
                  refine wp_region_quiet_tail 8 (by kernel_rfl) (by kernel_rfl) ?_
                  simp only [List.take_succ_cons, List.take_zero, List.drop_succ_cons, List.drop_zero]
                  repeat (go_big_quiet_step ((go_at_call 41; exact Calls.quiet_of (KLN.out _))))
                  refine wpQuiet_nil ?_
                  rintro _ ⟨p, rfl⟩
                  have HH7 : Hid (LHead (w6.drewN p) x g n sz ct su false) := HH6.out
                  have HO7 : Hid (Only (fun k => k = x) w5 (w6.drewN p)) := HO6.out.trans (((Below.refl _ w6).drewN p).only _) (fun k hk => Or.inl hk)
                  clear HH6 HO6 HB6 KLN c2 c3 f2 HB5
                  generalize w6.drewN p = w7 at *
                  have c2 := HH7.out.c2
                  have c3 := HH7.out.c3
                  have f2 := HH7.out.fr 2
                  have hs2 := heap_set (i := 2) HH7.out (.int .i64 ((sz : Int) + (fl : Int)))
                  have d3 : (w7.setCell ⟨x, 2, none⟩ (.int .i64 ((sz : Int) + (fl : Int)))).cell? ⟨x, 3, none⟩ = some (.int .i64 (ct : Nat)) := by rw [cell_hp hs2]; rfl
                  have f3 : (w7.setCell ⟨x, 2, none⟩ (.int .i64 ((sz : Int) + (fl : Int)))).frozen? ⟨x, 3, none⟩ = false := frozen_hp hs2 3
                  have hs3 := heap_set (i := 3) hs2 (.int .i64 ((ct : Int) + (m : Int)))
                  go_wp2_with fail
                  go_ret
                  rw [HE.out]
                  refine PE.out O5 w5 _ τ ⟨recs ++ rs, su, false⟩ 0 HD5.out HO5.out HN5.out (HO7.out.trans ((Only.set w7 x 2 _).trans (Only.set _ x 3 _) (fun k hk => Or.inl hk)) (fun k hk => Or.inl hk)) ?_ hn'.out (by show (frs (recs ++ rs)).length ≤ _; rw [frs_append, List.length_append]; have h1 : (frs recs).length ≤ 1099511627776 := hlb; omega)
                  have e5 : llen ⟨recs ++ rs, su, false⟩ = sz + fl := by rw [← HSZ.out, ← HFL.out]; show (frs (recs ++ rs)).length = (frs recs).length + _; rw [frs_append, List.length_append]
                  have e6 : (recs ++ rs).length = ct + m := by rw [List.length_append, HCT.out, HL.out]
                  rw [e5]
                  show LHead _ x g n (sz + fl) (recs ++ rs).length su false
                  rw [e6]
                  have e2 : ((sz + fl : Nat) : Int) = (sz : Int) + (fl : Int) := by omega
                  have e3 : ((ct + m : Nat) : Int) = (ct : Int) + (m : Int) := by omega
                  unfold LHead
                  rw [e2, e3]
                  exact hs3
                · have q : ((er : Int) == 0) = false := by rw [beq_eq_false_iff_ne]; omega
                  rw [if_neg h0] at HE
                  go_wp2_with fail
                  go_ret
                  rw [HE.out]
                  by_cases h6 : er = 6
                  · subst h6
                    rw [if_pos rfl]
                    refine PE.out O5 w5 _ τ ⟨recs, su, false⟩ 6 HD5.out HO5.out HN5.out HO6.out ?_ hn'.out hsz
                    have h := HH6.out
                    rw [← HSZ.out, ← HCT.out] at h
                    exact h
                  · rw [if_neg h6]
                    refine PE.out O5 w5 _ τ ⟨recs, su, true⟩ er HD5.out HO5.out HN5.out HO6.out ?_ hn'.out hsz
                    have h := HH6.out
                    have e1 : heeded er false = true := if_neg (by omega)
                    rw [← HSZ.out, ← HCT.out, e1] at h
                    exact h
            · go_simp
              refine (lstring_at w.heap.size w.heap.size (frs rs) X _ HB3 HW3.out.size HX).mono ?_
              rintro e v9 ⟨rfl, hb, hb2⟩
              have HB109 := Lib.hid hb
              have HW109 := Lib.hid (HW3.out.trans hb2)
              clear hb hb2
              refine hK _ _ ?_
              clear hK K
              refine wpAny_ready (rs := [4]) (by kernel_rfl) (by simp) ?_
              refine AllReady.cons rfl (fun K hK => ?_) AllReady.nil
              · have c0 := (HH9.out.below HW109.out).c0
                go_simp
                clear c0
                refine hK _ _ ?_
                clear hK K
                refine wpAny_ready (rs := [10]) (by kernel_rfl) (by simp) ?_
                refine AllReady.cons rfl (fun K hK => ?_) AllReady.nil
                go_simp
                refine (KA.out _ HW109.out).mono ?_
                rintro e w5 ⟨rfl, O5, hd5, ho5, hn5⟩
                have HD5 := Lib.hid hd5
                have HO5 := Lib.hid ((HW109.out.only O).trans ho5 (fun k hk => Or.inl hk))
                have HN5 : Hid (∀ k, O5 k → O k ∨ w.heap.size ≤ k) := fun k hk => by rcases hn5 k hk with h | h; exact Or.inl h; exact Or.inr (Nat.le_trans HW109.out.size h)
                have HH5 : Hid (LHead w5 x g n sz ct su false) := HH9.out.kept (HO5.out.block x hlt (fun h => hx x h ((hQ x).2 rfl)))
                have HB5 := Lib.hid (builder_kept HB109.out (fun k hk1 hk2 => ho5.block k hk2 (fun ho => by have := hD.own HD0.out k ho; omega)))
                clear hd5 ho5 hn5
                refine hK _ _ ?_
                clear hK K
                refine wpAny_ready (rs := [11]) (by kernel_rfl) (by simp) ?_
                refine AllReady.cons rfl (fun K hK => ?_) AllReady.nil
                go_simp
                refine (lheed_at HH5.out er).mono ?_
                rintro e w6 ⟨rfl, hh6, ho6, hs6⟩
                have HH6 := Lib.hid hh6
                have HO6 := Lib.hid ho6
                have HB6 := Lib.hid (builder_kept HB5.out (fun k hk1 hk2 => ho6.block k hk2 (fun e => by subst e; omega)))
                clear hh6 ho6 hs6
                refine hK _ _ ?_
                clear hK K
                refine wpAny_ready (rs := [12]) (by kernel_rfl) (by simp) ?_
                refine AllReady.cons rfl (fun K hK => ?_) AllReady.nil
                go_simp
                refine hK _ _ ?_
                clear hK K
                refine wpAny_done (by kernel_rfl) ?_ _
                by_cases h0 : er = 0
                · subst h0
                  have e1 : heeded 0 false = false := rfl
                  rw [e1] at HH6
                  rw [if_pos rfl] at HE
                  go_wp2_with fail
                  have c2 := HH6.out.c2
                  have c3 := HH6.out.c3
                  have f2 := HH6.out.fr 2
                  have KLN : Hid (∀ p, Calls Tryz.prog 41 #[.pointer (some ⟨w.heap.size, 0, none⟩)] (w6.drewN p) fun e w' => e = .returned (.int .i64 (fl : Nat)) ∧ ∃ n, w' = (w6.drewN p).drewN n) := fun p => lblen_at w.heap.size w.heap.size (frs rs) fl _ (builder_kept HB6.out (fun _ _ _ => rfl)) HFL.out
                  refine wp_region_quiet_tail 8 (by kernel_rfl) (by kernel_rfl) ?_
                  simp only [List.take_succ_cons, List.take_zero, List.drop_succ_cons, List.drop_zero]
                  repeat (go_big_quiet_step ((go_at_call 41; exact Calls.quiet_of (KLN.out _))))
                  refine wpQuiet_nil ?_
                  rintro _ ⟨p, rfl⟩
                  have HH7 : Hid (LHead (w6.drewN p) x g n sz ct su false) := HH6.out
                  have HO7 : Hid (Only (fun k => k = x) w5 (w6.drewN p)) := HO6.out.trans (((Below.refl _ w6).drewN p).only _) (fun k hk => Or.inl hk)
                  clear HH6 HO6 HB6 KLN c2 c3 f2 HB5
                  generalize w6.drewN p = w7 at *
                  have c2 := HH7.out.c2
                  have c3 := HH7.out.c3
                  have f2 := HH7.out.fr 2
                  have hs2 := heap_set (i := 2) HH7.out (.int .i64 ((sz : Int) + (fl : Int)))
                  have d3 : (w7.setCell ⟨x, 2, none⟩ (.int .i64 ((sz : Int) + (fl : Int)))).cell? ⟨x, 3, none⟩ = some (.int .i64 (ct : Nat)) := by rw [cell_hp hs2]; rfl
                  have f3 : (w7.setCell ⟨x, 2, none⟩ (.int .i64 ((sz : Int) + (fl : Int)))).frozen? ⟨x, 3, none⟩ = false := frozen_hp hs2 3
                  have hs3 := heap_set (i := 3) hs2 (.int .i64 ((ct : Int) + (m : Int)))
                  go_wp2_with fail
                  go_ret
                  rw [HE.out]
                  refine PE.out O5 w5 _ τ ⟨recs ++ rs, su, false⟩ 0 HD5.out HO5.out HN5.out (HO7.out.trans ((Only.set w7 x 2 _).trans (Only.set _ x 3 _) (fun k hk => Or.inl hk)) (fun k hk => Or.inl hk)) ?_ hn'.out (by show (frs (recs ++ rs)).length ≤ _; rw [frs_append, List.length_append]; have h1 : (frs recs).length ≤ 1099511627776 := hlb; omega)
                  have e5 : llen ⟨recs ++ rs, su, false⟩ = sz + fl := by rw [← HSZ.out, ← HFL.out]; show (frs (recs ++ rs)).length = (frs recs).length + _; rw [frs_append, List.length_append]
                  have e6 : (recs ++ rs).length = ct + m := by rw [List.length_append, HCT.out, HL.out]
                  rw [e5]
                  show LHead _ x g n (sz + fl) (recs ++ rs).length su false
                  rw [e6]
                  have e2 : ((sz + fl : Nat) : Int) = (sz : Int) + (fl : Int) := by omega
                  have e3 : ((ct + m : Nat) : Int) = (ct : Int) + (m : Int) := by omega
                  unfold LHead
                  rw [e2, e3]
                  exact hs3
                · have q : ((er : Int) == 0) = false := by rw [beq_eq_false_iff_ne]; omega
                  rw [if_neg h0] at HE
                  go_wp2_with fail
                  go_ret
                  rw [HE.out]
                  by_cases h6 : er = 6
                  · subst h6
                    rw [if_pos rfl]
                    refine PE.out O5 w5 _ τ ⟨recs, su, false⟩ 6 HD5.out HO5.out HN5.out HO6.out ?_ hn'.out hsz
                    have h := HH6.out
                    rw [← HSZ.out, ← HCT.out] at h
                    exact h
                  · rw [if_neg h6]
                    refine PE.out O5 w5 _ τ ⟨recs, su, true⟩ er HD5.out HO5.out HN5.out HO6.out ?_ hn'.out hsz
                    have h := HH6.out
                    have e1 : heeded er false = true := if_neg (by omega)
                    rw [← HSZ.out, ← HCT.out, e1] at h
                    exact h
          · go_simp
            refine (lstring_at w.heap.size w.heap.size (frs rs) X _ HB3 HW3.out.size HX).mono ?_
            rintro e v11 ⟨rfl, hb, hb2⟩
            have HB111 := Lib.hid hb
            have HW111 := Lib.hid (HW3.out.trans hb2)
            clear hb hb2
            refine hK _ _ ?_
            clear hK K
            refine wpAny_ready (rs := [4, 8]) (by kernel_rfl) (by simp) ?_
            refine AllReady.cons rfl (fun K hK => ?_) (AllReady.cons rfl (fun K hK => ?_) AllReady.nil)
            · have c0 := (HH9.out.below HW111.out).c0
              go_simp
              clear c0
              refine hK _ _ ?_
              clear hK K
              refine wpAny_ready (rs := [8]) (by kernel_rfl) (by simp) ?_
              refine AllReady.cons rfl (fun K hK => ?_) AllReady.nil
              · have c1 := (HH9.out.below HW111.out).c1
                go_simp
                clear c1
                refine hK _ _ ?_
                clear hK K
                refine wpAny_ready (rs := [10]) (by kernel_rfl) (by simp) ?_
                refine AllReady.cons rfl (fun K hK => ?_) AllReady.nil
                go_simp
                refine (KA.out _ HW111.out).mono ?_
                rintro e w5 ⟨rfl, O5, hd5, ho5, hn5⟩
                have HD5 := Lib.hid hd5
                have HO5 := Lib.hid ((HW111.out.only O).trans ho5 (fun k hk => Or.inl hk))
                have HN5 : Hid (∀ k, O5 k → O k ∨ w.heap.size ≤ k) := fun k hk => by rcases hn5 k hk with h | h; exact Or.inl h; exact Or.inr (Nat.le_trans HW111.out.size h)
                have HH5 : Hid (LHead w5 x g n sz ct su false) := HH9.out.kept (HO5.out.block x hlt (fun h => hx x h ((hQ x).2 rfl)))
                have HB5 := Lib.hid (builder_kept HB111.out (fun k hk1 hk2 => ho5.block k hk2 (fun ho => by have := hD.own HD0.out k ho; omega)))
                clear hd5 ho5 hn5
                refine hK _ _ ?_
                clear hK K
                refine wpAny_ready (rs := [11]) (by kernel_rfl) (by simp) ?_
                refine AllReady.cons rfl (fun K hK => ?_) AllReady.nil
                go_simp
                refine (lheed_at HH5.out er).mono ?_
                rintro e w6 ⟨rfl, hh6, ho6, hs6⟩
                have HH6 := Lib.hid hh6
                have HO6 := Lib.hid ho6
                have HB6 := Lib.hid (builder_kept HB5.out (fun k hk1 hk2 => ho6.block k hk2 (fun e => by subst e; omega)))
                clear hh6 ho6 hs6
                refine hK _ _ ?_
                clear hK K
                refine wpAny_ready (rs := [12]) (by kernel_rfl) (by simp) ?_
                refine AllReady.cons rfl (fun K hK => ?_) AllReady.nil
                go_simp
                refine hK _ _ ?_
                clear hK K
                refine wpAny_done (by kernel_rfl) ?_ _
                by_cases h0 : er = 0
                · subst h0
                  have e1 : heeded 0 false = false := rfl
                  rw [e1] at HH6
                  rw [if_pos rfl] at HE
                  go_wp2_with fail
                  have c2 := HH6.out.c2
                  have c3 := HH6.out.c3
                  have f2 := HH6.out.fr 2
                  have KLN : Hid (∀ p, Calls Tryz.prog 41 #[.pointer (some ⟨w.heap.size, 0, none⟩)] (w6.drewN p) fun e w' => e = .returned (.int .i64 (fl : Nat)) ∧ ∃ n, w' = (w6.drewN p).drewN n) := fun p => lblen_at w.heap.size w.heap.size (frs rs) fl _ (builder_kept HB6.out (fun _ _ _ => rfl)) HFL.out
                  refine wp_region_quiet_tail 8 (by kernel_rfl) (by kernel_rfl) ?_
                  simp only [List.take_succ_cons, List.take_zero, List.drop_succ_cons, List.drop_zero]
                  repeat (go_big_quiet_step ((go_at_call 41; exact Calls.quiet_of (KLN.out _))))
                  refine wpQuiet_nil ?_
                  rintro _ ⟨p, rfl⟩
                  have HH7 : Hid (LHead (w6.drewN p) x g n sz ct su false) := HH6.out
                  have HO7 : Hid (Only (fun k => k = x) w5 (w6.drewN p)) := HO6.out.trans (((Below.refl _ w6).drewN p).only _) (fun k hk => Or.inl hk)
                  clear HH6 HO6 HB6 KLN c2 c3 f2 HB5
                  generalize w6.drewN p = w7 at *
                  have c2 := HH7.out.c2
                  have c3 := HH7.out.c3
                  have f2 := HH7.out.fr 2
                  have hs2 := heap_set (i := 2) HH7.out (.int .i64 ((sz : Int) + (fl : Int)))
                  have d3 : (w7.setCell ⟨x, 2, none⟩ (.int .i64 ((sz : Int) + (fl : Int)))).cell? ⟨x, 3, none⟩ = some (.int .i64 (ct : Nat)) := by rw [cell_hp hs2]; rfl
                  have f3 : (w7.setCell ⟨x, 2, none⟩ (.int .i64 ((sz : Int) + (fl : Int)))).frozen? ⟨x, 3, none⟩ = false := frozen_hp hs2 3
                  have hs3 := heap_set (i := 3) hs2 (.int .i64 ((ct : Int) + (m : Int)))
                  go_wp2_with fail
                  go_ret
                  rw [HE.out]
                  refine PE.out O5 w5 _ τ ⟨recs ++ rs, su, false⟩ 0 HD5.out HO5.out HN5.out (HO7.out.trans ((Only.set w7 x 2 _).trans (Only.set _ x 3 _) (fun k hk => Or.inl hk)) (fun k hk => Or.inl hk)) ?_ hn'.out (by show (frs (recs ++ rs)).length ≤ _; rw [frs_append, List.length_append]; have h1 : (frs recs).length ≤ 1099511627776 := hlb; omega)
                  have e5 : llen ⟨recs ++ rs, su, false⟩ = sz + fl := by rw [← HSZ.out, ← HFL.out]; show (frs (recs ++ rs)).length = (frs recs).length + _; rw [frs_append, List.length_append]
                  have e6 : (recs ++ rs).length = ct + m := by rw [List.length_append, HCT.out, HL.out]
                  rw [e5]
                  show LHead _ x g n (sz + fl) (recs ++ rs).length su false
                  rw [e6]
                  have e2 : ((sz + fl : Nat) : Int) = (sz : Int) + (fl : Int) := by omega
                  have e3 : ((ct + m : Nat) : Int) = (ct : Int) + (m : Int) := by omega
                  unfold LHead
                  rw [e2, e3]
                  exact hs3
                · have q : ((er : Int) == 0) = false := by rw [beq_eq_false_iff_ne]; omega
                  rw [if_neg h0] at HE
                  go_wp2_with fail
                  go_ret
                  rw [HE.out]
                  by_cases h6 : er = 6
                  · subst h6
                    rw [if_pos rfl]
                    refine PE.out O5 w5 _ τ ⟨recs, su, false⟩ 6 HD5.out HO5.out HN5.out HO6.out ?_ hn'.out hsz
                    have h := HH6.out
                    rw [← HSZ.out, ← HCT.out] at h
                    exact h
                  · rw [if_neg h6]
                    refine PE.out O5 w5 _ τ ⟨recs, su, true⟩ er HD5.out HO5.out HN5.out HO6.out ?_ hn'.out hsz
                    have h := HH6.out
                    have e1 : heeded er false = true := if_neg (by omega)
                    rw [← HSZ.out, ← HCT.out, e1] at h
                    exact h
            · have c1 := (HH9.out.below HW111.out).c1
              go_simp
              clear c1
              refine hK _ _ ?_
              clear hK K
              refine wpAny_ready (rs := [4]) (by kernel_rfl) (by simp) ?_
              refine AllReady.cons rfl (fun K hK => ?_) AllReady.nil
              · have c0 := (HH9.out.below HW111.out).c0
                go_simp
                clear c0
                refine hK _ _ ?_
                clear hK K
                refine wpAny_ready (rs := [10]) (by kernel_rfl) (by simp) ?_
                refine AllReady.cons rfl (fun K hK => ?_) AllReady.nil
                go_simp
                refine (KA.out _ HW111.out).mono ?_
                rintro e w5 ⟨rfl, O5, hd5, ho5, hn5⟩
                have HD5 := Lib.hid hd5
                have HO5 := Lib.hid ((HW111.out.only O).trans ho5 (fun k hk => Or.inl hk))
                have HN5 : Hid (∀ k, O5 k → O k ∨ w.heap.size ≤ k) := fun k hk => by rcases hn5 k hk with h | h; exact Or.inl h; exact Or.inr (Nat.le_trans HW111.out.size h)
                have HH5 : Hid (LHead w5 x g n sz ct su false) := HH9.out.kept (HO5.out.block x hlt (fun h => hx x h ((hQ x).2 rfl)))
                have HB5 := Lib.hid (builder_kept HB111.out (fun k hk1 hk2 => ho5.block k hk2 (fun ho => by have := hD.own HD0.out k ho; omega)))
                clear hd5 ho5 hn5
                refine hK _ _ ?_
                clear hK K
                refine wpAny_ready (rs := [11]) (by kernel_rfl) (by simp) ?_
                refine AllReady.cons rfl (fun K hK => ?_) AllReady.nil
                go_simp
                refine (lheed_at HH5.out er).mono ?_
                rintro e w6 ⟨rfl, hh6, ho6, hs6⟩
                have HH6 := Lib.hid hh6
                have HO6 := Lib.hid ho6
                have HB6 := Lib.hid (builder_kept HB5.out (fun k hk1 hk2 => ho6.block k hk2 (fun e => by subst e; omega)))
                clear hh6 ho6 hs6
                refine hK _ _ ?_
                clear hK K
                refine wpAny_ready (rs := [12]) (by kernel_rfl) (by simp) ?_
                refine AllReady.cons rfl (fun K hK => ?_) AllReady.nil
                go_simp
                refine hK _ _ ?_
                clear hK K
                refine wpAny_done (by kernel_rfl) ?_ _
                by_cases h0 : er = 0
                · subst h0
                  have e1 : heeded 0 false = false := rfl
                  rw [e1] at HH6
                  rw [if_pos rfl] at HE
                  go_wp2_with fail
                  have c2 := HH6.out.c2
                  have c3 := HH6.out.c3
                  have f2 := HH6.out.fr 2
                  have KLN : Hid (∀ p, Calls Tryz.prog 41 #[.pointer (some ⟨w.heap.size, 0, none⟩)] (w6.drewN p) fun e w' => e = .returned (.int .i64 (fl : Nat)) ∧ ∃ n, w' = (w6.drewN p).drewN n) := fun p => lblen_at w.heap.size w.heap.size (frs rs) fl _ (builder_kept HB6.out (fun _ _ _ => rfl)) HFL.out
                  refine wp_region_quiet_tail 8 (by kernel_rfl) (by kernel_rfl) ?_
                  simp only [List.take_succ_cons, List.take_zero, List.drop_succ_cons, List.drop_zero]
                  repeat (go_big_quiet_step ((go_at_call 41; exact Calls.quiet_of (KLN.out _))))
                  refine wpQuiet_nil ?_
                  rintro _ ⟨p, rfl⟩
                  have HH7 : Hid (LHead (w6.drewN p) x g n sz ct su false) := HH6.out
                  have HO7 : Hid (Only (fun k => k = x) w5 (w6.drewN p)) := HO6.out.trans (((Below.refl _ w6).drewN p).only _) (fun k hk => Or.inl hk)
                  clear HH6 HO6 HB6 KLN c2 c3 f2 HB5
                  generalize w6.drewN p = w7 at *
                  have c2 := HH7.out.c2
                  have c3 := HH7.out.c3
                  have f2 := HH7.out.fr 2
                  have hs2 := heap_set (i := 2) HH7.out (.int .i64 ((sz : Int) + (fl : Int)))
                  have d3 : (w7.setCell ⟨x, 2, none⟩ (.int .i64 ((sz : Int) + (fl : Int)))).cell? ⟨x, 3, none⟩ = some (.int .i64 (ct : Nat)) := by rw [cell_hp hs2]; rfl
                  have f3 : (w7.setCell ⟨x, 2, none⟩ (.int .i64 ((sz : Int) + (fl : Int)))).frozen? ⟨x, 3, none⟩ = false := frozen_hp hs2 3
                  have hs3 := heap_set (i := 3) hs2 (.int .i64 ((ct : Int) + (m : Int)))
                  go_wp2_with fail
                  go_ret
                  rw [HE.out]
                  refine PE.out O5 w5 _ τ ⟨recs ++ rs, su, false⟩ 0 HD5.out HO5.out HN5.out (HO7.out.trans ((Only.set w7 x 2 _).trans (Only.set _ x 3 _) (fun k hk => Or.inl hk)) (fun k hk => Or.inl hk)) ?_ hn'.out (by show (frs (recs ++ rs)).length ≤ _; rw [frs_append, List.length_append]; have h1 : (frs recs).length ≤ 1099511627776 := hlb; omega)
                  have e5 : llen ⟨recs ++ rs, su, false⟩ = sz + fl := by rw [← HSZ.out, ← HFL.out]; show (frs (recs ++ rs)).length = (frs recs).length + _; rw [frs_append, List.length_append]
                  have e6 : (recs ++ rs).length = ct + m := by rw [List.length_append, HCT.out, HL.out]
                  rw [e5]
                  show LHead _ x g n (sz + fl) (recs ++ rs).length su false
                  rw [e6]
                  have e2 : ((sz + fl : Nat) : Int) = (sz : Int) + (fl : Int) := by omega
                  have e3 : ((ct + m : Nat) : Int) = (ct : Int) + (m : Int) := by omega
                  unfold LHead
                  rw [e2, e3]
                  exact hs3
                · have q : ((er : Int) == 0) = false := by rw [beq_eq_false_iff_ne]; omega
                  rw [if_neg h0] at HE
                  go_wp2_with fail
                  go_ret
                  rw [HE.out]
                  by_cases h6 : er = 6
                  · subst h6
                    rw [if_pos rfl]
                    refine PE.out O5 w5 _ τ ⟨recs, su, false⟩ 6 HD5.out HO5.out HN5.out HO6.out ?_ hn'.out hsz
                    have h := HH6.out
                    rw [← HSZ.out, ← HCT.out] at h
                    exact h
                  · rw [if_neg h6]
                    refine PE.out O5 w5 _ τ ⟨recs, su, true⟩ er HD5.out HO5.out HN5.out HO6.out ?_ hn'.out hsz
                    have h := HH6.out
                    have e1 : heeded er false = true := if_neg (by omega)
                    rw [← HSZ.out, ← HCT.out, e1] at h
                    exact h

end Go.Proofs.YtikbokbmaihdbaaGreatDoor
