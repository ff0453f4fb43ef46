/-
  Layer 8: Sync, over any disk.
-/
import Derived.Test.YtikbokbmaihdbaaDoorLBase
namespace Go.Proofs.YtikbokbmaihdbaaDoor
open Go.RowKit Go.ChangeShapes Go.WideShapes

set_option maxRecDepth 100000 in
set_option maxHeartbeats 2000000 in
theorem lg_sync {D : Disks} (hD : DoorB D) {O Q : Nat → Prop} {w : World} {x g : Nat} {σ : Dsk} {n : ByteArray} {l : Lg} (hd : D O w g σ) (hl : TheLog Q w x g n l) (hx : ∀ k, O k → ¬ Q k) : Calls Tryd.prog 13 #[ptr x] w (Put D TheLog O Q w x g n (lsync σ n l)) := by
  obtain ⟨hn, hsz, hh, hQ⟩ := hl
  obtain ⟨recs, su, br⟩ := l
  have hlt := hh.lt
  have KR := lready_at hh
  have PE := Lib.hid (fun O1 w1 w2 τ l er => put_end (w1 := w1) (w2 := w2) (O1 := O1) (n := n) (g := g) (τ := τ) (l := l) (er := er) hD hQ hx hlt)
  cases br with
  | true =>
    have e1 : lsync σ n ⟨recs, su, true⟩ = (σ, ⟨recs, su, true⟩, 3) := if_pos rfl
    rw [e1]
    go_enter Tryd.func13, Tryd.ntmps13
    go_wp2_with (go_at_call 29; refine KR.mono ?_; rintro e w' ⟨rfl, rfl⟩)
    go_ret
    exact PE.out O w w σ ⟨recs, su, true⟩ 3 hd (Only.refl _ _) (fun k hk => Or.inl hk) (Only.refl _ _) hh hn hsz
  | false =>
    have c0 := hh.c0
    have c1 := hh.c1
    obtain ⟨τ, er, hτ⟩ : ∃ τ er, sync σ n = (τ, er) := ⟨_, _, rfl⟩
    have h6 : er ≠ 6 := by have h := sync_six (σ := σ) (n := n); rw [hτ] at h; exact h
    have KS : Hid (∀ W, Below w.heap.size w W → Calls Tryd.prog 27 #[ptr g, .string n] W (Did D O W g (τ, er))) := fun W hW => by rw [← hτ]; exact hD.sync n (hD.below hd hW) hn
    have HE := Lib.hid (lsync_eq (recs := recs) (su := su) hτ)
    obtain ⟨sz, hszz⟩ : ∃ sz, llen ⟨recs, su, false⟩ = sz := ⟨_, rfl⟩
    obtain ⟨ct, hct⟩ : ∃ ct, recs.length = ct := ⟨_, rfl⟩
    have HSZ := Lib.hid hszz
    have HCT := Lib.hid hct
    have HH : Hid (LHead w x g n sz ct su false) := by have h := hh; rw [← hszz, ← hct]; exact h
    have HN := Lib.hid hn
    have HSS := Lib.hid hsz
    clear hszz hct hh hsz hn hτ
    go_enter Tryd.func13, Tryd.ntmps13
    go_wp2_with (go_at_call 29; refine KR.mono ?_; rintro e w' ⟨rfl, rfl⟩)
    refine wp_region_any (by kernel_rfl) ?_
    change wpAny _ _ _ _ _ _ _ (World.drew _)
    refine wpAny_take (i := 0) (v := ptr x) rfl (by kernel_rfl) (by kernel_rfl) (by kernel_rfl) (fun _ _ _ h => h) (Or.inl ⟨by kernel_rfl, ?_⟩) ?_
    · intro w; go_simp
    refine wpAny_quiet_tail (C := fun w' => ∃ n, w' = w.drewN n) 1 9 (by rfl) (by kernel_rfl) ⟨1, rfl⟩ ?_
    simp only [List.take_succ_cons, List.take_zero, List.drop_succ_cons, List.drop_zero]
    go_simp
    repeat (go_big_quiet_step (fail))
    refine wpQuiet_nil ?_
    intro p
    have HB1 := Lib.hid ((Below.refl w.heap.size w).drewN p)
    go_wp2_with fail
    refine (KS.out _ HB1.out).mono ?_
    rintro e w1 ⟨rfl, O1, hd1, ho1, hn1⟩
    have HD1 := Lib.hid hd1
    have HO1 := Lib.hid ((HB1.out.only O).trans ho1 (fun k hk => Or.inl hk))
    have HN1 : Hid (∀ k, O1 k → O k ∨ w.heap.size ≤ k) := fun k hk => by rcases hn1 k hk with h | h; exact Or.inl h; exact Or.inr (Nat.le_trans HB1.out.size h)
    have HH1 : Hid (LHead w1 x g n sz ct su false) := HH.out.kept (HO1.out.block x hlt (fun h => hx x h ((hQ x).2 rfl)))
    clear hd1 ho1 hn1 KS
    go_wp2_with fail
    refine (lheed_at HH1.out er).mono ?_
    rintro e w2 ⟨rfl, hh2, ho2, hs2⟩
    have HH2 := Lib.hid hh2
    have HO2 := Lib.hid ho2
    clear hh2 ho2 hs2
    by_cases h0 : er = 0
    · subst h0
      have e1 : heeded 0 false = false := rfl
      rw [e1] at HH2
      rw [if_pos rfl] at HE
      have d3 := HH2.out.c3
      have d4 := HH2.out.c4
      have f4 := HH2.out.fr 4
      have hs4 := heap_set (i := 4) HH2.out (.int .i64 (ct : Nat))
      go_wp2_with fail
      go_ret
      rw [HE.out]
      refine PE.out O1 w1 _ τ ⟨recs, recs.length, false⟩ 0 HD1.out HO1.out HN1.out (HO2.out.trans (Only.set w2 x 4 _) (fun k hk => Or.inl hk)) ?_ HN.out HSS.out
      have e2 : llen ⟨recs, recs.length, false⟩ = sz := HSZ.out
      rw [e2]
      show LHead _ x g n sz recs.length recs.length false
      rw [HCT.out]
      exact hs4
    · have q : ((er : Int) == 0) = false := by rw [beq_eq_false_iff_ne]; omega
      have e1 : heeded er false = true := if_neg (by omega)
      rw [e1] at HH2
      rw [if_neg h0] at HE
      go_wp2_with fail
      go_ret
      rw [HE.out]
      refine PE.out O1 w1 _ τ ⟨recs, su, true⟩ er HD1.out HO1.out HN1.out HO2.out ?_ HN.out HSS.out
      have h := HH2.out
      rw [← HSZ.out, ← HCT.out] at h
      exact h

end Go.Proofs.YtikbokbmaihdbaaDoor
