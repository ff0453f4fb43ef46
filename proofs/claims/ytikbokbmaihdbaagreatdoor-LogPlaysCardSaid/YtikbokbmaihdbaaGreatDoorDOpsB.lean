/-
  Layer 7: Sync, Cut, Append, Spoil, at a disk that New made and at none.
-/
import Derived.Test.YtikbokbmaihdbaaGreatDoorDOpsA
import Derived.OwnWalk
namespace Go.Proofs.YtikbokbmaihdbaaGreatDoor
open Go.RowKit Go.Maps Go.Lib

/-- What burns: the fuse behind a call. -/
theorem burn_le {σ : Dsk} (hz : ∀ k, σ.fuse = some k → k ≤ 9223372036854775807) : ∀ k, burn σ = some k → k ≤ 9223372036854775807 := by
  intro k hk
  unfold burn at hk
  cases hf : σ.fuse with
  | none => rw [hf] at hk; cases hk
  | some j =>
    rw [hf] at hk
    simp only [Option.map_some, Option.some.injEq] at hk
    have := hz j hf
    omega

/-- A file turns, and the fuse burns. -/
theorem did_turn {O : Nat → Prop} {w w2 : World} {g : Nat} {σ : Dsk} {b : Nat} {P : ByteArray → Nat} {V : ByteArray → Value} {n : ByteArray} {f f' : Fil} {v' : Value} {z : Option Nat} (hO : ∀ k, O k ↔ (k = g ∨ OLay b P V σ.fs k)) (h : DHead w g σ.room b σ.fuse) (hl : Lay w b P V σ.fs) (hg : get σ.fs n = some f)
    (hi : Inv ⟨σ.room, z, upd σ.fs n f'⟩) (hz : ∀ k, z = some k → k ≤ 9223372036854775807) (hh : DHead w2 g σ.room b z) (hF : File w2 (P n) v' f') (hv : ∀ k, v'.ownBlock = some k → (V n).ownBlock = some k ∨ w.heap.size ≤ k)
    (ho : Only (fun k => k = g ∨ k = P n ∨ (V n).ownBlock = some k) w w2) : Did TheDisk O w g (⟨σ.room, z, upd σ.fs n f'⟩, 0) (.returned (.int .i64 (0 : Nat))) w2 := by
  have hn := names_of_get hg
  refine did_of (er := 0) hO hi hz hh (hl.turn hg hF hv (fun k hk h1 h2 => ?_)) (ho.wide (fun k hk => ?_)) (fun k hk => OLay.turn hn hv hk)
  · exact ho.block k (hl.lt hk) (fun h3 => by rcases h3 with h3 | h3 | h3; exact h.not_lay hl hk h3; exact h1 h3; exact h2 h3)
  · rcases hk with rfl | rfl | hk
    · exact (hO _).2 (Or.inl rfl)
    · exact (hO _).2 (Or.inr (Or.inr ⟨n, hn, Or.inl rfl⟩))
    · exact (hO _).2 (Or.inr (Or.inr ⟨n, hn, Or.inr hk⟩))

section
variable {O : Nat → Prop} {w : World} {g : Nat} {σ : Dsk}
set_option maxHeartbeats 1000000 in
theorem sync_any (n : ByteArray) (hn : n.size ≤ many) (hd : TheDisk O w g σ) : Calls Tryz.prog 28 #[ptr g, .string n] w (Did TheDisk O w g (sync σ n)) := by
  have HI := Lib.hid (hd.1.sync n)
  obtain ⟨hi, hz, b, P, V, h, hl, hO⟩ := hd
  have hn' : n.size ≤ maxLen := by unfold many at hn; unfold maxLen; omega
  unfold sync at HI ⊢
  by_cases hf : σ.fuse = some 0
  · rw [if_pos hf]
    have HR := Lib.hid (did_of (er := 70) hO hi hz h hl (Only.refl O w) (fun k hk => Or.inl hk))
    have K := open_down h n hf
    go_enter Tryz.func28, Tryz.ntmps28
    go_wp2_with (go_at_call 59; refine K.mono ?_; rintro e w' ⟨rfl, rfl⟩)
    go_ret
    exact HR.out
  · rw [if_neg hf] at HI ⊢
    have K := open_at h hl n hn' hf
    cases hg : get σ.fs n with
    | none =>
      rw [hg] at K
      have HR := Lib.hid (did_of (er := 5) hO hi hz h hl (Only.refl O w) (fun k hk => Or.inl hk))
      clear HI
      go_enter Tryz.func28, Tryz.ntmps28
      go_wp2_with (go_at_call 59; refine K.mono ?_; rintro e w' ⟨rfl, rfl⟩)
      go_ret
      exact HR.out
    | some f =>
      rw [hg] at K HI
      dsimp only at HI ⊢
      have HL := Lib.hid hl
      have HH := Lib.hid h
      have HZ := Lib.hid hz
      have HG := Lib.hid hg
      have HN := Lib.hid (names_of_get hg)
      have KB := burn_at h hf hz
      obtain ⟨A, c, hv, _, _⟩ := (hl.file n f hg).slice
      clear hl h hz hi hg
      go_enter Tryz.func28, Tryz.ntmps28
      go_wp2_with (first
        | (go_at_call 59; refine K.mono ?_; rintro e w' ⟨rfl, rfl⟩)
        | (go_at_call 56; refine KB.mono ?_; rintro e w1 ⟨rfl, h1, ho1, hs1⟩; have HL1 := Lib.hid (HL.out.only ho1 (fun k hk => HH.out.not_lay HL.out hk)); have HH1 := Lib.hid h1; have HO1 := Lib.hid ho1; have HS1 := Lib.hid hs1; clear h1 ho1 hs1; have hF := HL1.out.file n f HG.out; have c0 := hF.c0; have c1 := hF.c1; have f1 := hF.fr 1; have f0 := hF.fr 0; have KC := Lib.hid (fcut_at hF f.text.size (Nat.le_refl _) (HL1.out.no_p HN.out HN.out)); clear hF; rw [hv] at c0)
        | (go_at_call 52; refine KC.out.mono ?_; rintro e w2 ⟨rfl, hF2, ho2, hs2⟩; have HF2 := Lib.hid hF2; have HO2 := Lib.hid ho2; clear hF2 ho2 hs2))
      go_ret
      have ee : f.text.extract 0 f.text.size = f.text := by rw [ByteArray.extract_zero_size]
      rw [ee] at HF2
      have ho : Only (fun k => k = g ∨ k = P n ∨ (V n).ownBlock = some k) w w2 := (HO1.out.wide (fun k hk => Or.inl hk)).trans HO2.out (fun k hk => Or.inl (Or.inr (Or.inl hk)))
      have hh2 : DHead w2 g σ.room b (burn σ) := (HO2.out.block g HH1.out.lt (fun e => HH1.out.not_lay HL1.out (Or.inr ⟨n, HN.out, Or.inl e⟩) rfl)).trans HH1.out
      exact did_turn hO HH.out HL.out HG.out HI.out (burn_le HZ.out) hh2 HF2.out (fun k hk => by rw [cutV_own] at hk; exact Or.inl hk) ho

set_option maxHeartbeats 1000000 in
theorem cut_any (n : ByteArray) (k : Int) (hn : n.size ≤ many) (hd : TheDisk O w g σ) : Calls Tryz.prog 26 #[ptr g, .string n, .int .i64 k] w (Did TheDisk O w g (cut σ n k)) := by
  have HI := Lib.hid (hd.1.cut n k)
  obtain ⟨hi, hz, b, P, V, h, hl, hO⟩ := hd
  have hn' : n.size ≤ maxLen := by unfold many at hn; unfold maxLen; omega
  unfold cut at HI ⊢
  by_cases hf : σ.fuse = some 0
  · rw [if_pos hf]
    have HR := Lib.hid (did_of (er := 70) hO hi hz h hl (Only.refl O w) (fun k hk => Or.inl hk))
    have K := open_down h n hf
    go_enter Tryz.func26, Tryz.ntmps26
    go_wp2_with (go_at_call 59; refine K.mono ?_; rintro e w' ⟨rfl, rfl⟩)
    go_ret
    exact HR.out
  · rw [if_neg hf] at HI ⊢
    have K := open_at h hl n hn' hf
    cases hg : get σ.fs n with
    | none =>
      rw [hg] at K
      have HR := Lib.hid (did_of (er := 5) hO hi hz h hl (Only.refl O w) (fun k hk => Or.inl hk))
      clear HI
      go_enter Tryz.func26, Tryz.ntmps26
      go_wp2_with (go_at_call 59; refine K.mono ?_; rintro e w' ⟨rfl, rfl⟩)
      go_ret
      exact HR.out
    | some f =>
      rw [hg] at K HI
      dsimp only at HI ⊢
      have HL := Lib.hid hl
      have HH := Lib.hid h
      have HZ := Lib.hid hz
      have HG := Lib.hid hg
      have HN := Lib.hid (names_of_get hg)
      have KB := burn_at h hf hz
      obtain ⟨A, c, hv, _, _⟩ := (hl.file n f hg).slice
      by_cases hb : k < 0 ∨ (f.text.size : Int) < k
      · rw [if_pos hb] at HI ⊢
        have HR := Lib.hid (did_of (er := 2) hO hi hz h hl (Only.refl O w) (fun k hk => Or.inl hk))
        have c0 := (hl.file n f hg).c0
        rw [hv] at c0
        clear hl h hz hi hg HI
        by_cases hk0 : k < 0
        · have d1 : decide (k < 0) = true := by simpa using hk0
          go_enter Tryz.func26, Tryz.ntmps26
          go_wp2_with (go_at_call 59; refine K.mono ?_; rintro e w' ⟨rfl, rfl⟩)
          go_ret
          exact HR.out
        · have d1 : decide (k < 0) = false := by simpa using hk0
          have d2 : decide ((f.text.size : Int) < k) = true := by simp; omega
          go_enter Tryz.func26, Tryz.ntmps26
          go_wp2_with (go_at_call 59; refine K.mono ?_; rintro e w' ⟨rfl, rfl⟩)
          go_ret
          exact HR.out
      · rw [if_neg hb] at HI ⊢
        have d1 : decide (k < 0) = false := by simp; omega
        have d2 : decide ((f.text.size : Int) < k) = false := by simp; omega
        obtain ⟨q, rfl⟩ : ∃ q : Nat, k = q := ⟨k.toNat, by omega⟩
        have hq : q ≤ f.text.size := by omega
        rw [Int.toNat_natCast] at HI ⊢
        have c00 := (hl.file n f hg).c0
        rw [hv] at c00
        clear hl h hz hi hg hb
        go_enter Tryz.func26, Tryz.ntmps26
        go_wp2_with (first
          | (go_at_call 59; refine K.mono ?_; rintro e w' ⟨rfl, rfl⟩)
          | (go_at_call 56; refine KB.mono ?_; rintro e w1 ⟨rfl, h1, ho1, hs1⟩; have HL1 := Lib.hid (HL.out.only ho1 (fun k hk => HH.out.not_lay HL.out hk)); have HH1 := Lib.hid h1; have HO1 := Lib.hid ho1; have HS1 := Lib.hid hs1; clear h1 ho1 hs1; have hF := HL1.out.file n f HG.out; have c0 := hF.c0; have c1 := hF.c1; have f1 := hF.fr 1; have f0 := hF.fr 0; have KC := Lib.hid (fcut_at hF q hq (HL1.out.no_p HN.out HN.out)); clear hF; rw [hv] at c0)
          | (go_at_call 52; refine KC.out.mono ?_; rintro e w2 ⟨rfl, hF2, ho2, hs2⟩; have HF2 := Lib.hid hF2; have HO2 := Lib.hid ho2; clear hF2 ho2 hs2))
        go_ret
        have ho : Only (fun k => k = g ∨ k = P n ∨ (V n).ownBlock = some k) w w2 := (HO1.out.wide (fun k hk => Or.inl hk)).trans HO2.out (fun k hk => Or.inl (Or.inr (Or.inl hk)))
        have hh2 : DHead w2 g σ.room b (burn σ) := (HO2.out.block g HH1.out.lt (fun e => HH1.out.not_lay HL1.out (Or.inr ⟨n, HN.out, Or.inl e⟩) rfl)).trans HH1.out
        exact did_turn hO HH.out HL.out HG.out HI.out (burn_le HZ.out) hh2 HF2.out (fun k hk => by rw [cutV_own] at hk; exact Or.inl hk) ho
end

theorem create_nil (n : ByteArray) (w : World) : Calls Tryz.prog 24 #[.pointer none, .string n] w fun e w' => e = .returned (.int .i64 1) ∧ w = w' := by
  go_enter Tryz.func24, Tryz.ntmps24
  go_wp2_with (go_at_call 51; refine (unmade_nil _).mono ?_; rintro e w' ⟨rfl, rfl⟩)
  go_ret
  exact ⟨rfl, rfl⟩
theorem append_nil (n t : ByteArray) (w : World) : Calls Tryz.prog 39 #[.pointer none, .string n, .string t] w fun e w' => e = .returned (.int .i64 1) ∧ w = w' := by
  go_enter Tryz.func39, Tryz.ntmps39
  go_wp2_with (go_at_call 59; refine (open_nil n _).mono ?_; rintro e w' ⟨rfl, rfl⟩)
  go_ret
  exact ⟨rfl, rfl⟩
theorem sync_nil (n : ByteArray) (w : World) : Calls Tryz.prog 28 #[.pointer none, .string n] w fun e w' => e = .returned (.int .i64 1) ∧ w = w' := by
  go_enter Tryz.func28, Tryz.ntmps28
  go_wp2_with (go_at_call 59; refine (open_nil n _).mono ?_; rintro e w' ⟨rfl, rfl⟩)
  go_ret
  exact ⟨rfl, rfl⟩
theorem cut_nil (n : ByteArray) (k : Int) (w : World) : Calls Tryz.prog 26 #[.pointer none, .string n, .int .i64 k] w fun e w' => e = .returned (.int .i64 1) ∧ w = w' := by
  go_enter Tryz.func26, Tryz.ntmps26
  go_wp2_with (go_at_call 59; refine (open_nil n _).mono ?_; rintro e w' ⟨rfl, rfl⟩)
  go_ret
  exact ⟨rfl, rfl⟩
theorem spoil_nil (n : ByteArray) (k b : Int) (w : World) : Calls Tryz.prog 44 #[.pointer none, .string n, .int .i64 k, .int .u8 b] w fun e w' => e = .returned (.int .i64 1) ∧ w = w' := by
  go_enter Tryz.func44, Tryz.ntmps44
  go_wp2_with (go_at_call 53; refine (find_nil n _).mono ?_; rintro e w' ⟨rfl, rfl⟩)
  go_ret
  exact ⟨rfl, rfl⟩

end Go.Proofs.YtikbokbmaihdbaaGreatDoor
