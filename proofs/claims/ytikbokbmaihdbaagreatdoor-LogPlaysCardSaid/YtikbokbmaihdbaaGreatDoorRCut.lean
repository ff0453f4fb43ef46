/-
  Layer 8: the document's disk: Sync, Cut. (For LogPlays.)
  Layer 8: the document's disk: Append. (For LogPlays.)
-/
import Derived.Test.YtikbokbmaihdbaaGreatDoorRBase
namespace Go.Proofs.YtikbokbmaihdbaaGreatDoor
open Go.RowKit Go.Maps Go.ChangeShapes Go.WideShapes

set_option maxRecDepth 100000 in
set_option maxHeartbeats 2000000 in
theorem ref_sync {O : Nat → Prop} {w : World} {gr : Nat} {σ : Dsk} (hd : TheRef O w gr σ) : Calls Tryz.prog 34 #[ptr gr, .string rA] w (Did TheRef O w gr (sync σ rA)) := by
  have HS := Lib.hid (fun er w' hb => TheRef.same (w' := w') (er := er) hd hb)
  have HIA := Lib.hid (hd.1.sync rA)
  obtain ⟨hi, hz, v, f, hfs, hfr, h, hr, hne, hO⟩ := hd
  unfold sync at HIA ⊢
  rw [hfs, get_one] at HIA ⊢
  dsimp only at HIA ⊢
  rw [upd_one] at HIA ⊢
  by_cases hz0 : σ.fuse = some 0
  · have KA := rat_one h hr
    have KD := rdown_at h
    rw [if_pos hz0]
    rw [decide_eq_true hz0] at KD
    clear HIA hfs hfr hi hz hr h hne hO
    go_enter Tryz.func34, Tryz.ntmps34
    go_wp2_with (first | (go_at_call 30; refine KA.mono ?_; rintro e w' ⟨rfl, rfl⟩) | (go_at_call 62; refine KD.mono ?_; rintro e w' ⟨rfl, rfl⟩))
    go_ret
    exact HS.out 70 _ (Below.refl _ _)
  rw [if_neg hz0] at HIA ⊢
  refine (rsync_at h hr hz0 hz hne).mono ?_
  rintro e w' ⟨rfl, h1, hr1, ho⟩
  exact TheRef.did (f' := ⟨f.text, 0, false⟩) hO HIA.out (burn_fine hz) rfl rfl h1 hr1 hne (ho.wide (fun k hk => (hO k).2 hk)) (fun k hk => Or.inl hk)

set_option maxRecDepth 100000 in
set_option maxHeartbeats 2000000 in
theorem ref_cut {O : Nat → Prop} {w : World} {gr : Nat} {σ : Dsk} (k : Int) (hd : TheRef O w gr σ) : Calls Tryz.prog 33 #[ptr gr, .string rA, .int .i64 k] w (Did TheRef O w gr (cut σ rA k)) := by
  have HS := Lib.hid (fun er w' hb => TheRef.same (w' := w') (er := er) hd hb)
  have HIA := Lib.hid (hd.1.cut rA k)
  obtain ⟨hi, hz, v, f, hfs, hfr, h, hr, hne, hO⟩ := hd
  have hu : used σ.fs = f.text.size := by rw [hfs]; exact used_one f
  have hft : f.text.size ≤ 4194304 := by have h1 := hi.room; have h2 := hi.most; omega
  have KA := rat_one h hr
  have KD := rdown_at h
  unfold cut at HIA ⊢
  rw [hfs, get_one] at HIA ⊢
  dsimp only at HIA ⊢
  rw [upd_one] at HIA ⊢
  by_cases hz0 : σ.fuse = some 0
  · rw [if_pos hz0]
    rw [decide_eq_true hz0] at KD
    clear HIA hfs hfr hi hz hr h hne hO hu
    go_enter Tryz.func33, Tryz.ntmps33
    go_wp2_with (first | (go_at_call 30; refine KA.mono ?_; rintro e w' ⟨rfl, rfl⟩) | (go_at_call 62; refine KD.mono ?_; rintro e w' ⟨rfl, rfl⟩))
    go_ret
    exact HS.out 70 _ (Below.refl _ _)
  rw [if_neg hz0] at HIA ⊢
  rw [decide_eq_false hz0] at KD
  by_cases hk : k < 0
  · rw [if_pos (Or.inl hk)]
    have d1 : decide (k < 0) = true := decide_eq_true hk
    clear HIA hfs hfr hi hz hr h hne hO hu
    go_enter Tryz.func33, Tryz.ntmps33
    go_wp2_with (first | (go_at_call 30; refine KA.mono ?_; rintro e w' ⟨rfl, rfl⟩) | (go_at_call 62; refine KD.mono ?_; rintro e w' ⟨rfl, rfl⟩))
    go_ret
    exact HS.out 2 _ (Below.refl _ _)
  obtain ⟨j, rfl⟩ : ∃ j : Nat, k = (j : Int) := ⟨k.toNat, by omega⟩
  obtain ⟨q, c, rfl, hc⟩ := RRow.cells1 h hr
  have c1 := hc.c1
  have n1 := hc.n1
  have hc1 := hc.one
  by_cases hj : f.text.size < j
  · rw [if_pos (Or.inr (by omega))]
    have d2 : decide ((f.text.size : Int) < (j : Int)) = true := decide_eq_true (by omega)
    clear HIA hfs hfr hi hz hr h hne hO hu hc
    go_enter Tryz.func33, Tryz.ntmps33
    go_wp2_with (first | (go_at_call 30; refine KA.mono ?_; rintro e w' ⟨rfl, rfl⟩) | (go_at_call 62; refine KD.mono ?_; rintro e w' ⟨rfl, rfl⟩))
    go_ret
    exact HS.out 2 _ (Below.refl _ _)
  rw [if_neg (by omega), Int.toNat_natCast] at HIA ⊢
  have d2 : decide ((f.text.size : Int) < (j : Int)) = false := decide_eq_false (by omega)
  have hjs : j ≤ f.text.size := by omega
  have KN := rdone_at h hz0 hz
  have HR := Lib.hid hr
  have HO := Lib.hid hO
  have HZ := Lib.hid (burn_fine hz)
  have hqg : q ≠ gr := hne q rfl
  have HNE := Lib.hid hne
  clear hfs hfr hi hz hr h hne hO hu hc hj hk
  go_enter Tryz.func33, Tryz.ntmps33
  go_wp2_with (first | (go_at_call 30; refine KA.mono ?_; rintro e w' ⟨rfl, rfl⟩) | (go_at_call 62; refine KD.mono ?_; rintro e w' ⟨rfl, rfl⟩))
  refine KN.mono ?_
  rintro e w1 ⟨rfl, h1, ho, hs⟩
  have hr1 : RRow w1 (.slice (some ⟨q, 0, none⟩) 1 c) [(rA, f)] := rrow_kept HR.out (fun k hk => ho.block k (HR.out.lt k hk).2 (HNE.out k hk))
  obtain ⟨q2, c2, hqe, hc⟩ := RRow.cells1 h1 hr1
  obtain ⟨rfl, rfl⟩ : q2 = q ∧ c2 = c := by injection hqe with e1 e2 e3; injection e1 with e1; injection e1 with e1 _ _; exact ⟨e1.symm, e3.symm⟩
  have m1 := hc.c1
  have k0 := hc.n0
  have k1 := hc.n1
  have k2 := hc.n2
  have k3 := hc.n3
  have f0 := hc.fz 0
  have f1 := hc.fz 1
  have f2 := hc.fz 2
  have f3 := hc.fz 3
  have H1 := Lib.hid h1
  have HR1 := Lib.hid hr1
  have HO1 := Lib.hid ho
  clear hc h1 hr1 ho hs KN KA KD c1 n1 hqe
  go_wp2_with fail
  go_region
  go_wp2_with fail
  go_ret
  exact ref_put (τ := ⟨σ.room, burn σ, [(rA, ⟨f.text.extract 0 j, 0, false⟩)]⟩) (w2 := w1) (t := f.text.extract 0 j) (lo := 0) HO.out H1.out HR1.out HO1.out (Below.refl _ _) hqg HIA.out HZ.out rfl ⟨rfl, rfl, rfl, Nat.le_refl _, fun _ _ _ => rfl⟩

end Go.Proofs.YtikbokbmaihdbaaGreatDoor

namespace Go.Proofs.YtikbokbmaihdbaaGreatDoor
open Go.RowKit Go.Maps Go.ChangeShapes Go.WideShapes

set_option maxRecDepth 100000 in
set_option maxHeartbeats 2000000 in
theorem ref_append {O : Nat → Prop} {w : World} {gr : Nat} {σ : Dsk} (t : ByteArray) (hd : TheRef O w gr σ) : Calls Tryz.prog 43 #[ptr gr, .string rA, .string t] w (Did TheRef O w gr (append σ rA t)) := by
  have HS := Lib.hid (fun er w' hb => TheRef.same (w' := w') (er := er) hd hb)
  have HIA := Lib.hid (hd.1.append rA t)
  obtain ⟨hi, hz, v, f, hfs, hfr, h, hr, hne, hO⟩ := hd
  have hfs0 := hfs
  have hu : used σ.fs = f.text.size := by rw [hfs]; exact used_one f
  have hft : f.text.size ≤ 4194304 := by have h1 := hi.room; have h2 := hi.most; omega
  have hlo : f.loose ≤ 4194304 := by have h1 := (hi.get (by rw [hfs]; exact get_one f)).1; omega
  have hrm := hi.most
  have KA := rat_one h hr
  have KD := rdown_at h
  have KR := rroom_one h hr (by omega) (by omega)
  unfold append at HIA ⊢
  rw [hfs, get_one] at HIA ⊢
  dsimp only at HIA ⊢
  rw [used_one, upd_one] at HIA ⊢
  by_cases hz0 : σ.fuse = some 0
  · rw [if_pos hz0]
    rw [decide_eq_true hz0] at KD
    clear HIA hfs hfs0 hi hz hr h hne hO hu
    go_enter Tryz.func43, Tryz.ntmps43
    go_wp2_with (first | (go_at_call 30; refine KA.mono ?_; rintro e w' ⟨rfl, rfl⟩) | (go_at_call 62; refine KD.mono ?_; rintro e w' ⟨rfl, rfl⟩))
    go_ret
    exact HS.out 70 _ (Below.refl _ _)
  rw [if_neg hz0] at HIA ⊢
  rw [decide_eq_false hz0] at KD
  by_cases hf : σ.room < f.text.size + t.size
  · rw [if_pos hf]
    have d1 : decide ((σ.room : Int) - (f.text.size : Int) < (t.size : Int)) = true := decide_eq_true (by omega)
    clear HIA hfs hfs0 hi hz hr h hne hO hu
    go_enter Tryz.func43, Tryz.ntmps43
    go_wp2_with (first | (go_at_call 30; refine KA.mono ?_; rintro e w' ⟨rfl, rfl⟩) | (go_at_call 62; refine KD.mono ?_; rintro e w' ⟨rfl, rfl⟩) | (go_at_call 49; refine KR.mono ?_; rintro e w' ⟨rfl, rfl⟩))
    go_ret
    exact HS.out 6 _ (Below.refl _ _)
  rw [if_neg hf] at HIA ⊢
  have d1 : decide ((σ.room : Int) - (f.text.size : Int) < (t.size : Int)) = false := decide_eq_false (by omega)
  have KN := rdone_at h hz0 hz
  have HR := Lib.hid hr
  have HO := Lib.hid hO
  have HNE := Lib.hid hne
  have HFR := Lib.hid hfr
  have HZ := Lib.hid (burn_fine hz)
  clear hfs hfs0 hi hz hr h hne hO hu
  go_enter Tryz.func43, Tryz.ntmps43
  go_wp2_with (first | (go_at_call 30; refine KA.mono ?_; rintro e w' ⟨rfl, rfl⟩) | (go_at_call 62; refine KD.mono ?_; rintro e w' ⟨rfl, rfl⟩) | (go_at_call 49; refine KR.mono ?_; rintro e w' ⟨rfl, rfl⟩))
  refine KN.mono ?_
  rintro e w1 ⟨rfl, h1, ho, hs⟩
  have hr1 : RRow w1 v [(rA, f)] := rrow_kept HR.out (fun k hk => ho.block k (HR.out.lt k hk).2 (HNE.out k hk))
  obtain ⟨q, c, rfl, hc⟩ := RRow.cells1 h1 hr1
  have c1 := hc.c1
  have n0 := hc.n0
  have n1 := hc.n1
  have n2 := hc.n2
  have n3 := hc.n3
  have hc1 := hc.one
  have HC := Lib.hid hc
  have H1 := Lib.hid h1
  have HR1 := Lib.hid hr1
  have HO1 := Lib.hid ho
  have hqg : q ≠ gr := HNE.out q rfl
  clear hc h1 hr1 ho hs KN KA KD KR
  go_wp2_with fail
  have hnb := heap_alloc_new w1 (Obj.cells #[Value.string rA, Value.string (f.text ++ t), Value.int IntKind.i64 ((f.loose : Int) + (t.size : Int)), Value.bool false] 73)
  have HB2 := Lib.hid ((Below.refl _ w1).alloc (Nat.le_refl _) (Obj.cells #[Value.string rA, Value.string (f.text ++ t), Value.int IntKind.i64 ((f.loose : Int) + (t.size : Int)), Value.bool false] 73))
  obtain ⟨nb, hnbe⟩ : ∃ nb, w1.heap.size = nb := ⟨_, rfl⟩
  have hqn : q < nb := by rw [← hnbe]; exact HC.out.lt
  have HC2 := Lib.hid (HC.out.kept (HB2.out.block gr (lt_of_heap H1.out)) (HB2.out.block q HC.out.lt) HB2.out.size)
  generalize w1.alloc (Obj.cells #[Value.string rA, Value.string (f.text ++ t), Value.int IntKind.i64 ((f.loose : Int) + (t.size : Int)), Value.bool false] 73) = w2 at *
  rw [hnbe] at hnb ⊢
  have m0 : w2.cell? ⟨nb, 0, none⟩ = some (.string rA) := by rw [cell_hp hnb]; rfl
  have m1 : w2.cell? ⟨nb, 1, none⟩ = some (.string (f.text ++ t)) := by rw [cell_hp hnb]; rfl
  have m2 : w2.cell? ⟨nb, 2, none⟩ = some (.int .i64 ((f.loose : Int) + (t.size : Int))) := by rw [cell_hp hnb]; rfl
  have m3 : w2.cell? ⟨nb, 3, none⟩ = some (.bool false) := by rw [cell_hp hnb]; rfl
  have k1 := HC2.out.c1
  have k0 := HC2.out.n0
  have k2 := HC2.out.n1
  have k3 := HC2.out.n2
  have k4 := HC2.out.n3
  have f0 := HC2.out.fz 0
  have f1 := HC2.out.fz 1
  have f2 := HC2.out.fz 2
  have f3 := HC2.out.fz 3
  clear hnb c1 n0 n1 n2 n3
  go_region
  go_wp2_with fail
  go_ret
  exact ref_put (τ := ⟨σ.room, burn σ, [(rA, ⟨f.text ++ t, f.loose + t.size, f.fresh⟩)]⟩) (w2 := w2) (t := f.text ++ t) (lo := f.loose + t.size) HO.out H1.out HR1.out HO1.out HB2.out hqg HIA.out HZ.out (by rw [HFR.out]) ⟨rfl, rfl, rfl, Nat.le_refl _, fun _ _ _ => rfl⟩

end Go.Proofs.YtikbokbmaihdbaaGreatDoor
