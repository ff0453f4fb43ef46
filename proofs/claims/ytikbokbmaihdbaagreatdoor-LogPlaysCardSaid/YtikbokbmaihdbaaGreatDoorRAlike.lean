/-
  Layer 8: Alike, over any disk with the one file. (For LogPlays.)
-/
import Derived.Test.YtikbokbmaihdbaaGreatDoorRBase
import Derived.BigQuiet
import Derived.Lib.QuietBelow
namespace Go.Proofs.YtikbokbmaihdbaaGreatDoor
open Go.RowKit Go.Maps Go.ChangeShapes Go.WideShapes

set_option maxRecDepth 100000 in
set_option maxHeartbeats 4000000 in
theorem alike_at {D : Disks} (hD : DoorB D) {O O' : Nat → Prop} {w : World} {g gr : Nat} {σ : Dsk} (hd : D O w g σ) (hr : TheRef O' w gr σ) : Calls Tryz.prog 17 #[ptr g, ptr gr] w fun e w' => e = .returned (.bool true) ∧ Below w.heap.size w w' := by
  have H0 := Lib.hid hd
  have R0 := Lib.hid hr
  have HN := hD.names hd
  obtain ⟨hi, hz, v, f, hfs, hfr, h, hrr, hne, hO⟩ := hr
  have hu : used σ.fs = f.text.size := by rw [hfs]; exact used_one f
  have hft : f.text.size ≤ σ.room := by have h1 := hi.room; omega
  have hrm := hi.most
  have KR := hD.room hd
  obtain ⟨Z, hZ⟩ : ∃ Z, σ.room - used σ.fs = Z := ⟨_, rfl⟩
  have hZ2 : (σ.room : Int) - (f.text.size : Int) = (Z : Nat) := by omega
  have KRR : Hid (∀ W, Below w.heap.size w W → Calls Tryz.prog 49 #[ptr gr] W fun e w' => e = .returned (.int .i64 (Z : Nat)) ∧ W = w') := fun W hW => by
    have k := rroom_one ((hW.block gr (lt_of_heap h)).trans h : RHead W gr σ.room v σ.fuse) (rrow_kept hrr (fun k hk => hW.block k (hrr.lt k hk).2)) (by omega) (by omega)
    rw [hZ2] at k
    exact k
  have KR : Hid (∀ W, Below w.heap.size w W → Calls Tryz.prog 48 #[ptr g] W fun e w' => e = .returned (.int .i64 (Z : Nat)) ∧ Below W.heap.size W w') := fun W hW => by
    have k := hD.room (hD.below H0.out hW)
    rw [hZ] at k
    exact k
  have hnm : names σ.fs = [rA] := by rw [hfs]; rfl
  have hg : get σ.fs rA = some f := by rw [hfs]; exact get_one f
  have e1 : textOf σ rA = f.text := by unfold textOf; rw [hg]
  have e2 : errOf σ rA = 0 := by unfold errOf; rw [hg]
  have e3 : looseOf σ rA = f.loose := by unfold looseOf; rw [hg]
  have KD : Hid (∀ W, Below w.heap.size w W → Calls Tryz.prog 23 #[ptr g, .string rA] W fun e w' => e = .returned (.tuple #[.string f.text, .int .i64 0]) ∧ Below W.heap.size W w') := fun W hW => by
    have k := hD.read rA (hD.below H0.out hW) (by decide)
    rw [e1, e2] at k
    exact k
  obtain ⟨fl, hfl⟩ : ∃ fl, f.loose = fl := ⟨_, rfl⟩
  have KL : Hid (∀ W, Below w.heap.size w W → Calls Tryz.prog 27 #[ptr g, .string rA] W fun e w' => e = .returned (.int .i64 (fl : Nat)) ∧ Below W.heap.size W w') := fun W hW => by
    have k := hD.loose rA (hD.below H0.out hW) (by decide)
    rw [e3, hfl] at k
    exact k
  rw [hnm] at HN
  obtain ⟨q, c, rfl, hc⟩ := RRow.cells1 h hrr
  have HC := Lib.hid hc
  have hgl := lt_of_heap h
  have HG : Hid (gr < w.heap.size) := hgl
  clear hnm hg e1 e2 e3 hfs hi hz hfr h hrr hne hO hu hZ hZ2 hc hgl
  go_enter Tryz.func17, Tryz.ntmps17
  go_wp2_with fail
  refine HN.mono ?_
  rintro e w1 ⟨A, cc, rfl, hst, hb1, hnew⟩
  have HB1 := Lib.hid hb1
  obtain ⟨b, off, rfl, hbl, hcl⟩ := hst.cell 0 (by decide)
  have HS1 := Lib.hid hst
  have HC1 := Lib.hid (HC.out.kept (hb1.block gr HG.out) (hb1.block q HC.out.lt) hb1.size)
  have c1 := HC1.out.c1
  have hc1 := HC1.out.one
  clear hb1 hst hnew HN hcl
  simp only [List.length_cons, List.length_nil, Nat.zero_add] at HS1
  go_wp2_with fail
  refine (KR.out _ HB1.out).mono ?_
  rintro e w2 ⟨rfl, hb2⟩
  have HB2 := Lib.hid (HB1.out.trans (hb2.mono HB1.out.size))
  have HS2 := Lib.hid (HS1.out.below hb2)
  clear c1
  have HC2 := Lib.hid (HC.out.kept (HB2.out.block gr HG.out) (HB2.out.block q HC.out.lt) HB2.out.size)
  have c1 := HC2.out.c1
  clear hb2 KR HS1 HC1 HB1
  go_wp2_with fail
  refine (KRR.out _ HB2.out).mono ?_
  rintro e w' ⟨rfl, rfl⟩
  go_wp2_with fail
  clear c1 hbl
  go_loopw [6, 7, 8] (fun iv _ _ wr => (iv = .int .i64 0 ∧ w2 = wr) ∨ (iv = .int .i64 1 ∧ Hid (Below w.heap.size w wr))) (fun iv _ _ _ => 1 - (intOf iv).toNat)
  case atStart => exact Or.inl ⟨rfl, rfl⟩
  case round =>
    rcases hrel with ⟨rfl, rfl⟩ | ⟨rfl, HBW⟩
    · obtain ⟨b', off', hbe, hbl, hcl⟩ := HS2.out.cell 0 (by decide)
      cases hbe
      have hcl' : w2.cell? ⟨b, off, none⟩ = some (.string rA) := hcl
      clear hcl
      go_wp2_with fail
      refine (KD.out _ HB2.out).mono ?_
      rintro e w3 ⟨rfl, hb3⟩
      have HB3 := Lib.hid (HB2.out.trans (hb3.mono HB2.out.size))
      have hc3 : w3.cell? ⟨b, off, none⟩ = some (.string rA) := (hb3.cell (p := ⟨b, off, none⟩) hbl).trans hcl'
      have hbl3 : b < w3.heap.size := Nat.lt_of_lt_of_le hbl hb3.size
      have HC3 := Lib.hid (HC.out.kept (HB3.out.block gr HG.out) (HB3.out.block q HC.out.lt) HB3.out.size)
      clear hb3 hcl' hbl HS2 HC2 KD KRR
      have hg1 : gr < w3.heap.size := Nat.lt_of_lt_of_le HG.out HB3.out.size
      have hq1 : q < w3.heap.size := HC3.out.lt
      have z0 : ∀ d os, (Sort.grow (redrawn w3 d) os).cell? ⟨b, off, none⟩ = some (.string rA) := fun d os => ((below_regrown w3 d os).cell (p := ⟨b, off, none⟩) hbl3).trans hc3
      have z1 : ∀ d os, (Sort.grow (redrawn w3 d) os).cell? ⟨gr, 1, none⟩ = some (.slice (some ⟨q, 0, none⟩) 1 c) := fun d os => ((below_regrown w3 d os).cell (p := ⟨gr, 1, none⟩) hg1).trans HC3.out.c1
      have z2 : ∀ d os, (Sort.grow (redrawn w3 d) os).cell? ⟨q, 0, none⟩ = some (.string rA) := fun d os => ((below_regrown w3 d os).cell (p := ⟨q, 0, none⟩) hq1).trans HC3.out.n0
      have z3 : ∀ d os, (Sort.grow (redrawn w3 d) os).cell? ⟨q, 1, none⟩ = some (.string f.text) := fun d os => ((below_regrown w3 d os).cell (p := ⟨q, 1, none⟩) hq1).trans HC3.out.n1
      have z4 : ∀ d os, (Sort.grow (redrawn w3 d) os).cell? ⟨q, 2, none⟩ = some (.int .i64 (fl : Nat)) := fun d os => by rw [← hfl]; exact ((below_regrown w3 d os).cell (p := ⟨q, 2, none⟩) hq1).trans HC3.out.n2
      go_wp2_with fail
      refine wp_region_quiet_below (by kernel_rfl) (by kernel_rfl) ?_
      repeat (go_big_quiet_step ((go_at_call 27; exact Calls.regrown_of (KL.out _ (HB3.out.trans ((below_regrown w3 _ _).mono HB3.out.size))))))
      refine wpQuiet_nil ?_
      intro w4 hw'
      obtain ⟨⟨dq, osq⟩, hw''⟩ := hw'
      have HB4 : Hid (Below w.heap.size w w4) := by rw [hw'']; exact HB3.out.trans ((below_regrown w3 dq osq).mono HB3.out.size)
      clear hw'' z0 z1 z2 z3 z4 HB3 HB2
      go_wp2_with fail
      go_roundw
      case rel => exact Or.inr ⟨by go_num, HB4⟩
      case measure => simp [intOf]
    · go_wp2_with fail
      go_ret
      exact ⟨rfl, HBW.out⟩

end Go.Proofs.YtikbokbmaihdbaaGreatDoor
