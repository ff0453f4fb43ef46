/-
  Layer 8: disked (a step of the disk's, on the log's file), over any disk ('DoorB').
-/
import Derived.Test.YtikbokbmaihdbaaGreatDoorLWorks
import Derived.Test.YtikbokbmaihdbaaGreatDoorLFacts
import Derived.Test.YtikbokbmaihdbaaGreatDoorSteps8
namespace Go.Proofs.YtikbokbmaihdbaaGreatDoor
open Go.RowKit Go.ChangeShapes Go.WideShapes

def SV8.val (v : SV8) : Value := .agg #[.int .i64 v.s.what, .string v.s.name, .string v.s.text, .int .i64 v.s.n, .int .u8 v.s.by_, .slice v.s.K v.s.kl v.s.kc, .slice v.L v.ll v.lc]
/-- What a step of the disk's makes of it. -/
def onA (σ : Dsk) (s : SV) : Dsk :=
  if s.what = 1 then (append σ rA s.text).1 else if s.what = 3 then (cut σ rA s.n).1 else if s.what = 5 then (spoil σ rA s.n (UInt8.ofNat s.by_.toNat)).1 else if s.what = 6 then (fuse σ s.n).1 else if s.what = 7 then (crash σ s.ks).1 else σ
def Quietly (D : Disks) (O : Nat → Prop) (w : World) (g : Nat) (σ : Dsk) (e : Ending) (w' : World) : Prop :=
  e = .returned (.tuple #[]) ∧ ∃ O', D O' w' g σ ∧ Only O w w' ∧ ∀ k, O' k → O k ∨ w.heap.size ≤ k

set_option maxRecDepth 100000 in
set_option maxHeartbeats 2000000 in
theorem disked_did {D : Disks} (hD : DoorB D) {w : World} {g : Nat} {σ : Dsk} {O : Nat → Prop} (v : SV8) (h : Hid (D O w g σ)) (hs : Hid (SV8ok w v)) : Calls Tryz.prog 15 #[ptr g, v.val] w (Quietly D O w g (onA σ v.s)) := by
  obtain ⟨⟨what, name, text, n, by_, K, kl, kc, ks⟩, L, ll, lc, ts⟩ := v
  unfold SV8.val
  have hs := Lib.hid hs.out.s
  have HB : Hid (∀ o, Below w.heap.size w (w.alloc o)) := fun o => (Below.refl _ w).alloc (Nat.le_refl _) o
  have hM : Hid (∀ o, D O (w.alloc o) g σ) := fun o => hD.below h.out (HB.out o)
  dsimp only at hs
  by_cases e1 : what = 1
  · subst e1
    have hst : onA σ ⟨1, name, text, n, by_, K, kl, kc, ks⟩ = (append σ rA text).1 := rfl
    dsimp only
    rw [hst]
    clear hst
    have K1 := Lib.hid (fun o => hD.append rA text (hM.out o) (by decide) hs.out.text)
    go_enter Tryz.func15, Tryz.ntmps15
    go_wp2_with fail
    refine (K1.out _).mono ?_
    intro e w' hm
    have hm2 := hm.before (HB.out _)
    obtain ⟨rfl, hm3⟩ := hm2
    have HR := Lib.hid hm3
    clear hm hm3
    go_wp2_with fail
    go_end0
    exact ⟨rfl, HR.out⟩
  by_cases e3 : what = 3
  · subst e3
    have hst : onA σ ⟨3, name, text, n, by_, K, kl, kc, ks⟩ = (cut σ rA n).1 := rfl
    dsimp only
    rw [hst]
    clear hst e1
    have K1 := Lib.hid (fun o => hD.cut rA n (hM.out o) (by decide) hs.out.n)
    go_enter Tryz.func15, Tryz.ntmps15
    go_wp2_with fail
    refine (K1.out _).mono ?_
    intro e w' hm
    have hm2 := hm.before (HB.out _)
    obtain ⟨rfl, hm3⟩ := hm2
    have HR := Lib.hid hm3
    clear hm hm3
    go_wp2_with fail
    go_end0
    exact ⟨rfl, HR.out⟩
  by_cases e5 : what = 5
  · subst e5
    have hst : onA σ ⟨5, name, text, n, by_, K, kl, kc, ks⟩ = (spoil σ rA n (UInt8.ofNat by_.toNat)).1 := rfl
    dsimp only
    rw [hst]
    clear hst e1 e3
    have K1 := Lib.hid (fun o => hD.spoil rA n by_ (hM.out o) (by decide) hs.out.n hs.out.by_)
    go_enter Tryz.func15, Tryz.ntmps15
    go_wp2_with fail
    refine (K1.out _).mono ?_
    intro e w' hm
    have hm2 := hm.before (HB.out _)
    obtain ⟨rfl, hm3⟩ := hm2
    have HR := Lib.hid hm3
    clear hm hm3
    go_wp2_with fail
    go_end0
    exact ⟨rfl, HR.out⟩
  by_cases e6 : what = 6
  · subst e6
    have hst : onA σ ⟨6, name, text, n, by_, K, kl, kc, ks⟩ = (fuse σ n).1 := rfl
    dsimp only
    rw [hst]
    clear hst e1 e3 e5
    have K1 := Lib.hid (fun o => hD.fuse n (hM.out o) hs.out.n)
    go_enter Tryz.func15, Tryz.ntmps15
    go_wp2_with fail
    refine (K1.out _).mono ?_
    intro e w' hm
    have hm2 := hm.before (HB.out _)
    obtain ⟨rfl, hm3⟩ := hm2
    have HR := Lib.hid hm3
    clear hm hm3
    go_wp2_with fail
    go_end0
    exact ⟨rfl, HR.out⟩
  by_cases e7 : what = 7
  · subst e7
    have hst : onA σ ⟨7, name, text, n, by_, K, kl, kc, ks⟩ = (crash σ ks).1 := rfl
    dsimp only
    rw [hst]
    clear hst e1 e3 e5 e6
    have HV : Hid (∀ o, SliceView (w.alloc o) .i64 K kl kc ks) := fun o => hs.out.keep.below (HB.out o)
    have hf := hs.out.few
    dsimp only at hf
    go_enter Tryz.func15, Tryz.ntmps15
    go_wp2_with (at_builtin; refine wpList_copy_ints (by rfl) (.const (.slice none 0 0)) (.tmp 43) (by rfl) (by rfl) K kl kc ks (by rfl) (HV.out _) hf ?_; intro A' cap' w1 HS1 HB1 HN1)
    refine (hD.crash A' kl cap' ks (hD.below (hM.out _) HB1.out) HS1.out (fun a ha ho => by have h1 := hD.own h.out _ ho; have h2 := HN1.out a ha; simp at h2; omega) hf).mono ?_
    intro e w' hm
    have hm2 := (hm.before HB1.out).before (HB.out _)
    obtain ⟨rfl, hm3⟩ := hm2
    have HR := Lib.hid hm3
    clear hm hm3
    go_wp2_with fail
    go_end0
    exact ⟨rfl, HR.out⟩
  have hst : onA σ ⟨what, name, text, n, by_, K, kl, kc, ks⟩ = σ := by
    simp only [onA, e1, e3, e5, e6, e7, if_false]
  dsimp only
  rw [hst]
  have q1 : (what == 1) = false := by rw [beq_eq_false_iff_ne]; exact e1
  have q3 : (what == 3) = false := by rw [beq_eq_false_iff_ne]; exact e3
  have q5 : (what == 5) = false := by rw [beq_eq_false_iff_ne]; exact e5
  have q6 : (what == 6) = false := by rw [beq_eq_false_iff_ne]; exact e6
  have q7 : (what == 7) = false := by rw [beq_eq_false_iff_ne]; exact e7
  clear hst e1 e3 e5 e6 e7
  go_enter Tryz.func15, Tryz.ntmps15
  go_wp2_with fail
  go_end0
  exact ⟨rfl, O, hM.out _, (HB.out _).only O, fun k hk => Or.inl hk⟩

end Go.Proofs.YtikbokbmaihdbaaGreatDoor
