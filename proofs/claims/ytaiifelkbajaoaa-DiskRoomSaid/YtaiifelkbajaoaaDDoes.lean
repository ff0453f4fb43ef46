/-
  Layer 7: does (a step of a script, done by the program), over any disk ('Door').
-/
import Derived.Test.YtaiifelkbajaoaaDDoor
import Derived.Test.YtaiifelkbajaoaaDHeavy
import Derived.OwnWalk
import Derived.Laws.AppendOwnNone
namespace Go.Proofs.Ytaiifelkbajaoaa
open Go.RowKit Go.ChangeShapes Go.WideShapes

theorem info3 : (Try.prog.info? 3).map (fun i => (i.zero, i.size, i.bytes)) = some (some (.int .i64 0), 1, 8) := by kernel_rfl

theorem SliceView.below {w w' : World} {k : IntKind} {A : Option Addr} {len cap : Nat} {Z : List Int} (h : SliceView w k A len cap Z) (hb : Below w.heap.size w w') : SliceView w' k A len cap Z := by
  obtain ⟨h1, h2, h3, h4, h5, h6⟩ := h
  refine ⟨h1, h2, h3, h4, fun t ht => ?_, h6⟩
  obtain ⟨b, off, e, hl, hc⟩ := h5 t ht
  exact ⟨b, off, e, Nat.lt_of_lt_of_le hl hb.size, (hb.cell (p := ⟨b, off + t, none⟩) hl).trans hc⟩
theorem SVok.below {w w' : World} {s : SV} (h : SVok w s) (hb : Below w.heap.size w w') : SVok w' s := ⟨h.what, h.n, h.by_, h.name, h.text, h.keep.below hb, h.few⟩

/-- 'append([]int(nil), l...)'. -/
theorem wpList_copy_ints {ops : Array Oper} {rest : List Oper} {o : Oper} {a : Act} {w : World} {Q : Exit → Act → World → Prop} (hgd : o.guard = none) (s x : Operand)
    (ho : o.op = .call { callee := .builtin .append, args := #[s, x], argTypes := #[23, 23] }) (hs : a.eval s = .slice none 0 0) (A : Option Addr) (len cap : Nat) (zs : List Int) (hx : a.eval x = .slice A len cap) (hv : SliceView w .i64 A len cap zs) (hfew : len * 8 ≤ many)
    (h : ∀ A' cap' w', Hid (SliceView w' .i64 A' len cap' zs) → Hid (Below w.heap.size w w') → Hid (∀ a, A' = some a → w.heap.size ≤ a.block) → wpList Try.prog ops Q rest (a.put o.dst (.slice A' len cap')) w') : wpList Try.prog ops Q (o :: rest) a w := by
  obtain ⟨i, hi, hz, hs1, hb⟩ : ∃ i, Try.prog.info? 3 = some i ∧ i.zero = some (.int .i64 0) ∧ i.size = 1 ∧ i.bytes = 8 := by
    have h := info3
    cases hq : Try.prog.info? 3 with
    | none => rw [hq] at h; cases h
    | some i => rw [hq] at h; simp at h; exact ⟨i, rfl, h.1, h.2.1, h.2.2⟩
  have hv' := hv
  obtain ⟨h1, h2, h3, h4, h5, h6⟩ := hv
  unfold many at hfew
  cases A with
  | none =>
    obtain ⟨rfl, rfl⟩ := h4 rfl
    exact wpList_append_own_none hgd s x 23 ho 0 3 i 1 Try.underlying23 hi (.slice none 0 0) 0 [] hs ⟨rfl, .inl ⟨rfl, rfl⟩⟩ hx (h none 0 w hv' (Below.refl _ _) (fun a ha => by cases ha))
  | some ad =>
    refine wpList_append_own w hgd s x 23 ho w.heap.size 3 i (.int .i64 0) 1 8 Try.underlying23 hi hz hs1 hb rfl (by decide) (.slice none 0 0) 0 [] hs ⟨rfl, .inl ⟨rfl, rfl⟩⟩ ad len cap (zs.map (Value.int .i64)) hx (by simp [h1]) ?_ ?_ (by unfold maxLen; omega) (by omega) (Nat.le_refl _) ?_
    · intro j u hj
      have hjl : j < zs.length := by have := (List.getElem?_eq_some_iff.1 hj).1; simpa using this
      obtain ⟨b, off, e, _, hc⟩ := h5 j (by omega)
      injection e with e
      subst e
      rw [add_plain, hc]
      simp [List.getElem?_eq_getElem hjl] at hj
      rw [← hj]
      simp [List.getD, hjl]
    · intro u hu
      obtain ⟨y, _, rfl⟩ := List.mem_map.1 hu
      rfl
    · intro v' w' hown hg _
      rw [Nat.zero_add] at hown
      have hown' := hown
      rcases hown.2 with ⟨rfl, h0⟩ | ⟨g, c2, cur, rfl, hnew, hgd2, hl2, hm2, _⟩
      · subst h0
        exact h none 0 w' ⟨h1, Nat.le_refl _, Nat.zero_le _, fun _ => ⟨rfl, rfl⟩, fun t ht => by omega, h6⟩ ((Below.refl _ w).grown hg (Nat.le_refl _) (fun k hk => by cases hk)) (fun a ha => by cases ha)
      · refine h _ c2 w' ⟨h1, hl2, hm2, (fun h => by cases h), fun t ht => ⟨g, 0, rfl, (Array.getElem?_eq_some_iff.1 hgd2).1, ?_⟩, h6⟩ ((Below.refl _ w).grown hg (Nat.le_refl _) (fun k hk => by cases hk)) (fun a ha => by cases ha; exact hnew)
        have := hown'.cells (g := g) rfl t (.int .i64 (zs.getD t 0)) (by simp [List.getD, h1, ht])
        rw [add_plain] at this
        exact this

def SV.val (s : SV) : Value := .agg #[.int .i64 s.what, .string s.name, .string s.text, .int .i64 s.n, .int .u8 s.by_, .slice s.K s.kl s.kc]

theorem Did.before {D : Disks} {O : Nat → Prop} {w w1 w' : World} {g : Nat} {r : Dsk × Nat} {e : Ending} (hb : Below w.heap.size w w1) (h : Did D O w1 g r e w') : Did D O w g r e w' := by
  obtain ⟨he, O', hd, ho, hO⟩ := h
  refine ⟨he, O', hd, (hb.only O).trans ho (fun i hi => Or.inl hi), fun k hk => ?_⟩
  rcases hO k hk with h | h
  · exact Or.inl h
  · exact Or.inr (Nat.le_trans hb.size h)

section
variable {D : Disks} (hD : Door D) {w : World} {g : Nat} {σ : Dsk} {O : Nat → Prop}
include hD
set_option maxRecDepth 100000 in
set_option maxHeartbeats 1000000 in
theorem does_did (s : SV) (h : Hid (D O w g σ)) (hs : Hid (SVok w s)) : Calls Try.prog 11 #[ptr g, s.val] w (Did D O w g (stp σ s.stp)) := by
  obtain ⟨what, name, text, n, by_, K, kl, kc, ks⟩ := s
  unfold SV.val
  have HB : Hid (∀ o, Below w.heap.size w (w.alloc o)) := fun o => (Below.refl _ w).alloc (Nat.le_refl _) o
  have hM : Hid (∀ o, D O (w.alloc o) g σ) := fun o => hD.below h.out (HB.out o)
  by_cases e0 : what = 0
  · subst e0
    have K1 := Lib.hid (fun o => hD.create name (hM.out o) hs.out.name)
    have hst : stp σ (SV.stp ⟨0, name, text, n, by_, K, kl, kc, ks⟩) = create σ name := rfl
    rw [hst]
    clear hst
    go_enter Try.func11, Try.ntmps11
    go_wp2_with fail
    refine (K1.out _).mono ?_
    intro e w' hm
    have hm2 := hm.before (HB.out _)
    obtain ⟨rfl, hm3⟩ := hm2
    have HR := Lib.hid hm3
    clear hm hm3
    go_wp2_with fail
    go_ret
    exact ⟨rfl, HR.out⟩
  by_cases e1 : what = 1
  · subst e1
    have K1 := Lib.hid (fun o => hD.append name text (hM.out o) hs.out.name hs.out.text)
    have hst : stp σ (SV.stp ⟨1, name, text, n, by_, K, kl, kc, ks⟩) = append σ name text := rfl
    rw [hst]
    clear hst e0
    go_enter Try.func11, Try.ntmps11
    go_wp2_with fail
    refine (K1.out _).mono ?_
    intro e w' hm
    have hm2 := hm.before (HB.out _)
    obtain ⟨rfl, hm3⟩ := hm2
    have HR := Lib.hid hm3
    clear hm hm3
    go_wp2_with fail
    go_ret
    exact ⟨rfl, HR.out⟩
  by_cases e2 : what = 2
  · subst e2
    have K1 := Lib.hid (fun o => hD.sync name (hM.out o) hs.out.name)
    have hst : stp σ (SV.stp ⟨2, name, text, n, by_, K, kl, kc, ks⟩) = sync σ name := rfl
    rw [hst]
    clear hst e0 e1
    go_enter Try.func11, Try.ntmps11
    go_wp2_with fail
    refine (K1.out _).mono ?_
    intro e w' hm
    have hm2 := hm.before (HB.out _)
    obtain ⟨rfl, hm3⟩ := hm2
    have HR := Lib.hid hm3
    clear hm hm3
    go_wp2_with fail
    go_ret
    exact ⟨rfl, HR.out⟩
  by_cases e3 : what = 3
  · subst e3
    have K1 := Lib.hid (fun o => hD.cut name n (hM.out o) hs.out.name hs.out.n)
    have hst : stp σ (SV.stp ⟨3, name, text, n, by_, K, kl, kc, ks⟩) = cut σ name n := rfl
    rw [hst]
    clear hst e0 e1 e2
    go_enter Try.func11, Try.ntmps11
    go_wp2_with fail
    refine (K1.out _).mono ?_
    intro e w' hm
    have hm2 := hm.before (HB.out _)
    obtain ⟨rfl, hm3⟩ := hm2
    have HR := Lib.hid hm3
    clear hm hm3
    go_wp2_with fail
    go_ret
    exact ⟨rfl, HR.out⟩
  by_cases e4 : what = 4
  · subst e4
    have K1 := Lib.hid (fun o => hD.remove name (hM.out o) hs.out.name)
    have hst : stp σ (SV.stp ⟨4, name, text, n, by_, K, kl, kc, ks⟩) = remove σ name := rfl
    rw [hst]
    clear hst e0 e1 e2 e3
    go_enter Try.func11, Try.ntmps11
    go_wp2_with fail
    refine (K1.out _).mono ?_
    intro e w' hm
    have hm2 := hm.before (HB.out _)
    obtain ⟨rfl, hm3⟩ := hm2
    have HR := Lib.hid hm3
    clear hm hm3
    go_wp2_with fail
    go_ret
    exact ⟨rfl, HR.out⟩
  by_cases e5 : what = 5
  · subst e5
    have K1 := Lib.hid (fun o => hD.spoil name n by_ (hM.out o) hs.out.name hs.out.n hs.out.by_)
    have hst : stp σ (SV.stp ⟨5, name, text, n, by_, K, kl, kc, ks⟩) = spoil σ name n (UInt8.ofNat by_.toNat) := rfl
    rw [hst]
    clear hst e0 e1 e2 e3 e4
    go_enter Try.func11, Try.ntmps11
    go_wp2_with fail
    refine (K1.out _).mono ?_
    intro e w' hm
    have hm2 := hm.before (HB.out _)
    obtain ⟨rfl, hm3⟩ := hm2
    have HR := Lib.hid hm3
    clear hm hm3
    go_wp2_with fail
    go_ret
    exact ⟨rfl, HR.out⟩
  by_cases e6 : what = 6
  · subst e6
    have K1 := Lib.hid (fun o => hD.fuse n (hM.out o) hs.out.n)
    have hst : stp σ (SV.stp ⟨6, name, text, n, by_, K, kl, kc, ks⟩) = fuse σ n := rfl
    rw [hst]
    clear hst e0 e1 e2 e3 e4 e5
    go_enter Try.func11, Try.ntmps11
    go_wp2_with fail
    refine (K1.out _).mono ?_
    intro e w' hm
    have hm2 := hm.before (HB.out _)
    obtain ⟨rfl, hm3⟩ := hm2
    have HR := Lib.hid hm3
    clear hm hm3
    go_wp2_with fail
    go_ret
    exact ⟨rfl, HR.out⟩
  by_cases e7 : what = 7
  · subst e7
    have hst : stp σ (SV.stp ⟨7, name, text, n, by_, K, kl, kc, ks⟩) = crash σ ks := rfl
    rw [hst]
    clear hst e0 e1 e2 e3 e4 e5 e6
    have HV : Hid (∀ o, SliceView (w.alloc o) .i64 K kl kc ks) := fun o => hs.out.keep.below (HB.out o)
    have hf := hs.out.few
    go_enter Try.func11, Try.ntmps11
    go_wp2_with (at_builtin; refine wpList_copy_ints (by rfl) (.const (.slice none 0 0)) (.tmp 61) (by rfl) (by rfl) K kl kc ks (by rfl) (HV.out _) hf ?_; intro A' cap' w1 HS1 HB1 HN1)
    refine (hD.crash A' kl cap' ks (hD.below (hM.out _) HB1.out) HS1.out (fun a ha ho => by have h1 := hD.own h.out _ ho; have h2 := HN1.out a ha; simp at h2; omega) hf).mono ?_
    intro e w' hm
    have hm2 := (hm.before HB1.out).before (HB.out _)
    obtain ⟨rfl, hm3⟩ := hm2
    have HR := Lib.hid hm3
    clear hm hm3
    go_wp2_with fail
    go_ret
    exact ⟨rfl, HR.out⟩
  have hst : stp σ (SV.stp ⟨what, name, text, n, by_, K, kl, kc, ks⟩) = (σ, 0) := by
    simp only [stp, SV.stp, e0, e1, e2, e3, e4, e5, e6, e7, if_false]
  rw [hst]
  have q0 : (what == 0) = false := by rw [beq_eq_false_iff_ne]; exact e0
  have q1 : (what == 1) = false := by rw [beq_eq_false_iff_ne]; exact e1
  have q2 : (what == 2) = false := by rw [beq_eq_false_iff_ne]; exact e2
  have q3 : (what == 3) = false := by rw [beq_eq_false_iff_ne]; exact e3
  have q4 : (what == 4) = false := by rw [beq_eq_false_iff_ne]; exact e4
  have q5 : (what == 5) = false := by rw [beq_eq_false_iff_ne]; exact e5
  have q6 : (what == 6) = false := by rw [beq_eq_false_iff_ne]; exact e6
  have q7 : (what == 7) = false := by rw [beq_eq_false_iff_ne]; exact e7
  clear hst e0 e1 e2 e3 e4 e5 e6 e7
  go_enter Try.func11, Try.ntmps11
  go_wp2_with fail
  go_ret
  exact ⟨rfl, O, hM.out _, (HB.out _).only O, fun k hk => Or.inl hk⟩
end
theorem does_at {D : Disks} (hD : Door D) {w0 w : World} {g : Nat} {σ : Dsk} (s : SV) (h : Hid (Mine D w0 w g σ)) (hs : Hid (SVok w s)) : Calls Try.prog 11 #[ptr g, s.val] w (Turned D w0 g (stp σ s.stp)) := by
  obtain ⟨O, hd, hO, hb⟩ := h.out
  exact Mine.turned hO hb (does_did hD s hd hs)
end Go.Proofs.Ytaiifelkbajaoaa
