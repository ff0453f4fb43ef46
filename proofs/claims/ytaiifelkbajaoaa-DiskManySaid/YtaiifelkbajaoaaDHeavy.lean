/-
  Layer 7: Heavy.
-/
import Derived.Test.YtaiifelkbajaoaaDSteps
import Derived.WalkKit
import Derived.BigCall
import Derived.Lib.Hide
import Derived.BigQuiet
import Derived.IntWalk
namespace Go.Proofs.Ytaiifelkbajaoaa
open Go.RowKit Go.ChangeShapes Go.WideShapes

theorem _root_.Go.RowKit.Below.drewN {B : Nat} {w w' : World} (h : Below B w w') (m : Nat) : Below B w (w'.drewN m) := ⟨h.os, h.tape, h.output, h.size, h.block⟩
theorem of_drewN {B : Nat} {w w' : World} (h : ∃ n, w' = w.drewN n) : Below B w w' := by obtain ⟨n, rfl⟩ := h; exact (Below.refl _ _).drewN n

def bulk (l : List SV) : Nat := (l.map fun s => s.name.size + s.text.size + s.kl).sum
theorem bulk_snoc (l : List SV) (i : Nat) (h : i < l.length) : bulk (l.take (i + 1)) = bulk (l.take i) + (l[i].name.size + l[i].text.size + l[i].kl) := by
  rw [List.take_succ_eq_append_getElem h, bulk, List.map_append, List.sum_append]; simp [bulk]
theorem bulk_mem : ∀ {l : List SV} {s : SV}, s ∈ l → s.name.size + s.text.size + s.kl ≤ bulk l
  | t :: l, s, h => by
    simp only [bulk, List.map_cons, List.sum_cons]
    rcases List.mem_cons.1 h with rfl | h
    · omega
    · have := bulk_mem h
      rw [bulk] at this
      omega

theorem SVat.drewN {W : World} {b o : Nat} {s : SV} (h : SVat W b o s) (n : Nat) : SVat (W.drewN n) b o s :=
  ⟨by simpa using h.lt, by simpa using h.c0, by simpa using h.c1, by simpa using h.c2, by simpa using h.c3, by simpa using h.c4, by simpa using h.c5⟩

/-- What Heavy answers. -/
def HeavyEnds (len : Nat) (l : List SV) (w : World) (e : Ending) (w' : World) : Prop := ∃ b : Bool, e = .returned (.bool b) ∧ (b = false → len ≤ 200 ∧ bulk l ≤ 16384) ∧ ∃ n, w' = w.drewN n

set_option maxRecDepth 100000 in
theorem Heavy_any (A : Option Addr) (len cap : Nat) (l : List SV) (w : World) (hv : Hid (StepsView w A len cap l)) :
    Calls Try.prog 8 #[.slice A len cap] w fun e w' => HeavyEnds len l w e w' := by
  have HL := Lib.hid hv.out.length
  have hfew := hv.out.few
  go_enter Try.func8, Try.ntmps8
  go_wp2_with fail
  go_loopw [3, 4] (fun nv iv wr => ∃ i n : Nat, i ≤ len ∧ i ≤ 500 ∧ nv = .int .i64 n ∧ iv = .int .i64 i ∧ Hid (n = bulk (l.take i)) ∧ n ≤ i * 422212465053696 ∧ Hid (∃ k, wr = w.drewN k)) (fun _ iv _ => len - (intOf iv).toNat)
  case atStart => exact ⟨0, 0, Nat.zero_le _, by omega, rfl, rfl, by show _ = _; simp [bulk], by omega, 0, rfl⟩
  case round =>
    obtain ⟨i, n, hi, hi2, rfl, rfl, HN, hn, HW⟩ := hrel
    by_cases hgo : i < len ∧ i < 500
    · have c1 := hgo.1
      have c2 := hgo.2
      clear hgo
      have hil : i < l.length := by rw [HL.out]; exact c1
      obtain ⟨b, off, rfl, hat⟩ := hv.out.cell i hil
      have hok := hv.out.ok l[i] (List.getElem_mem _)
      obtain ⟨s, hs⟩ : ∃ s, l[i] = s := ⟨_, rfl⟩
      rw [hs] at hat hok
      have hat' : SVat wr b (off + i * 6) s := by obtain ⟨k, hk⟩ := HW.out; rw [hk]; exact hat.drewN k
      have d1 := hat'.c1
      have d2 := hat'.c2
      have d5 := hat'.c5
      have z1 := hok.name
      have z2 := hok.text
      have z5 := hok.few
      have HE : Hid (n + (s.name.size + s.text.size + s.kl) = bulk (l.take (i + 1))) := by show _ = _; rw [bulk_snoc l i hil, hs, HN.out]
      clear hs hat hat' hok
      go_wp2_with fail
      go_quiet (fail)
      go_wp2_with fail
      go_roundw
      case rel => exact ⟨i + 1, n + (s.name.size + s.text.size + s.kl), by omega, by omega, by go_num, by go_num, HE, by omega, by obtain ⟨k, hk⟩ := HW.out; exact ⟨k + nq, by rw [hk, World.drewN_drewN]⟩⟩
      case measure => simp [intOf]; omega
    by_cases hbig : 200 < len
    · by_cases c1 : i < len
      · have c2 : 500 ≤ i := by omega
        clear hgo
        go_wp2_with fail
        go_ret
        exact ⟨true, rfl, (fun h => by cases h), HW.out⟩
      · clear hgo
        go_wp2_with fail
        go_ret
        exact ⟨true, rfl, (fun h => by cases h), HW.out⟩
    have c1 : ¬ i < len := by omega
    have hie : l.take i = l := List.take_of_length_le (by rw [HL.out]; omega)
    rw [hie] at HN
    have hl200 : len ≤ 200 := by omega
    have e1 : decide (200 < (len : Int)) = false := by rw [decide_eq_false_iff_not]; omega
    clear hgo hie
    by_cases hsum : 16384 < n
    · have e2 : decide (16384 < (n : Int)) = true := by rw [decide_eq_true_iff]; omega
      go_wp2_with fail
      go_ret
      exact ⟨true, rfl, (fun h => by cases h), HW.out⟩
    · have e2 : decide (16384 < (n : Int)) = false := by rw [decide_eq_false_iff_not]; omega
      have HS : Hid (bulk l ≤ 16384) := by show _ ≤ _; rw [← HN.out]; omega
      go_wp2_with fail
      go_ret
      exact ⟨false, rfl, fun _ => ⟨hl200, HS.out⟩, HW.out⟩

end Go.Proofs.Ytaiifelkbajaoaa
