/-
  Layer 8: Heavy.
-/
import Derived.Test.YtikbokbmaihdbaaGreatDoorBRow
import Derived.Test.YtikbokbmaihdbaaGreatDoorSteps8
import Derived.Test.YtikbokbmaihdbaaGreatDoorFTot
import Derived.WalkKit
import Derived.BigCall
import Derived.Lib.Hide
import Derived.BigQuiet
import Derived.IntWalk
namespace Go.Proofs.YtikbokbmaihdbaaGreatDoor
open Go.RowKit Go.ChangeShapes Go.WideShapes

def lone8 (v : SV8) : Nat := v.s.name.size + v.s.text.size + v.s.kl + tot 1 v.ts
def bulk8 (l : List SV8) : Nat := (l.map lone8).sum
theorem bulk8_snoc (l : List SV8) (i : Nat) (h : i < l.length) : bulk8 (l.take (i + 1)) = bulk8 (l.take i) + lone8 l[i] := by
  rw [List.take_succ_eq_append_getElem h, bulk8, List.map_append, List.sum_append]; simp [bulk8]
theorem bulk8_mem : ∀ {l : List SV8} {v : SV8}, v ∈ l → lone8 v ≤ bulk8 l
  | t :: l, s, h => by
    simp only [bulk8, List.map_cons, List.sum_cons]
    rcases List.mem_cons.1 h with rfl | h
    · omega
    · have := bulk8_mem h
      rw [bulk8] at this
      omega
theorem SV8at.drewN {W : World} {b o : Nat} {v : SV8} (h : SV8at W b o v) (n : Nat) : SV8at (W.drewN n) b o v :=
  ⟨⟨by simpa using h.s.lt, by simpa using h.s.c0, by simpa using h.s.c1, by simpa using h.s.c2, by simpa using h.s.c3, by simpa using h.s.c4, by simpa using h.s.c5⟩, by simpa using h.c6⟩

/-- What Heavy answers. -/
def HeavyEnds8 (len : Nat) (l : List SV8) (w : World) (e : Ending) (w' : World) : Prop := ∃ b : Bool, e = .returned (.bool b) ∧ (b = false → len ≤ 150 ∧ bulk8 l ≤ 8192 ∧ ∀ v ∈ l, v.ll ≤ 100) ∧ ∃ n, w' = w.drewN n

set_option maxRecDepth 100000 in
set_option maxHeartbeats 2000000 in
theorem LHeavy_any (A : Option Addr) (len cap : Nat) (l : List SV8) (w : World) (hv : Hid (Steps8View w A len cap l)) :
    Calls Tryz.prog 4 #[.slice A len cap] w fun e w' => HeavyEnds8 len l w e w' := by
  have HL := Lib.hid hv.out.length
  have hfew := hv.out.few
  go_enter Tryz.func4, Tryz.ntmps4
  go_wp2_with fail
  go_loopw [3, 4] (fun nv iv wr => ∃ i n : Nat, i ≤ len ∧ i ≤ 500 ∧ nv = .int .i64 n ∧ iv = .int .i64 i ∧ Hid (n = bulk8 (l.take i)) ∧ n ≤ i * 14495961300176996 ∧ Hid (∀ v ∈ l.take i, v.ll ≤ 100) ∧ Hid (∃ k, wr = w.drewN k)) (fun _ iv _ => len - (intOf iv).toNat)
  case atStart => exact ⟨0, 0, Nat.zero_le _, by omega, rfl, rfl, by show _ = _; simp [bulk8], by omega, by intro r hr; simp at hr, 0, rfl⟩
  case round =>
    obtain ⟨i, n, hi, hi2, rfl, rfl, HN, hn, H1, HW⟩ := hrel
    by_cases hgo : i < len ∧ i < 500
    · have g1 := hgo.1
      have g2 := hgo.2
      clear hgo
      have hil : i < l.length := by rw [HL.out]; exact g1
      obtain ⟨b, off, rfl, hat⟩ := hv.out.cell i hil
      have hok := hv.out.ok l[i] (List.getElem_mem _)
      have hsn := bulk8_snoc l i hil
      have htk : l.take (i + 1) = l.take i ++ [l[i]] := List.take_succ_eq_append_getElem hil
      obtain ⟨⟨s, L, ll, lc, ts⟩, hs⟩ : ∃ s, l[i] = s := ⟨_, rfl⟩
      rw [hs] at hat hok hsn htk
      have HAT := Lib.hid hat
      have HOK := Lib.hid hok.l
      have hlen := hok.l.row.len
      dsimp only at hlen
      have HLL := Lib.hid hlen
      have HSN := Lib.hid hsn
      have HTK := Lib.hid htk
      have hat' : SV8at wr b (off + i * 7) ⟨s, L, ll, lc, ts⟩ := by obtain ⟨k, hk⟩ := HW.out; rw [hk]; exact hat.drewN k
      have d1 := hat'.s.c1
      have d2 := hat'.s.c2
      have d5 := hat'.s.c5
      have z1 := hok.s.name
      have z2 := hok.s.text
      have z5 := hok.s.few
      have z6 := hok.l.few
      dsimp only at d1 d2 d5 z1 z2 z5 z6
      clear hs hat hat' hok hsn htk hlen
      go_wp2_with fail
      go_quiet (fail)
      have HW2 : Hid (∃ k, wr.drewN nq = w.drewN k) := by obtain ⟨k, hk⟩ := HW.out; exact ⟨k + nq, by rw [hk, World.drewN_drewN]⟩
      generalize wr.drewN nq = w2 at *
      have e6 : w2.cell? ⟨b, off + i * 7 + 6, none⟩ = some (.slice L ll lc) := by obtain ⟨k, hk⟩ := HW2.out; rw [hk]; exact (HAT.out.drewN k).c6
      obtain ⟨n0, hn0⟩ : ∃ n0, s.name.size + s.text.size + s.kl = n0 := ⟨_, rfl⟩
      have hn0b : n0 ≤ 422212465053696 := by omega
      have hE0 : Value.int .i64 ((n : Int) + s.name.size + s.text.size + s.kl) = .int .i64 ((n + n0 : Nat) : Int) := by rw [← hn0]; congr 1; omega
      have HE0 := Lib.hid hE0
      have HN0 := Lib.hid hn0
      clear d1 d2 d5 z1 z2 z5 hn0 hE0 HW
      go_wp2_with fail
      go_loopw [3, 5] (fun nv kv wr => ∃ k m : Nat, k ≤ ll ∧ k ≤ 500 ∧ nv = .int .i64 m ∧ kv = .int .i64 k ∧ Hid (m = n + n0 + tot 1 (ts.take k)) ∧ m ≤ n + n0 + k * 140737488351233 ∧ Hid (∃ k, wr = w.drewN k)) (fun _ kv _ => ll - (intOf kv).toNat)
      case atStart => exact ⟨0, n + n0, Nat.zero_le _, by omega, by first | exact HE0.out | (rw [← HN0.out]; go_num), rfl, by show _ = _; simp [tot], by omega, HW2⟩
      case round =>
        clear HW2 e6
        obtain ⟨k, m, hk, hk5, rfl, rfl, HM, hm, HW⟩ := hrel
        have e6 : wr.cell? ⟨b, off + i * 7 + 6, none⟩ = some (.slice L ll lc) := by obtain ⟨k, hk⟩ := HW.out; rw [hk]; exact (HAT.out.drewN k).c6
        by_cases hgo : k < ll ∧ k < 500
        · have q1 := hgo.1
          have q2 := hgo.2
          clear hgo
          have hkt : k < ts.length := by rw [HLL.out]; exact q1
          obtain ⟨b2, o2, rfl, hb2, hc2⟩ := HOK.out.row.cell k hkt
          have hxs := HOK.out.short ts[k] (List.getElem_mem _)
          have hs2 := tot_snoc 1 ts k hkt
          obtain ⟨x, hx⟩ : ∃ x, ts[k] = x := ⟨_, rfl⟩
          have hc2' : wr.cell? ⟨b2, o2 + k, none⟩ = some (.string x) := by obtain ⟨k', hk'⟩ := HW.out; rw [hk', ← hx]; simpa using hc2
          rw [hx] at hxs hs2
          have HE : Hid (m + 1 + x.size = n + n0 + tot 1 (ts.take (k + 1))) := by show _ = _; rw [hs2, HM.out]; omega
          clear hx hs2 hc2
          go_wp2_with fail
          go_roundw
          case rel => exact ⟨k + 1, m + 1 + x.size, by omega, by omega, by go_num, by go_num, HE, by omega, HW⟩
          case measure => simp [intOf]; omega
        by_cases hbig : 100 < ll
        · by_cases q1 : k < ll
          · have q2 : 500 ≤ k := by omega
            clear hgo
            go_wp2_with fail
            go_ret
            exact ⟨true, rfl, (fun h => by cases h), HW.out⟩
          · clear hgo
            go_wp2_with fail
            go_ret
            exact ⟨true, rfl, (fun h => by cases h), HW.out⟩
        have q1 : ¬ k < ll := by omega
        have hke : ts.take k = ts := List.take_of_length_le (by rw [HLL.out]; omega)
        rw [hke] at HM
        have HN2 : Hid (m = bulk8 (l.take (i + 1))) := by show _ = _; rw [HSN.out, HM.out, HN.out, ← HN0.out]; show _ = _ + (s.name.size + s.text.size + s.kl + tot 1 ts); omega
        have H12 : Hid (∀ v ∈ l.take (i + 1), v.ll ≤ 100) := fun r hr => by
          rw [HTK.out] at hr
          rcases List.mem_append.1 hr with h1 | h1
          · exact H1.out r h1
          · simp at h1; subst h1; show ll ≤ 100; omega
        clear hke HM hgo
        go_wp2_with fail
        go_roundw
        case rel => exact ⟨i + 1, m, by omega, by omega, rfl, by go_num, HN2, by omega, H12, HW⟩
        case measure => simp [intOf]; omega
    by_cases hbig : 150 < len
    · by_cases g1 : i < len
      · have g2 : 500 ≤ i := by omega
        clear hgo
        go_wp2_with fail
        go_ret
        exact ⟨true, rfl, (fun h => by cases h), HW.out⟩
      · clear hgo
        go_wp2_with fail
        go_ret
        exact ⟨true, rfl, (fun h => by cases h), HW.out⟩
    have g1 : ¬ i < len := by omega
    have hie : l.take i = l := List.take_of_length_le (by rw [HL.out]; omega)
    rw [hie] at HN H1
    have hl150 : len ≤ 150 := by omega
    have e1 : decide (150 < (len : Int)) = false := by rw [decide_eq_false_iff_not]; omega
    clear hgo hie
    by_cases hsum : 8192 < n
    · have e2 : decide (8192 < (n : Int)) = true := by rw [decide_eq_true_iff]; omega
      go_wp2_with fail
      go_ret
      exact ⟨true, rfl, (fun h => by cases h), HW.out⟩
    · have e2 : decide (8192 < (n : Int)) = false := by rw [decide_eq_false_iff_not]; omega
      have HS : Hid (bulk8 l ≤ 8192) := by show _ ≤ _; rw [← HN.out]; omega
      go_wp2_with fail
      go_ret
      exact ⟨false, rfl, fun _ => ⟨hl150, HS.out, H1.out⟩, HW.out⟩

end Go.Proofs.YtikbokbmaihdbaaGreatDoor
