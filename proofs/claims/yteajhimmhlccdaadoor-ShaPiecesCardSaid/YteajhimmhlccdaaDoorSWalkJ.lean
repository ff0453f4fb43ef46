/-
  Contracts of layer 4: Of, Pair.
-/
import Derived.Test.YteajhimmhlccdaaDoorSWalkI
namespace Go.Proofs.YteajhimmhlccdaaDoor
open Go.RowKit

/-- Texts in a row. -/
structure Strs (w : World) (A : Option Addr) (n : Nat) (ss : List ByteArray) : Prop where
  len : ss.length = n
  cell : ∀ i (h : i < ss.length), ∃ b off, A = some ⟨b, off, none⟩ ∧ b < w.heap.size ∧ w.cell? ⟨b, off + i, none⟩ = some (.string ss[i])
theorem Strs.below {w w' : World} {A : Option Addr} {n : Nat} {ss : List ByteArray} (h : Strs w A n ss) (hb : Below w.heap.size w w') : Strs w' A n ss :=
  ⟨h.len, fun i hi => by
    obtain ⟨b, off, e, hl, hc⟩ := h.cell i hi
    exact ⟨b, off, e, Nat.lt_of_lt_of_le hl hb.size, (hb.cell (p := ⟨b, off + i, none⟩) hl).trans hc⟩⟩
def cats (ss : List ByteArray) : List UInt8 := ss.flatMap (·.data.toList)
theorem cats_snoc (ss : List ByteArray) (i : Nat) (h : i < ss.length) : cats (ss.take (i + 1)) = cats (ss.take i) ++ ss[i].data.toList := by
  rw [List.take_succ_eq_append_getElem h, cats, List.flatMap_append]; simp [cats]
theorem cats_le (ss : List ByteArray) (i : Nat) : (cats (ss.take i)).length ≤ (cats ss).length := by
  have e : cats ss = cats (ss.take i) ++ cats (ss.drop i) := by
    rw [cats, cats, cats, ← List.flatMap_append, List.take_append_drop]
  rw [e, List.length_append]; omega

set_option maxRecDepth 100000 in
set_option maxHeartbeats 1000000 in
theorem Of_any (A : Option Addr) (n cap : Nat) (ss : List ByteArray) (hn : n ≤ 140737488355328) (hl : (cats ss).length ≤ 274877906944) (w : World) (hS : Hid (Strs w A n ss)) (hT : Hid (Tab w)) :
    Calls Tryd.prog 8 #[.slice A n cap] w fun e w' => e = .returned (.string ⟨(dig (cats ss)).toArray⟩) ∧ Below w.heap.size w w' := by
  go_enter Tryd.func8, Tryd.ntmps8
  go_wp2_with fail
  refine (New_any _).mono ?_
  rintro e w1 ⟨g, rfl, hg, hh, hb1⟩
  go_wp2_with fail
  have HL := Lib.hid hS.out.len
  go_loopw [5, 9] (fun _ iv wr => ∃ i : Nat, i ≤ n ∧ iv = .int .i64 i ∧ Hid (Hash wr g (cats (ss.take i))) ∧ Below w.heap.size w wr) (fun _ iv _ => n - (intOf iv).toNat)
  case atStart => exact ⟨0, Nat.zero_le _, rfl, hh, hb1⟩
  case round =>
    clear hh hb1
    obtain ⟨i, hi, rfl, HH, hbw⟩ := hrel
    have hsz := hbw.size
    by_cases hlt : i < n
    · have hil : i < ss.length := by rw [HL.out]; exact hlt
      obtain ⟨b, off, rfl, hbl, hc⟩ := hS.out.cell i hil
      obtain ⟨s, hs⟩ : ∃ s, ss[i] = s := ⟨_, rfl⟩
      have hcw : wr.cell? ⟨b, off + i, none⟩ = some (.string s) := by rw [← hs]; exact (hbw.cell (p := ⟨b, off + i, none⟩) hbl).trans hc
      have HE : Hid (cats (ss.take (i + 1)) = cats (ss.take i) ++ s.data.toList) := by show _ = _; rw [cats_snoc ss i hil, hs]
      have hle : (cats (ss.take i)).length + s.size ≤ 1099511627776 := by
        have h1 := cats_le ss (i + 1)
        rw [HE.out, List.length_append] at h1
        have e : s.data.toList.length = s.size := by simp
        omega
      have HTw : Hid (Tab wr) := hT.out.below hbw
      clear hc hs
      go_wp2_with fail
      refine (Add_any g (cats (ss.take i)) s hle _ HH HTw).mono ?_
      rintro e w2 ⟨rfl, hh2, hg2⟩
      rw [← HE.out] at hh2
      have hb2 : Below w.heap.size w w2 := hbw.grown hg2 hsz (fun k hk => by injection hk with hk; omega)
      clear hcw hbw hg2 HH
      go_wp2_with fail
      go_roundw
      case rel => exact ⟨i + 1, by omega, by go_num, hh2, hb2⟩
      case measure => simp [intOf]; omega
    · have e : ss.take i = ss := List.take_of_length_le (by rw [HL.out]; omega)
      rw [e] at HH
      have HTw : Hid (Tab wr) := hT.out.below hbw
      clear e
      go_wp2_with fail
      refine (Sum_any g (cats ss) (by omega) _ HH HTw).mono ?_
      rintro e w2 ⟨rfl, hb2⟩
      have hb3 := hbw.trans (hb2.mono hsz)
      clear hb2 hbw
      go_wp2_with fail
      go_ret
      exact ⟨rfl, hb3⟩

/-- A row of texts that was made just now. -/
theorem Strs.new (w : World) (ss : List ByteArray) (t : TypeId) (n : Nat) (hn : ss.length = n) : Strs (w.alloc (.cells (ss.map Value.string).toArray t)) (some ⟨w.heap.size, 0, none⟩) n ss := by
  refine ⟨hn, fun i hi => ⟨w.heap.size, 0, rfl, by simp, ?_⟩⟩
  rw [cell_of_row _ _ _ _ _ _ (heap_alloc_new w _), Nat.zero_add]
  simp [hi]

set_option maxRecDepth 100000 in
theorem Pair_any (a b : ByteArray) (hl : a.size + b.size ≤ 137438953472) (w : World) (hT : Hid (Tab w)) :
    Calls Tryd.prog 14 #[.string a, .string b] w fun e w' => e = .returned (.string ⟨(dig (1 :: (a.data.toList ++ b.data.toList))).toArray⟩) ∧ Below w.heap.size w w' := by
  have hc : cats [⟨#[1]⟩, a, b] = 1 :: (a.data.toList ++ b.data.toList) := by simp [cats]
  have hlen : (cats [⟨#[1]⟩, a, b]).length ≤ 274877906944 := by
    rw [hc]
    have e1 : a.data.toList.length = a.size := by simp
    have e2 : b.data.toList.length = b.size := by simp
    simp only [List.length_cons, List.length_append]
    omega
  have HC := Lib.hid hc
  clear hc
  go_enter Tryd.func14, Tryd.ntmps14
  go_wp2_with fail
  refine (Of_any _ 3 3 [⟨#[1]⟩, a, b] (by decide) hlen _ (Strs.new w _ _ 3 rfl) (hT.out.below ((Below.refl _ w).alloc (Nat.le_refl _) _))).mono ?_
  rintro e w2 ⟨rfl, hb2⟩
  have hb3 : Below w.heap.size w w2 := ((Below.refl _ w).alloc (Nat.le_refl _) _).trans (hb2.mono (by simp))
  rw [HC.out]
  clear hb2 hlen
  go_wp2_with fail
  go_ret
  exact ⟨rfl, hb3⟩
end Go.Proofs.YteajhimmhlccdaaDoor
