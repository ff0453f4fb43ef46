/-
  Layer 5: Texts, Bool.
-/
import Derived.Test.YteomgaaemlchfaaWNums
namespace Go.Proofs.Yteomgaaemlchfaa
open Go.RowKit

/-- A text's bytes. -/
def txb (s : List UInt8) : List UInt8 := ub s.length ++ s
/-- Texts' bytes, one behind the other. -/
def txs (ss : List ByteArray) : List UInt8 := ss.flatMap fun s => txb s.data.toList
theorem txs_snoc (ss : List ByteArray) (k : Nat) (h : k < ss.length) : txs (ss.take (k + 1)) = txs (ss.take k) ++ (ub ss[k].size ++ ss[k].data.toList) := by
  rw [List.take_succ_eq_append_getElem h, txs, List.flatMap_append]
  simp [txs, txb]
theorem txs_cons (ss : List ByteArray) (k : Nat) (h : k < ss.length) : txs (ss.drop k) = txb ss[k].data.toList ++ txs (ss.drop (k + 1)) := by
  rw [List.drop_eq_getElem_cons h, txs, List.flatMap_cons]; rfl
theorem txs_le (ss : List ByteArray) (i : Nat) : (txs (ss.take i)).length ≤ (txs ss).length := by
  have e : txs ss = txs (ss.take i) ++ txs (ss.drop i) := by
    rw [txs, txs, txs, ← List.flatMap_append, List.take_append_drop]
  rw [e, List.length_append]; omega

theorem bool_bytes (t : Bool) (w : World) : Calls Try.prog 13 #[.bool t] w fun e w' => e = .returned (.string (str [if t then 1 else 0])) ∧ w = w' := by
  cases t with
  | true =>
    go_enter Try.func13, Try.ntmps13
    go_wp2_with fail
    go_ret
    exact ⟨rfl, rfl⟩
  | false =>
    go_enter Try.func13, Try.ntmps13
    go_wp2_with fail
    go_ret
    exact ⟨rfl, rfl⟩

set_option maxRecDepth 100000 in
set_option maxHeartbeats 1000000 in
theorem Texts_any (A : Option Addr) (n cap : Nat) (ss : List ByteArray) (hn : n ≤ 1000000) (hl : (txs ss).length ≤ 1099511627776) (w : World) (hS : Hid (Strs w A n ss)) :
    Calls Try.prog 11 #[.slice A n cap] w fun e w' => e = .returned (.string (str (txs ss))) ∧ Below w.heap.size w w' := by
  have HL := Lib.hid hS.out.len
  have HI : Hid (Lib.IsBuilder 49 5 w.heap.size w.heap.size (Lib.byteCells (txs (ss.take 0))) (w.alloc (.cells #[.pointer none, .slice none 0 0] 49))) := Lib.fresh_isBuilder _ _ w
  go_enter Try.func11, Try.ntmps11
  go_wp2_with fail
  go_loopw [5, 8] (fun _ iv wr => ∃ i : Nat, i ≤ n ∧ iv = .int .i64 i ∧ Hid (Lib.IsBuilder 49 5 w.heap.size w.heap.size (Lib.byteCells (txs (ss.take i))) wr) ∧ Below w.heap.size w wr) (fun _ iv _ => n - (intOf iv).toNat)
  case atStart => exact ⟨0, Nat.zero_le _, rfl, HI, (Below.refl _ _).alloc (Nat.le_refl _) _⟩
  case round =>
    clear HI
    obtain ⟨i, hi, rfl, HI, hbw⟩ := hrel
    have hsz := hbw.size
    by_cases hlt : i < n
    · have hil : i < ss.length := by rw [HL.out]; exact hlt
      obtain ⟨b, off, rfl, hbl, hc⟩ := hS.out.cell i hil
      obtain ⟨s, hs⟩ : ∃ s, ss[i] = s := ⟨_, rfl⟩
      have hcw : wr.cell? ⟨b, off + i, none⟩ = some (.string s) := by rw [← hs]; exact (hbw.cell (p := ⟨b, off + i, none⟩) hbl).trans hc
      obtain ⟨X, hX⟩ : ∃ X, X = str (ub s.size) := ⟨_, rfl⟩
      have HX : Hid (str (ub s.size) = X) := hX.symm
      obtain ⟨M, hM⟩ : ∃ M, M = txs (ss.take i) ++ X.data.toList := ⟨_, rfl⟩
      have HM := Lib.hid hM
      have HE : Hid (txs (ss.take (i + 1)) = M ++ s.data.toList) := by show _ = _; rw [txs_snoc ss i hil, hs, hM, hX, List.append_assoc]; rfl
      have hML : M.length = (txs (ss.take i)).length + X.size := by rw [hM, List.length_append]; simp
      have hle : M.length + s.size ≤ 1099511627776 := by
        have h1 := txs_le ss (i + 1)
        rw [HE.out, List.length_append] at h1
        have e : s.data.toList.length = s.size := by simp
        omega
      have hle1 : (txs (ss.take i)).length + X.size ≤ 140737488355328 := by omega
      have hle2 : M.length + s.size ≤ 140737488355328 := by omega
      have hss : s.size ≤ 1099511627776 := by omega
      have hu : IntKind.u64.wrap (s.size : Int) = s.size := by rw [IntKind.wrap_u64]; omega
      clear hc hs hX hM hML
      go_wp2_with fail
      refine (Up_at s.size _ (by omega) X HX).mono ?_
      rintro e w1 ⟨rfl, hb1⟩
      have HI1 : Hid (Lib.IsBuilder 49 5 w.heap.size w.heap.size (Lib.byteCells (txs (ss.take i))) w1) := IsBuilder_below HI.out hb1
      have hb2 : Below w.heap.size w w1 := hbw.trans (hb1.mono hsz)
      clear hcw hbw hb1 HI
      go_wp2_with fail
      refine (Write_at w.heap.size w.heap.size (txs (ss.take i)) X w1 HI1 hle1 hb2.size M HM).mono ?_
      rintro e w2 ⟨rfl, h3, hb3⟩
      have HI2 := Lib.hid h3
      have hb4 := hb2.trans hb3
      clear h3 hb3 hb2 HI1
      go_wp2_with fail
      refine (Write_at w.heap.size w.heap.size M s w2 HI2 hle2 hb4.size _ HE).mono ?_
      rintro e w3 ⟨rfl, h5, hb5⟩
      have HI3 := Lib.hid h5
      have hb6 := hb4.trans hb5
      clear h5 hb5 hb4 HI2
      go_wp2_with fail
      go_roundw
      case rel => exact ⟨i + 1, by omega, by go_num, HI3, hb6⟩
      case measure => simp [intOf]; omega
    · have HI2 : Hid (Lib.IsBuilder 49 5 w.heap.size w.heap.size (Lib.byteCells (txs ss)) wr) := by
        have h := HI.out
        rw [List.take_of_length_le (by rw [HL.out]; omega)] at h
        exact h
      go_wp2_with (go_at_call 25; refine (String_at w.heap.size w.heap.size (txs ss) _ HI2 hsz).mono ?_; rintro e w' ⟨rfl, hb'⟩)
      go_ret
      exact ⟨rfl, hbw.trans hb'⟩

end Go.Proofs.Yteomgaaemlchfaa
