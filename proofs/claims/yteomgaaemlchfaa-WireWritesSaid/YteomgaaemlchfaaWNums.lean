/-
  Layer 5: Nums.
-/
import Derived.Test.YteomgaaemlchfaaNRead
import Derived.Test.YteomgaaemlchfaaBuild
import Derived.Test.YteomgaaemlchfaaStrs
namespace Go.Proofs.Yteomgaaemlchfaa
open Go.RowKit

/-- Numbers' bytes, one behind the other. -/
def cat (N : List Nat) : List UInt8 := N.flatMap ub
theorem cat_snoc (N : List Nat) (k : Nat) (h : k < N.length) : cat (N.take (k + 1)) = cat (N.take k) ++ ub N[k] := by
  rw [List.take_succ_eq_append_getElem h, cat, List.flatMap_append]
  simp [cat]
theorem cat_cons (N : List Nat) (k : Nat) (h : k < N.length) : cat (N.drop k) = ub N[k] ++ cat (N.drop (k + 1)) := by
  rw [List.drop_eq_getElem_cons h, cat, List.flatMap_cons]; rfl
theorem cat_len (N : List Nat) (k : Nat) : (cat (N.take k)).length ≤ 10 * k := by
  induction k with
  | zero => simp [cat]
  | succ k ih =>
    by_cases h : k < N.length
    · rw [cat_snoc N k h, List.length_append]; have := ub_le N[k]; omega
    · rw [List.take_of_length_le (by omega)]
      rw [List.take_of_length_le (by omega)] at ih
      omega

theorem below_grown {w w' : World} (h : Below w.heap.size w w') : w.grownBy w' none := ⟨h.os, h.tape, h.output, h.size, fun k hk _ => h.block k hk⟩
theorem ownBlock_none {w : World} {base n : Nat} {t : TypeId} {v : Value} {xs : List Value} (_ : w.ownsRow base t 1 v n xs) (w' : World) (h : Below w.heap.size w w') : w'.ownsRow base t 1 v n xs := by
  rename_i hown
  refine hown.kept (below_grown h) ?_
  rcases hown.2 with ⟨rfl, _⟩ | ⟨g, cap, cur, rfl, _⟩
  · exact .inl rfl
  · exact .inr (by simp [Value.ownBlock])
theorem BuilderAt_below {T e : TypeId} {B b : Nat} {p : Value} {bs : List Value} {w w' : World} (h : Lib.BuilderAt T e B b p bs w) (hb : Below w.heap.size w w') : Lib.BuilderAt T e B b p bs w' := by
  have hlt := h.lt
  obtain ⟨hB, v, hbk, hown, hne⟩ := h
  exact ⟨hB, v, (hb.block b hlt).trans hbk, ownBlock_none hown _ hb, hne⟩
theorem IsBuilder_below {T e : TypeId} {B b : Nat} {bs : List Value} {w w' : World} (h : Lib.IsBuilder T e B b bs w) (hb : Below w.heap.size w w') : Lib.IsBuilder T e B b bs w' := by
  rcases h with h | h
  · exact .inl (BuilderAt_below h hb)
  · exact .inr (BuilderAt_below h hb)

/-- WriteString, String at lists. -/
theorem Write_at (B b : Nat) (L : List UInt8) (s : ByteArray) (w : World) (h : Hid (Lib.IsBuilder 49 5 B b (Lib.byteCells L) w)) (hlen : L.length + s.size ≤ 140737488355328) (hBw : B ≤ w.heap.size) (M : List UInt8) (hM : Hid (M = L ++ s.data.toList)) :
    Calls Try.prog 23 #[.pointer (some ⟨b, 0, none⟩), .string s] w fun e w' => e = .returned (.tuple #[.int .i64 s.size, .nilIface]) ∧ (Lib.IsBuilder 49 5 B b (Lib.byteCells M) w' ∧ Below B w w') := by
  refine (Try.WriteString B b (Lib.byteCells L) s w h.out (by rw [Lib.byteCells_length]; exact hlen) hBw).mono ?_
  rintro e w' ⟨rfl, h1, h2⟩
  rw [hM.out, Lib.byteCells_append, ← Lib.strCells_eq]
  exact ⟨rfl, .inr h1, h2⟩
theorem String_at (B b : Nat) (L : List UInt8) (w : World) (h : Hid (Lib.IsBuilder 49 5 B b (Lib.byteCells L) w)) (hBw : B ≤ w.heap.size) :
    Calls Try.prog 25 #[.pointer (some ⟨b, 0, none⟩)] w fun e w' => e = .returned (.string (str L)) ∧ Below B w w' := Try.Builder_String_any B b L w h.out hBw

set_option maxRecDepth 100000 in
set_option maxHeartbeats 1000000 in
theorem Nums_any (A : Option Addr) (n cap : Nat) (N : List Nat) (hn : n ≤ 1000000) (w : World) (hS : Hid (Ints w A n N)) (hN : Hid (∀ x ∈ N, x ≤ 18446744073709551615)) :
    Calls Try.prog 9 #[.slice A n cap] w fun e w' => e = .returned (.string (str (cat N))) ∧ Below w.heap.size w w' := by
  have HL := Lib.hid hS.out.len
  have HI : Hid (Lib.IsBuilder 49 5 w.heap.size w.heap.size (Lib.byteCells (cat (N.take 0))) (w.alloc (.cells #[.pointer none, .slice none 0 0] 49))) := Lib.fresh_isBuilder _ _ w
  go_enter Try.func9, Try.ntmps9
  go_wp2_with fail
  go_loopw [5, 8] (fun _ iv wr => ∃ i : Nat, i ≤ n ∧ iv = .int .i64 i ∧ Hid (Lib.IsBuilder 49 5 w.heap.size w.heap.size (Lib.byteCells (cat (N.take i))) wr) ∧ Below w.heap.size w wr) (fun _ iv _ => n - (intOf iv).toNat)
  case atStart => exact ⟨0, Nat.zero_le _, rfl, HI, (Below.refl _ _).alloc (Nat.le_refl _) _⟩
  case round =>
    clear HI
    obtain ⟨i, hi, rfl, HI, hbw⟩ := hrel
    have hsz := hbw.size
    by_cases hlt : i < n
    · have hil : i < N.length := by rw [HL.out]; exact hlt
      obtain ⟨b, off, rfl, hbl, hc⟩ := hS.out.cell i hil
      obtain ⟨x, hx⟩ : ∃ x, N[i] = x := ⟨_, rfl⟩
      have hcw : wr.cell? ⟨b, off + i, none⟩ = some (.int .u64 (x : Nat)) := by rw [← hx]; exact (hbw.cell (p := ⟨b, off + i, none⟩) hbl).trans hc
      have hxm : x ≤ 18446744073709551615 := by rw [← hx]; exact hN.out _ (List.getElem_mem hil)
      obtain ⟨X, hX⟩ : ∃ X, X = str (ub x) := ⟨_, rfl⟩
      have HX : Hid (str (ub x) = X) := hX.symm
      have HE : Hid (cat (N.take (i + 1)) = cat (N.take i) ++ X.data.toList) := by show _ = _; rw [cat_snoc N i hil, hx, hX]; rfl
      have hle : (cat (N.take i)).length + X.size ≤ 140737488355328 := by
        have h1 := cat_len N i
        have h2 := ub_le x
        have e : X.size = (ub x).length := by rw [hX]; rfl
        omega
      clear hc hx hX
      go_wp2_with fail
      refine (Up_at x _ hxm X HX).mono ?_
      rintro e w1 ⟨rfl, hb1⟩
      have HI1 : Hid (Lib.IsBuilder 49 5 w.heap.size w.heap.size (Lib.byteCells (cat (N.take i))) w1) := IsBuilder_below HI.out hb1
      have hb2 : Below w.heap.size w w1 := hbw.trans (hb1.mono hsz)
      clear hcw hbw hb1 HI
      go_wp2_with fail
      refine (Write_at w.heap.size w.heap.size (cat (N.take i)) X w1 HI1 hle hb2.size _ HE).mono ?_
      rintro e w2 ⟨rfl, h3, hb3⟩
      have HI2 := Lib.hid h3
      have hb4 := hb2.trans hb3
      clear h3 hb3 hb2 HI1
      go_wp2_with fail
      go_roundw
      case rel => exact ⟨i + 1, by omega, by go_num, HI2, hb4⟩
      case measure => simp [intOf]; omega
    · have HI2 : Hid (Lib.IsBuilder 49 5 w.heap.size w.heap.size (Lib.byteCells (cat N)) wr) := by
        have h := HI.out
        rw [List.take_of_length_le (by rw [HL.out]; omega)] at h
        exact h
      go_wp2_with (go_at_call 25; refine (String_at w.heap.size w.heap.size (cat N) _ HI2 hsz).mono ?_; rintro e w' ⟨rfl, hb'⟩)
      go_ret
      exact ⟨rfl, hbw.trans hb'⟩

end Go.Proofs.Yteomgaaemlchfaa
