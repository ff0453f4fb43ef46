/-
  Contracts of layer 6: four, number, sum, Size, front; strings.Clone.
-/
import Derived.Test.YtikbokbmaihdbaaGreatDoorBRow
import Derived.Test.YtikbokbmaihdbaaGreatDoorCWalkA
import Derived.Test.YtikbokbmaihdbaaGreatDoorFTot
import Derived.Test.YtikbokbmaihdbaaGreatDoorShelf
import Derived.BigQuiet
import Derived.RegionTactic
import Derived.Lib.Strings
namespace Go.Proofs.YtikbokbmaihdbaaGreatDoor
open Go.RowKit

theorem Tab.drewN {w : World} (h : Tab w) (n : Nat) : Tab (w.drewN n) := fun i hi => by simpa using h i hi

theorem byte_mod (x : Nat) : ((UInt8.ofNat x).toNat : Int) = (x : Int) % 256 := by simp

/-- A row of four bytes that was made just now. -/
theorem BRow.new4 (w : World) (t : TypeId) : BRow (w.alloc (.cells #[.int .u8 0, .int .u8 0, .int .u8 0, .int .u8 0] t)) w.heap.size [0, 0, 0, 0] := by
  refine ⟨by simp, fun j hj => ⟨?_, World.frozen?_alloc_new w _ t j⟩⟩
  rw [cell_of_row _ _ _ _ _ _ (heap_alloc_new w _)]
  match j, hj with
  | 0, _ => rfl
  | 1, _ => rfl
  | 2, _ => rfl
  | 3, _ => rfl

/-- How far the four bytes are written. -/
def Wr (n i : Nat) (l : List UInt8) : Prop := l.length = 4 ∧ ∀ j, j < i → l.getD j 0 = UInt8.ofNat (n / 2 ^ (8 * j))
theorem Wr.step {n i : Nat} {l : List UInt8} (h : Wr n i l) (hi : i < 4) : Wr n (i + 1) (l.set i (UInt8.ofNat (n / 2 ^ (8 * i)))) := by
  refine ⟨by simpa using h.1, fun j hj => ?_⟩
  have hl := h.1
  by_cases e : i = j
  · subst e
    rw [List.getD_eq_getElem?_getD, List.getElem?_set_self (by omega)]; rfl
  · rw [List.getD_eq_getElem?_getD, List.getElem?_set_ne e, ← List.getD_eq_getElem?_getD]
    exact h.2 j (by omega)
theorem Wr.done {n : Nat} {l : List UInt8} (h : Wr n 4 l) : l = le4 n := by
  obtain ⟨h1, h2⟩ := h
  match l, h1 with
  | [a, b, c, d], _ =>
    have e0 := h2 0 (by decide)
    have e1 := h2 1 (by decide)
    have e2 := h2 2 (by decide)
    have e3 := h2 3 (by decide)
    simp only [List.getD_cons_zero, List.getD_cons_succ] at e0 e1 e2 e3
    rw [e0, e1, e2, e3]
    simp [le4]

theorem four_any (n : Nat) (w : World) : Calls Tryz.prog 65 #[.int .u32 n] w fun e w' => e = .returned (.string (str (le4 n))) ∧ Below w.heap.size w w' := by
  have R0 := Lib.hid (BRow.new4 w 109)
  obtain ⟨g, hg⟩ : ∃ g, g = w.heap.size := ⟨_, rfl⟩
  have HG := Lib.hid hg
  clear hg
  go_enter Tryz.func65, Tryz.ntmps65
  go_wp2_with fail
  have HB0 := Lib.hid ((Below.refl w.heap.size w).alloc (Nat.le_refl _) (Obj.cells #[Value.int IntKind.u8 0, Value.int IntKind.u8 0, Value.int IntKind.u8 0, Value.int IntKind.u8 0] 109))
  generalize w.alloc _ = w1 at *
  rw [← HG.out] at R0 HB0 ⊢
  go_loopw [5] (fun iv wr => ∃ (i : Nat) (l : List UInt8), i ≤ 4 ∧ iv = .int .i64 i ∧ Hid (Wr n i l) ∧ Hid (BRow wr g l) ∧ Hid (Below g w wr)) (fun iv _ => 4 - (intOf iv).toNat)
  case atStart => exact ⟨0, _, by decide, rfl, ⟨rfl, fun j hj => by omega⟩, R0, HB0⟩
  case round =>
    clear R0 HB0
    obtain ⟨i, l, hi, rfl, HW, HR, HB⟩ := hrel
    have HL := Lib.hid HW.out.1
    by_cases hlt : i < 4
    · obtain ⟨x, hc, hz⟩ : ∃ x : UInt8, wr.cell? ⟨g, i, none⟩ = some (.int .u8 (x.toNat : Int)) ∧ wr.frozen? ⟨g, i, none⟩ = false := ⟨_, HR.out.2 i (by rw [HL.out]; exact hlt)⟩
      go_wp2_with fail
      clear hc hz
      go_roundw
      case rel =>
        have S := HR.out.store i (by rw [HL.out]; exact hlt) (UInt8.ofNat (n / 2 ^ (8 * i)))
        rw [byte_mod] at S
        simp only [Int.natCast_ediv, Int.natCast_pow] at S
        exact ⟨i + 1, _, by omega, by go_num, HW.out.step hlt, S, HB.out.setCell (Nat.le_refl _) _⟩
      case measure => simp [intOf]; omega
    · have h4 : i = 4 := by omega
      have e : l = le4 n := by rw [h4] at HW; exact HW.out.done
      have hbk := HR.out.back 4 4 HL.out.symm
      have HS := Lib.hid e
      clear e
      go_wp2_with (simp only [hbk])
      go_ret
      exact ⟨by rw [HS.out]; rfl, HG.out ▸ HB.out⟩

theorem or_byte (l : List UInt8) (b : UInt8) (i : Nat) (hi : i < 4) (hb : l.getD i 0 = b) :
    bits .or .u32 (pv l i : Int) ((b.toNat : Int) % 4294967296 * 2 ^ (8 * i) % 4294967296) = ((pv l (i + 1) : Nat) : Int) ∧ pv l (i + 1) < 4294967296 := by
  have h1 := pv_lt l i
  have h2 := pv_lt l (i + 1)
  have h3 : (2 : Nat) ^ (8 * (i + 1)) ≤ 2 ^ 32 := Nat.pow_le_pow_right (by decide) (by omega)
  have h4 : (2 : Nat) ^ (8 * i) ≤ 2 ^ 32 := Nat.pow_le_pow_right (by decide) (by omega)
  have hs : pv l (i + 1) = pv l i + b.toNat * 2 ^ (8 * i) := by rw [pv, hb]
  have hc := UInt8.toNat_lt b
  have e1 : ((b.toNat : Int) % 4294967296) = ((b.toNat : Nat) : Int) := by omega
  have e2 : ((b.toNat : Int) % 4294967296 * 2 ^ (8 * i) % 4294967296) = ((b.toNat * 2 ^ (8 * i) : Nat) : Int) := by
    rw [e1]
    have : ((b.toNat : Int) * 2 ^ (8 * i)) = ((b.toNat * 2 ^ (8 * i) : Nat) : Int) := by simp
    rw [this]
    exact Int.emod_eq_of_lt (Int.natCast_nonneg _) (by omega)
  refine ⟨?_, by omega⟩
  rw [e2, u32_or_nat _ _ (by omega) (by omega), Nat.or_comm, nat_join (8 * i) _ _ (by simp) h1, hs, Nat.add_comm]

theorem number_any (s : ByteArray) (h : 4 ≤ s.size) (hs : s.size ≤ maxLen) (w : World) : Calls Tryz.prog 75 #[.string s] w fun e w' => e = .returned (.int .u32 (v4 s.data.toList : Nat)) ∧ w = w' := by
  unfold maxLen at hs
  go_enter Tryz.func75, Tryz.ntmps75
  go_wp2_with fail
  go_loop [3, 5] (fun nv iv => ∃ i p : Nat, i ≤ 4 ∧ iv = .int .i64 i ∧ nv = .int .u32 p ∧ p < 4294967296 ∧ Hid (p = pv s.data.toList i)) (fun _ iv => 4 - (intOf iv).toNat)
  case atStart => exact ⟨0, 0, by decide, rfl, rfl, by decide, rfl⟩
  case round =>
    obtain ⟨i, p, hi, rfl, rfl, hp, HP⟩ := hrel
    by_cases hlt : i < 4
    · have hb : s.data.toList.getD i 0 = s[i] := by
        rw [List.getD_eq_getElem?_getD, List.getElem?_eq_getElem (by simp; omega)]; rfl
      have HO := Lib.hid (or_byte s.data.toList s[i] i hlt hb)
      clear hb
      go_wp2_with fail
      go_round
      case rel => exact ⟨i + 1, _, by omega, by go_num, by rw [HP.out]; exact congrArg _ HO.out.1, HO.out.2, rfl⟩
      case measure => simp [intOf]; omega
    · have e : p = v4 s.data.toList := by rw [HP.out, show i = 4 by omega, pv_four]
      have HE := Lib.hid e
      clear e
      go_wp2_with fail
      go_ret
      exact ⟨ret_int (by rw [HE.out]), rfl⟩

theorem number_at (s : ByteArray) (h : 4 ≤ s.size) (hs : s.size ≤ maxLen) (w : World) (n : Nat) (hn : Hid (v4 s.data.toList = n)) : Calls Tryz.prog 75 #[.string s] w fun e w' => e = .returned (.int .u32 (n : Nat)) ∧ w = w' := by
  rw [← hn.out]; exact number_any s h hs w

theorem sum_at (L T : ByteArray) (hL : L.size ≤ maxLen) (hT : T.size ≤ maxLen) (w : World) (hW : Hid (Tab w)) (n : Nat) (hn : Hid (ofN (L.data.toList ++ T.data.toList) = n)) :
    Calls Tryz.prog 66 #[.string L, .string T] w fun e w' => e = .returned (.int .u32 (n : Nat)) ∧ w = w' := by
  have HN : Hid (onN (ofN L.data.toList) T.data.toList = n) := by show _ = _; rw [on_of]; exact hn.out
  obtain ⟨m, hm⟩ : ∃ m, ofN L.data.toList = m := ⟨_, rfl⟩
  have hlt := ofN_lt L.data.toList
  rw [hm] at HN hlt
  have HM := Lib.hid hm
  clear hm
  go_enter Tryz.func66, Tryz.ntmps66
  go_wp2_with fail
  refine (Of_at L hL _ hW m HM).mono ?_
  rintro e w1 ⟨rfl, rfl⟩
  go_wp2_with fail
  refine (On_at m hlt T hT _ hW n HN).mono ?_
  rintro e w1 ⟨rfl, rfl⟩
  go_wp2_with fail
  go_ret
  exact ⟨rfl, rfl⟩

theorem Size_any (s : ByteArray) (hs : s.size ≤ 140737488355328) (w : World) : Calls Tryz.prog 58 #[.string s] w fun e w' => e = .returned (.int .i64 (8 + (s.size : Int))) ∧ w = w' := by
  go_enter Tryz.func58, Tryz.ntmps58
  go_wp2_with fail
  go_ret
  exact ⟨rfl, rfl⟩

theorem Clone_any (s : ByteArray) (w : World) (hs : s.size ≤ 281474976710656) :
    Calls Tryz.prog 29 #[.string s] w fun e w' => e = .returned (.string s) ∧ Below w.heap.size w w' := by
  go_enter Tryz.func29, Tryz.ntmps29
  go_wp2_with (go_at_call 60; refine (Tryz.stringslite_Clone s _ hs).mono ?_; rintro e w' ⟨rfl, hb⟩)
  go_ret
  exact ⟨rfl, hb⟩

end Go.Proofs.YtikbokbmaihdbaaGreatDoor
