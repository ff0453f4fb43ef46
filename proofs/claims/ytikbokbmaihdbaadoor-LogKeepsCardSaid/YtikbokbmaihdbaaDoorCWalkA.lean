/-
  Contracts of layer 3: down, On, Of; the document's On, Of.
-/
import Derived.Test.YtikbokbmaihdbaaDoorProg
import Derived.Test.YtikbokbmaihdbaaDoorCPure
import Derived.WalkKit
import Derived.BigCall
import Derived.Lib.OthersKept
import Derived.Lib.Hide
import Derived.IntWalk
import Derived.Below
import Derived.Laws.BitsAllLaws
namespace Go.Proofs.YtikbokbmaihdbaaDoor
open Go.RowKit

theorem ret_int {k : IntKind} {a b : Int} (h : a = b) : Ending.returned (.int k a) = Ending.returned (.int k b) := by rw [h]
theorem ret_bool {a b : Bool} (h : a = b) : Ending.returned (.bool a) = Ending.returned (.bool b) := by rw [h]

/-- The table lies where it lies. -/
def Tab (w : World) : Prop := ∀ i, i < 16 → w.cell? ⟨0, i, none⟩ = some (.int .u32 (tab.getD i 0))
theorem Tab.below {w w' : World} (h : Tab w) (hb : Below w.heap.size w w') : Tab w' := fun i hi =>
  (hb.cell (p := ⟨0, i, none⟩) (World.block_lt_of_cell? w _ (h i hi))).trans (h i hi)

theorem down_any (r : Nat) (h : r < 4294967296) (w : World) (hT : Hid (Tab w)) :
    Calls Tryd.prog 59 #[.int .u32 r] w fun e w' => e = .returned (.int .u32 (stN 4 r : Nat)) ∧ w = w' := by
  have hc := hT.out (r % 16) (by omega)
  rw [tab_at] at hc
  have hl : stN 4 (r % 16) < 4294967296 := stN_lt 4 (by omega)
  have hx := u32_xor_nat (r / 16) (stN 4 (r % 16)) (by omega) hl
  rw [down_eq] at hx
  go_enter Tryd.func59, Tryd.ntmps59
  go_wp2_with fail
  go_ret
  exact ⟨ret_int hx, rfl⟩

theorem xor_i (a b : Nat) (ha : a < 4294967296) (hb : b < 4294967296) : bits .xor .u32 (a : Int) (b : Int) = ((a ^^^ b : Nat) : Int) := u32_xor_nat a b ha hb
theorem not_i (a : Nat) (ha : a < 4294967296) : bits .xor .u32 IntKind.u32.max (a : Int) = ((ful ^^^ a : Nat) : Int) := u32_xor_nat ful a ful_lt ha
theorem in_i (r : Nat) (hr : r < 4294967296) (b : UInt8) : bits .xor .u32 (r : Int) ((b.toNat : Int) % 4294967296) = ((r ^^^ b.toNat : Nat) : Int) := by
  have h1 := byte_lt b
  have h2 : ((b.toNat : Int) % 4294967296) = (b.toNat : Int) := by omega
  rw [h2]
  exact u32_xor_nat r b.toNat hr h1

theorem down_at (x : Int) (r : Nat) (hx : Hid (x = (r : Int))) (h : r < 4294967296) (w : World) (hT : Hid (Tab w)) :
    Calls Tryd.prog 59 #[.int .u32 x] w fun e w' => e = .returned (.int .u32 (stN 4 r : Nat)) ∧ w = w' := by
  rw [hx.out]
  exact down_any r h w hT

theorem take_snoc (s : ByteArray) (k : Nat) (h : k < s.size) : s.data.toList.take (k + 1) = s.data.toList.take k ++ [s[k]] := by
  rw [List.take_succ_eq_append_getElem (by simpa using h)]; rfl
theorem rg_snoc (s : ByteArray) (k r : Nat) (h : k < s.size) : rg r (s.data.toList.take (k + 1)) = by8 (rg r (s.data.toList.take k)) s[k] := by
  rw [take_snoc s k h, rg_append]; rfl
theorem take_all (s : ByteArray) : s.data.toList.take s.size = s.data.toList := List.take_of_length_le (by simp)

theorem On_any (m : Nat) (hm : m < 4294967296) (s : ByteArray) (hs : s.size ≤ maxLen) (w : World) (hT : Hid (Tab w)) :
    Calls Tryd.prog 53 #[.int .u32 m, .string s] w fun e w' => e = .returned (.int .u32 (onN m s.data.toList : Nat)) ∧ w = w' := by
  unfold maxLen at hs
  have HF := Lib.hid (not_i m hm)
  go_enter Tryd.func53, Tryd.ntmps53
  go_wp2_with fail
  go_loop [5, 11] (fun r i => ∃ (k R : Nat), k ≤ s.size ∧ i = .int .i64 k ∧ r = .int .u32 R ∧ R < 4294967296 ∧ Hid (R = rg (ful ^^^ m) (s.data.toList.take k))) (fun _ i => s.size - (intOf i).toNat)
  case atStart => exact ⟨0, ful ^^^ m, Nat.zero_le _, rfl, by rw [HF.out], xor_lt ful_lt hm, by show _ = _; rw [List.take_zero, rg_nil]⟩
  case round =>
    obtain ⟨k, R, hk, rfl, rfl, hR, HR⟩ := hrel
    by_cases hlt : k < s.size
    · have HX := Lib.hid (in_i R hR s[k])
      have hX := xor_lt hR (byte_lt s[k])
      have h4 := stN_lt 4 hX
      have hb := by8_lt hR s[k]
      go_wp2_with fail
      refine (down_at _ _ HX hX _ hT).mono ?_
      rintro e w1 ⟨rfl, rfl⟩
      go_wp2_with fail
      refine (down_any _ h4 _ hT).mono ?_
      rintro e w2 ⟨rfl, rfl⟩
      go_wp2_with fail
      go_round
      case rel => exact ⟨k + 1, by8 R s[k], by omega, by go_num, by rw [← stN_add 4 4]; rfl, hb, by show _ = _; rw [rg_snoc s k _ hlt, ← HR.out]⟩
      case measure => simp [intOf]; omega
    · go_wp2_with fail
      go_ret
      refine ⟨ret_int ?_, rfl⟩
      rw [not_i R hR, HR.out, show k = s.size by omega, take_all]
      rfl

theorem Of_any (s : ByteArray) (hs : s.size ≤ maxLen) (w : World) (hT : Hid (Tab w)) :
    Calls Tryd.prog 54 #[.string s] w fun e w' => e = .returned (.int .u32 (ofN s.data.toList : Nat)) ∧ w = w' := by
  go_enter Tryd.func54, Tryd.ntmps54
  go_wp2_with fail
  refine (On_any 0 (by decide) s hs _ hT).mono ?_
  rintro e w1 ⟨rfl, rfl⟩
  go_wp2_with fail
  go_ret
  exact ⟨rfl, rfl⟩

/-- At named results. -/
theorem On_at (m : Nat) (hm : m < 4294967296) (s : ByteArray) (hs : s.size ≤ maxLen) (w : World) (hT : Hid (Tab w)) (n : Nat) (hn : Hid (onN m s.data.toList = n)) :
    Calls Tryd.prog 53 #[.int .u32 m, .string s] w fun e w' => e = .returned (.int .u32 (n : Nat)) ∧ w = w' := by
  rw [← hn.out]
  exact On_any m hm s hs w hT
theorem Of_at (s : ByteArray) (hs : s.size ≤ maxLen) (w : World) (hT : Hid (Tab w)) (n : Nat) (hn : Hid (ofN s.data.toList = n)) :
    Calls Tryd.prog 54 #[.string s] w fun e w' => e = .returned (.int .u32 (n : Nat)) ∧ w = w' := by
  rw [← hn.out]
  exact Of_any s hs w hT

end Go.Proofs.YtikbokbmaihdbaaDoor
