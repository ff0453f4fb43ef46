/-
  Contracts of layer 3: down, On, Of; the document's On, Of.
-/
import Derived.Test.YtjjhgfbemfbplaaDoorProg
import Derived.Test.YtjjhgfbemfbplaaDoorCPure
import Derived.WalkKit
import Derived.BigCall
import Derived.Lib.OthersKept
import Derived.Lib.Hide
import Derived.IntWalk
import Derived.Below
import Derived.Laws.BitsAllLaws
namespace Go.Proofs.YtjjhgfbemfbplaaDoor
open Go.RowKit

theorem ret_int {k : IntKind} {a b : Int} (h : a = b) : Ending.returned (.int k a) = Ending.returned (.int k b) := by rw [h]
theorem ret_bool {a b : Bool} (h : a = b) : Ending.returned (.bool a) = Ending.returned (.bool b) := by rw [h]

/-- The table lies where it lies. -/
def Tab (w : World) : Prop := ∀ i, i < 16 → w.cell? ⟨0, i, none⟩ = some (.int .u32 (tab.getD i 0))
theorem Tab.below {w w' : World} (h : Tab w) (hb : Below w.heap.size w w') : Tab w' := fun i hi =>
  (hb.cell (p := ⟨0, i, none⟩) (World.block_lt_of_cell? w _ (h i hi))).trans (h i hi)

theorem down_any (r : Nat) (h : r < 4294967296) (w : World) (hT : Hid (Tab w)) :
    Calls Tryd.prog 29 #[.int .u32 r] w fun e w' => e = .returned (.int .u32 (stN 4 r : Nat)) ∧ w = w' := by
  have hc := hT.out (r % 16) (by omega)
  rw [tab_at] at hc
  have hl : stN 4 (r % 16) < 4294967296 := stN_lt 4 (by omega)
  have hx := u32_xor_nat (r / 16) (stN 4 (r % 16)) (by omega) hl
  rw [down_eq] at hx
  go_enter Tryd.func29, Tryd.ntmps29
  go_wp2_with fail
  go_ret
  exact ⟨ret_int hx, rfl⟩

theorem xor_i (a b : Nat) (ha : a < 4294967296) (hb : b < 4294967296) : bits .xor .u32 (a : Int) (b : Int) = ((a ^^^ b : Nat) : Int) := u32_xor_nat a b ha hb
theorem not_i (a : Nat) (ha : a < 4294967296) : bits .xor .u32 IntKind.u32.max (a : Int) = ((ful ^^^ a : Nat) : Int) := u32_xor_nat ful a ful_lt ha
theorem in_i (r : Nat) (hr : r < 4294967296) (b : UInt8) : bits .xor .u32 (r : Int) ((b.toNat : Int) % 4294967296) = ((r ^^^ b.toNat : Nat) : Int) := by
  have h1 := byte_lt b
  have h2 : ((b.toNat : Int) % 4294967296) = (b.toNat : Int) := by omega
  rw [h2]
  exact u32_xor_nat r b.toNat hr h1

theorem down_at (x : Int) (r : Nat) (hx : Hid (x = (r : Int))) (h : r < 4294967296) (w : World) (hT : Hid (Tab w)) :
    Calls Tryd.prog 29 #[.int .u32 x] w fun e w' => e = .returned (.int .u32 (stN 4 r : Nat)) ∧ w = w' := by
  rw [hx.out]
  exact down_any r h w hT

theorem take_snoc (s : ByteArray) (k : Nat) (h : k < s.size) : s.data.toList.take (k + 1) = s.data.toList.take k ++ [s[k]] := by
  rw [List.take_succ_eq_append_getElem (by simpa using h)]; rfl
theorem rg_snoc (s : ByteArray) (k r : Nat) (h : k < s.size) : rg r (s.data.toList.take (k + 1)) = by8 (rg r (s.data.toList.take k)) s[k] := by
  rw [take_snoc s k h, rg_append]; rfl
theorem take_all (s : ByteArray) : s.data.toList.take s.size = s.data.toList := List.take_of_length_le (by simp)

theorem On_any (m : Nat) (hm : m < 4294967296) (s : ByteArray) (hs : s.size ≤ maxLen) (w : World) (hT : Hid (Tab w)) :
    Calls Tryd.prog 24 #[.int .u32 m, .string s] w fun e w' => e = .returned (.int .u32 (onN m s.data.toList : Nat)) ∧ w = w' := by
  unfold maxLen at hs
  have HF := Lib.hid (not_i m hm)
  go_enter Tryd.func24, Tryd.ntmps24
  go_wp2_with fail
  go_loop [5, 11] (fun r i => ∃ (k R : Nat), k ≤ s.size ∧ i = .int .i64 k ∧ r = .int .u32 R ∧ R < 4294967296 ∧ Hid (R = rg (ful ^^^ m) (s.data.toList.take k))) (fun _ i => s.size - (intOf i).toNat)
  case atStart => exact ⟨0, ful ^^^ m, Nat.zero_le _, rfl, by rw [HF.out], xor_lt ful_lt hm, by show _ = _; rw [List.take_zero, rg_nil]⟩
  case round =>
    obtain ⟨k, R, hk, rfl, rfl, hR, HR⟩ := hrel
    by_cases hlt : k < s.size
    · have HX := Lib.hid (in_i R hR s[k])
      have hX := xor_lt hR (byte_lt s[k])
      have h4 := stN_lt 4 hX
      have hb := by8_lt hR s[k]
      go_wp2_with fail
      refine (down_at _ _ HX hX _ hT).mono ?_
      rintro e w1 ⟨rfl, rfl⟩
      go_wp2_with fail
      refine (down_any _ h4 _ hT).mono ?_
      rintro e w2 ⟨rfl, rfl⟩
      go_wp2_with fail
      go_round
      case rel => exact ⟨k + 1, by8 R s[k], by omega, by go_num, by rw [← stN_add 4 4]; rfl, hb, by show _ = _; rw [rg_snoc s k _ hlt, ← HR.out]⟩
      case measure => simp [intOf]; omega
    · go_wp2_with fail
      go_ret
      refine ⟨ret_int ?_, rfl⟩
      rw [not_i R hR, HR.out, show k = s.size by omega, take_all]
      rfl

theorem Of_any (s : ByteArray) (hs : s.size ≤ maxLen) (w : World) (hT : Hid (Tab w)) :
    Calls Tryd.prog 25 #[.string s] w fun e w' => e = .returned (.int .u32 (ofN s.data.toList : Nat)) ∧ w = w' := by
  go_enter Tryd.func25, Tryd.ntmps25
  go_wp2_with fail
  refine (On_any 0 (by decide) s hs _ hT).mono ?_
  rintro e w1 ⟨rfl, rfl⟩
  go_wp2_with fail
  go_ret
  exact ⟨rfl, rfl⟩

/-- One bit of the document's loop: what stands in the register, and what of the byte is still to come. -/
def Rf (r : Nat) (b : UInt8) (k R : Nat) : Prop := R ^^^ b.toNat / 2 ^ k = stN k (r ^^^ b.toNat)
theorem one_mod (a : Nat) : a &&& 1 = a % 2 := Nat.and_one_is_mod a
theorem div_small (b : UInt8) (q : Nat) : b.toNat / 2 ^ q < 4294967296 := Nat.lt_of_le_of_lt (Nat.div_le_self _ _) (byte_lt b)
theorem bit_spell (b : UInt8) (q Q : Nat) (hQ : Q < 4294967296) :
    bits .xor .u32 (bits .and .u32 ((b.toNat : Int) / 2 ^ q % 4294967296) 1) (bits .and .u32 (Q : Int) 1) = (((b.toNat / 2 ^ q) % 2 ^^^ Q % 2 : Nat) : Int) := by
  have h1 := div_small b q
  have e1 : ((b.toNat : Int) / 2 ^ q % 4294967296) = ((b.toNat / 2 ^ q : Nat) : Int) := by
    have : ((b.toNat : Int) / 2 ^ q) = ((b.toNat / 2 ^ q : Nat) : Int) := by simp
    rw [this]; exact Int.emod_eq_of_lt (Int.natCast_nonneg _) (Int.ofNat_lt.2 h1)
  have e2 : bits .and .u32 ((b.toNat / 2 ^ q : Nat) : Int) 1 = (((b.toNat / 2 ^ q) % 2 : Nat) : Int) := (u32_and_nat _ 1 h1 (by decide)).trans (by rw [one_mod])
  have e3 : bits .and .u32 (Q : Int) 1 = ((Q % 2 : Nat) : Int) := (u32_and_nat _ 1 hQ (by decide)).trans (by rw [one_mod])
  rw [e1, e2, e3]
  exact u32_xor_nat _ _ (by omega) (by omega)
theorem bit_one (x y : Nat) : (x % 2 ^^^ y % 2 = 1) ↔ (y ^^^ x) % 2 = 1 := by
  rw [Nat.xor_mod_two_eq_one]
  rcases Nat.mod_two_eq_zero_or_one x with h1 | h1 <;> rcases Nat.mod_two_eq_zero_or_one y with h2 | h2 <;> simp [h1, h2]
theorem rf_next (r : Nat) (b : UInt8) (q Q : Nat) (h : Rf r b q Q) : stN (q + 1) (r ^^^ b.toNat) = st (Q ^^^ b.toNat / 2 ^ q) := by rw [stN_succ, ← h]
theorem div_next (b q : Nat) : b / 2 ^ (q + 1) = b / 2 ^ q / 2 := by rw [Nat.pow_succ, Nat.div_div_eq_div_mul]
theorem rf_one {r : Nat} {b : UInt8} {q Q : Nat} (h : Rf r b q Q) (hQ : Q < 4294967296)
    (ht : (bits .xor .u32 (bits .and .u32 ((b.toNat : Int) / 2 ^ q % 4294967296) 1) (bits .and .u32 (Q : Int) 1) == 1) = true) :
    bits .xor .u32 ((Q : Int) / 2) 2197175160 = ((Q / 2 ^^^ pol : Nat) : Int) ∧ Q / 2 ^^^ pol < 4294967296 ∧ Rf r b (q + 1) (Q / 2 ^^^ pol) := by
  refine ⟨u32_xor_nat (Q / 2) pol (by omega) (by decide), xor_lt (by omega) (by decide), ?_⟩
  rw [bit_spell b q Q hQ, beq_iff_eq] at ht
  have h1 : (Q ^^^ b.toNat / 2 ^ q) % 2 = 1 := (bit_one _ _).1 (by omega)
  show _ = _
  rw [rf_next r b q Q h, st, if_pos h1, Nat.xor_div_two, div_next, Nat.xor_assoc, Nat.xor_assoc, Nat.xor_comm pol]
theorem rf_zero {r : Nat} {b : UInt8} {q Q : Nat} (h : Rf r b q Q) (hQ : Q < 4294967296)
    (ht : (bits .xor .u32 (bits .and .u32 ((b.toNat : Int) / 2 ^ q % 4294967296) 1) (bits .and .u32 (Q : Int) 1) == 1) = false) :
    ((Q : Int) / 2) = ((Q / 2 : Nat) : Int) ∧ Q / 2 < 4294967296 ∧ Rf r b (q + 1) (Q / 2) := by
  refine ⟨rfl, by omega, ?_⟩
  rw [bit_spell b q Q hQ, beq_eq_false_iff_ne] at ht
  have h1 : ¬ (Q ^^^ b.toNat / 2 ^ q) % 2 = 1 := fun e => ht (by rw [(bit_one _ _).2 e]; rfl)
  show _ = _
  rw [rf_next r b q Q h, st, if_neg h1, Nat.xor_div_two, div_next]
theorem rf_end {r : Nat} {b : UInt8} {Q : Nat} (h : Rf r b 8 Q) : Q = by8 r b := by
  have h' : Q ^^^ b.toNat / 2 ^ 8 = by8 r b := h
  have : b.toNat / 2 ^ 8 = 0 := Nat.div_eq_of_lt (UInt8.toNat_lt b)
  rw [this, Nat.xor_zero] at h'
  exact h'
theorem rf_start (r : Nat) (b : UInt8) : Rf r b 0 r := by
  show _ = _
  rw [Nat.pow_zero, Nat.div_one]; rfl

theorem On_ref (m : Nat) (hm : m < 4294967296) (s : ByteArray) (hs : s.size ≤ maxLen) (w : World) :
    Calls Tryd.prog 28 #[.int .u32 m, .string s] w fun e w' => e = .returned (.int .u32 (onN m s.data.toList : Nat)) ∧ w = w' := by
  unfold maxLen at hs
  have HF := Lib.hid (not_i m hm)
  go_enter Tryd.func28, Tryd.ntmps28
  go_wp2_with fail
  go_loop [5, 6] (fun r i => ∃ (k R : Nat), k ≤ s.size ∧ i = .int .i64 k ∧ r = .int .u32 R ∧ R < 4294967296 ∧ Hid (R = rg (ful ^^^ m) (s.data.toList.take k))) (fun _ i => s.size - (intOf i).toNat)
  case atStart => exact ⟨0, ful ^^^ m, Nat.zero_le _, rfl, by rw [HF.out], xor_lt ful_lt hm, by show _ = _; rw [List.take_zero, rg_nil]⟩
  case round =>
    obtain ⟨k, R, hk, rfl, rfl, hR, HR⟩ := hrel
    by_cases hlt : k < s.size
    · go_wp2_with fail
      go_loop [5, 7] (fun r j => ∃ (q Q : Nat), q ≤ 8 ∧ j = .int .i64 q ∧ r = .int .u32 Q ∧ Q < 4294967296 ∧ Hid (Rf R s[k] q Q)) (fun _ j => 8 - (intOf j).toNat)
      case atStart => exact ⟨0, R, by omega, rfl, rfl, hR, rf_start R s[k]⟩
      case round =>
        obtain ⟨q, Q, hq, rfl, rfl, hQ, HQ⟩ := hrel
        by_cases hq8 : q < 8
        · go_wp2_with fail
          · have E := rf_one HQ.out hQ (by assumption)
            go_round
            case rel => exact ⟨q + 1, _, by omega, by go_num, by rw [E.1], E.2.1, E.2.2⟩
            case measure => simp [intOf]; omega
          · have E := rf_zero HQ.out hQ (by assumption)
            go_round
            case rel => exact ⟨q + 1, _, by omega, by go_num, by rw [E.1], E.2.1, E.2.2⟩
            case measure => simp [intOf]; omega
        · have hq : q = 8 := by omega
          have HE : Hid (Q = by8 R s[k]) := rf_end (by rw [← hq]; exact HQ.out)
          clear hq HQ
          go_wp2_with fail
          go_round
          case rel => exact ⟨k + 1, Q, by omega, by go_num, rfl, hQ, by show _ = _; rw [rg_snoc s k _ hlt, ← HR.out]; exact HE.out⟩
          case measure => simp [intOf]; omega
    · go_wp2_with fail
      go_ret
      refine ⟨ret_int ?_, rfl⟩
      rw [not_i R hR, HR.out, show k = s.size by omega, take_all]
      rfl

theorem Of_ref (s : ByteArray) (hs : s.size ≤ maxLen) (w : World) :
    Calls Tryd.prog 22 #[.string s] w fun e w' => e = .returned (.int .u32 (ofN s.data.toList : Nat)) ∧ w = w' := by
  go_enter Tryd.func22, Tryd.ntmps22
  go_wp2_with fail
  refine (On_ref 0 (by decide) s hs _).mono ?_
  rintro e w1 ⟨rfl, rfl⟩
  go_wp2_with fail
  go_ret
  exact ⟨rfl, rfl⟩

/-- At named results. -/
theorem On_at (m : Nat) (hm : m < 4294967296) (s : ByteArray) (hs : s.size ≤ maxLen) (w : World) (hT : Hid (Tab w)) (n : Nat) (hn : Hid (onN m s.data.toList = n)) :
    Calls Tryd.prog 24 #[.int .u32 m, .string s] w fun e w' => e = .returned (.int .u32 (n : Nat)) ∧ w = w' := by
  rw [← hn.out]
  exact On_any m hm s hs w hT
theorem Of_at (s : ByteArray) (hs : s.size ≤ maxLen) (w : World) (hT : Hid (Tab w)) (n : Nat) (hn : Hid (ofN s.data.toList = n)) :
    Calls Tryd.prog 25 #[.string s] w fun e w' => e = .returned (.int .u32 (n : Nat)) ∧ w = w' := by
  rw [← hn.out]
  exact Of_any s hs w hT

end Go.Proofs.YtjjhgfbemfbplaaDoor
