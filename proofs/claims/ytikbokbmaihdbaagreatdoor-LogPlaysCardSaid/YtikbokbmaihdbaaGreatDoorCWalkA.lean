/-
  Layer 3, plain mathematics: a register that goes down bit by bit; it is linear; what bytes make of it.
  Contracts of layer 3: down, On, Of; the document's On, Of.
-/
import Derived.Test.YtikbokbmaihdbaaGreatDoorProg
import Derived.WalkKit
import Derived.BigCall
import Derived.Lib.OthersKept
import Derived.Lib.Hide
import Derived.IntWalk
import Derived.Below
import Derived.Laws.BitsAllLaws
namespace Go.Proofs.YtikbokbmaihdbaaGreatDoor

def pol : Nat := 2197175160
def ful : Nat := 4294967295
/-- One bit down. -/
def st (r : Nat) : Nat := if r % 2 = 1 then (r / 2) ^^^ pol else r / 2
def stN : Nat → Nat → Nat
  | 0, r => r
  | n + 1, r => stN n (st r)

theorem xor_mix (a b c d : Nat) : (a ^^^ b) ^^^ (c ^^^ d) = (a ^^^ c) ^^^ (b ^^^ d) := by
  rw [Nat.xor_assoc, Nat.xor_assoc, ← Nat.xor_assoc b c d, Nat.xor_comm b c, Nat.xor_assoc c b d]
theorem xor_back (a b : Nat) : a ^^^ (a ^^^ b) = b := by rw [← Nat.xor_assoc, Nat.xor_self, Nat.zero_xor]
theorem xor_lt {a b : Nat} (ha : a < 4294967296) (hb : b < 4294967296) : a ^^^ b < 4294967296 := Nat.xor_lt_two_pow (n := 32) ha hb

theorem st_xor (a b : Nat) : st (a ^^^ b) = st a ^^^ st b := by
  have hm := Nat.xor_mod_two_eq_one (a := a) (b := b)
  have hd : (a ^^^ b) / 2 = a / 2 ^^^ b / 2 := Nat.xor_div_two
  unfold st
  rw [hd]
  by_cases h1 : a % 2 = 1
  · by_cases h2 : b % 2 = 1
    · rw [if_neg (by rw [hm]; simp [h1, h2]), if_pos h1, if_pos h2, xor_mix, Nat.xor_self, Nat.xor_zero]
    · rw [if_pos (by rw [hm]; simp [h1, h2]), if_pos h1, if_neg h2, Nat.xor_assoc, Nat.xor_comm (b / 2) pol, ← Nat.xor_assoc]
  · by_cases h2 : b % 2 = 1
    · rw [if_pos (by rw [hm]; simp [h1, h2]), if_neg h1, if_pos h2, Nat.xor_assoc]
    · rw [if_neg (by rw [hm]; simp [h1, h2]), if_neg h1, if_neg h2]
theorem st_zero : st 0 = 0 := by decide
theorem st_lt {r : Nat} (h : r < 4294967296) : st r < 4294967296 := by
  unfold st
  split
  · exact xor_lt (by omega) (by decide)
  · omega
theorem st_ne {r : Nat} (h : r < 4294967296) (h0 : r ≠ 0) : st r ≠ 0 := by
  unfold st
  split
  · intro e
    have e1 : r / 2 = pol := by
      have := xor_back pol (r / 2)
      rw [Nat.xor_comm pol (r / 2), e, Nat.xor_zero] at this
      exact this.symm
    unfold pol at e1
    omega
  · omega
theorem st_twice (x : Nat) : st (2 * x) = x := by
  unfold st
  rw [if_neg (by omega)]
  omega

theorem stN_xor (n : Nat) : ∀ a b : Nat, stN n (a ^^^ b) = stN n a ^^^ stN n b := by
  induction n with
  | zero => intro a b; rfl
  | succ n ih => intro a b; simp only [stN]; rw [st_xor, ih]
theorem stN_zero (n : Nat) : stN n 0 = 0 := by
  induction n with
  | zero => rfl
  | succ n ih => simp only [stN]; rw [st_zero, ih]
theorem stN_add (m n : Nat) : ∀ r : Nat, stN (m + n) r = stN n (stN m r) := by
  induction m with
  | zero => intro r; simp [stN]
  | succ m ih => intro r; rw [show m + 1 + n = (m + n) + 1 by omega]; simp only [stN]; rw [ih]
theorem stN_succ (n r : Nat) : stN (n + 1) r = st (stN n r) := by rw [stN_add n 1]; rfl
theorem stN_lt (n : Nat) : ∀ {r : Nat}, r < 4294967296 → stN n r < 4294967296 := by
  induction n with
  | zero => intro r h; exact h
  | succ n ih => intro r h; exact ih (st_lt h)
theorem stN_ne (n : Nat) : ∀ {r : Nat}, r < 4294967296 → r ≠ 0 → stN n r ≠ 0 := by
  induction n with
  | zero => intro r _ h; exact h
  | succ n ih => intro r h h0; exact ih (st_lt h) (st_ne h h0)
theorem stN_shift (n x : Nat) : stN n (x <<< n) = x := by
  induction n with
  | zero => rfl
  | succ n ih =>
    simp only [stN]
    rw [show x <<< (n + 1) = 2 * (x <<< n) by simp [Nat.shiftLeft_eq, Nat.pow_succ]; rw [← Nat.mul_assoc, Nat.mul_comm (x * 2 ^ n) 2], st_twice, ih]

theorem split16 (r : Nat) : r = ((r / 16) <<< 4) ^^^ (r % 16) := by
  apply Nat.eq_of_testBit_eq
  intro i
  rw [Nat.testBit_xor, Nat.testBit_shiftLeft, show r / 16 = r / 2 ^ 4 by rfl, show r % 16 = r % 2 ^ 4 by rfl, Nat.testBit_div_two_pow, Nat.testBit_mod_two_pow]
  by_cases h : i < 4
  · simp [h, show ¬ 4 ≤ i by omega]
  · simp [h, show 4 ≤ i by omega]

/-- The table. -/
def tab : List Int := [0, 274646895, 549293790, 820201905, 1098587580, 1361435347, 1640403810, 1905808397, 2197175160, 2460548119, 2722870694, 2987750089, 3280807620, 3553878443, 3811616794, 4084100981]
theorem tab_fin : ∀ x : Fin 16, tab.getD x.val 0 = ((stN 4 x.val : Nat) : Int) := by decide +kernel
theorem tab_at (r : Nat) : tab.getD (r % 16) 0 = ((stN 4 (r % 16) : Nat) : Int) := tab_fin ⟨r % 16, by omega⟩
theorem down_eq (r : Nat) : r / 16 ^^^ stN 4 (r % 16) = stN 4 r := by
  conv => rhs; rw [split16 r]
  rw [stN_xor, stN_shift]

/-- The register behind bytes. -/
def by8 (r : Nat) (b : UInt8) : Nat := stN 8 (r ^^^ b.toNat)
def rg (r : Nat) (l : List UInt8) : Nat := l.foldl by8 r
theorem rg_nil (r : Nat) : rg r [] = r := rfl
theorem rg_cons (r : Nat) (b : UInt8) (l : List UInt8) : rg r (b :: l) = rg (by8 r b) l := rfl
theorem rg_append (a b : List UInt8) (r : Nat) : rg r (a ++ b) = rg (rg r a) b := List.foldl_append
theorem byte_lt (b : UInt8) : b.toNat < 4294967296 := Nat.lt_trans (UInt8.toNat_lt b) (by decide)
theorem by8_lt {r : Nat} (h : r < 4294967296) (b : UInt8) : by8 r b < 4294967296 := stN_lt 8 (xor_lt h (byte_lt b))
theorem rg_lt (l : List UInt8) : ∀ {r : Nat}, r < 4294967296 → rg r l < 4294967296 := by
  induction l with
  | nil => intro r h; exact h
  | cons b l ih => intro r h; rw [rg_cons]; exact ih (by8_lt h b)

/-- The bytes as one number, the first one lowest. -/
def vl : List UInt8 → Nat
  | [] => 0
  | b :: l => b.toNat ^^^ (vl l <<< 8)
theorem rg_eq (l : List UInt8) : ∀ r : Nat, rg r l = stN (8 * l.length) (r ^^^ vl l) := by
  induction l with
  | nil => intro r; rw [rg_nil]; simp [vl, stN]
  | cons b l ih =>
    intro r
    have e : r ^^^ vl (b :: l) = (r ^^^ b.toNat) ^^^ (vl l <<< 8) := by simp only [vl]; rw [Nat.xor_assoc]
    rw [e, List.length_cons, show 8 * (l.length + 1) = 8 + 8 * l.length by omega, stN_add, stN_xor 8, stN_shift]
    rw [rg_cons, ih]
    rfl

/-- One bit of one byte turned. -/
theorem vl_turn (z : Nat) : ∀ (l : List UInt8) (j : Nat) (h : j < l.length) (c : UInt8), c.toNat = l[j].toNat ^^^ z → vl (l.set j c) = vl l ^^^ z <<< (8 * j) := by
  intro l
  induction l with
  | nil => intro j h; simp at h
  | cons b l ih =>
    intro j h c hc
    cases j with
    | zero =>
      simp only [List.getElem_cons_zero] at hc
      simp only [List.set_cons_zero, vl, Nat.mul_zero, Nat.shiftLeft_zero]
      rw [hc, Nat.xor_assoc, Nat.xor_comm z, ← Nat.xor_assoc]
    | succ j =>
      simp only [List.length_cons] at h
      simp only [List.getElem_cons_succ] at hc
      simp only [List.set_cons_succ, vl]
      rw [ih j (by omega) c hc, Nat.shiftLeft_xor_distrib, Nat.xor_assoc, ← Nat.shiftLeft_add, show 8 * j + 8 = 8 * (j + 1) by omega]

/-- The sum of bytes; the sum that goes on. -/
def onN (s : Nat) (l : List UInt8) : Nat := ful ^^^ rg (ful ^^^ s) l
def ofN (l : List UInt8) : Nat := onN 0 l
theorem ful_lt : ful < 4294967296 := by decide
theorem onN_lt {s : Nat} (h : s < 4294967296) (l : List UInt8) : onN s l < 4294967296 := xor_lt ful_lt (rg_lt l (xor_lt ful_lt h))
theorem ofN_lt (l : List UInt8) : ofN l < 4294967296 := onN_lt (by decide) l
theorem on_of (a b : List UInt8) : onN (ofN a) b = ofN (a ++ b) := by
  unfold ofN onN
  rw [xor_back, rg_append]
theorem ful_sub {r : Nat} (h : r < 4294967296) : ful ^^^ r = 4294967295 - r := by
  apply Nat.eq_of_testBit_eq
  intro i
  rw [Nat.testBit_xor, show 4294967295 - r = 2 ^ 32 - (r + 1) by omega, Nat.testBit_two_pow_sub_succ (by omega), show ful = 2 ^ 32 - 1 by rfl, Nat.testBit_two_pow_sub_one]
  by_cases h1 : i < 32
  · simp [h1]
  · have : r.testBit i = false := Nat.testBit_lt_two_pow (Nat.lt_of_lt_of_le (show r < 2 ^ 32 by omega) (Nat.pow_le_pow_right (by decide) (by omega)))
    simp [h1, this]

/-- THE BURST: bits that lie within 32 in a row, turned. -/
theorem burst {a b : List UInt8} {p f : Nat} (hl : a.length = b.length) (hp : p < 4294967296) (hf : f ≤ 8 * a.length) (hv : vl b = vl a ^^^ (p <<< f)) : (ofN b ≠ ofN a) ↔ p ≠ 0 := by
  have e : ofN b = ofN a ^^^ stN (8 * a.length - f) p := by
    unfold ofN onN
    rw [rg_eq, rg_eq, hv, ← hl, ← Nat.xor_assoc, stN_xor (8 * a.length) _ (p <<< f)]
    have : stN (8 * a.length) (p <<< f) = stN (8 * a.length - f) p := by
      conv => lhs; rw [show 8 * a.length = f + (8 * a.length - f) by omega, stN_add, stN_shift]
    rw [this]
    exact (Nat.xor_assoc _ _ _).symm
  constructor
  · intro h h0
    rw [h0, stN_zero, Nat.xor_zero] at e
    exact h e
  · intro h h0
    have := xor_back (ofN a) (stN (8 * a.length - f) p)
    rw [← e, h0, Nat.xor_self] at this
    exact stN_ne _ hp h this.symm

/-- THE MIX: three texts of one length, and that of theirs by exclusive or. -/
theorem mix {s a b c : List UInt8} (ha : a.length = s.length) (hb : b.length = s.length) (hc : c.length = s.length) (hv : vl c = vl s ^^^ vl a ^^^ vl b) : ofN s ^^^ ofN a ^^^ ofN b = ofN c := by
  unfold ofN onN
  rw [rg_eq, rg_eq, rg_eq, rg_eq, ha, hb, hc, hv]
  simp only [stN_xor, Nat.xor_zero]
  simp only [Nat.xor_assoc]
  generalize stN (8 * s.length) ful = F
  generalize stN (8 * s.length) (vl s) = S
  generalize stN (8 * s.length) (vl a) = A
  generalize stN (8 * s.length) (vl b) = B
  generalize ful = G
  apply Nat.eq_of_testBit_eq
  intro i
  simp only [Nat.testBit_xor]
  cases G.testBit i <;> cases F.testBit i <;> cases S.testBit i <;> cases A.testBit i <;> cases B.testBit i <;> rfl

end Go.Proofs.YtikbokbmaihdbaaGreatDoor

namespace Go.Proofs.YtikbokbmaihdbaaGreatDoor
open Go.RowKit

theorem ret_int {k : IntKind} {a b : Int} (h : a = b) : Ending.returned (.int k a) = Ending.returned (.int k b) := by rw [h]
theorem ret_bool {a b : Bool} (h : a = b) : Ending.returned (.bool a) = Ending.returned (.bool b) := by rw [h]

/-- The table lies where it lies. -/
def Tab (w : World) : Prop := ∀ i, i < 16 → w.cell? ⟨0, i, none⟩ = some (.int .u32 (tab.getD i 0))
theorem Tab.below {w w' : World} (h : Tab w) (hb : Below w.heap.size w w') : Tab w' := fun i hi =>
  (hb.cell (p := ⟨0, i, none⟩) (World.block_lt_of_cell? w _ (h i hi))).trans (h i hi)

theorem down_any (r : Nat) (h : r < 4294967296) (w : World) (hT : Hid (Tab w)) :
    Calls Tryz.prog 84 #[.int .u32 r] w fun e w' => e = .returned (.int .u32 (stN 4 r : Nat)) ∧ w = w' := by
  have hc := hT.out (r % 16) (by omega)
  rw [tab_at] at hc
  have hl : stN 4 (r % 16) < 4294967296 := stN_lt 4 (by omega)
  have hx := u32_xor_nat (r / 16) (stN 4 (r % 16)) (by omega) hl
  rw [down_eq] at hx
  go_enter Tryz.func84, Tryz.ntmps84
  go_wp2_with fail
  go_ret
  exact ⟨ret_int hx, rfl⟩

theorem xor_i (a b : Nat) (ha : a < 4294967296) (hb : b < 4294967296) : bits .xor .u32 (a : Int) (b : Int) = ((a ^^^ b : Nat) : Int) := u32_xor_nat a b ha hb
theorem not_i (a : Nat) (ha : a < 4294967296) : bits .xor .u32 IntKind.u32.max (a : Int) = ((ful ^^^ a : Nat) : Int) := u32_xor_nat ful a ful_lt ha
theorem in_i (r : Nat) (hr : r < 4294967296) (b : UInt8) : bits .xor .u32 (r : Int) ((b.toNat : Int) % 4294967296) = ((r ^^^ b.toNat : Nat) : Int) := by
  have h1 := byte_lt b
  have h2 : ((b.toNat : Int) % 4294967296) = (b.toNat : Int) := by omega
  rw [h2]
  exact u32_xor_nat r b.toNat hr h1

theorem down_at (x : Int) (r : Nat) (hx : Hid (x = (r : Int))) (h : r < 4294967296) (w : World) (hT : Hid (Tab w)) :
    Calls Tryz.prog 84 #[.int .u32 x] w fun e w' => e = .returned (.int .u32 (stN 4 r : Nat)) ∧ w = w' := by
  rw [hx.out]
  exact down_any r h w hT

theorem take_snoc (s : ByteArray) (k : Nat) (h : k < s.size) : s.data.toList.take (k + 1) = s.data.toList.take k ++ [s[k]] := by
  rw [List.take_succ_eq_append_getElem (by simpa using h)]; rfl
theorem rg_snoc (s : ByteArray) (k r : Nat) (h : k < s.size) : rg r (s.data.toList.take (k + 1)) = by8 (rg r (s.data.toList.take k)) s[k] := by
  rw [take_snoc s k h, rg_append]; rfl
theorem take_all (s : ByteArray) : s.data.toList.take s.size = s.data.toList := List.take_of_length_le (by simp)

theorem On_any (m : Nat) (hm : m < 4294967296) (s : ByteArray) (hs : s.size ≤ maxLen) (w : World) (hT : Hid (Tab w)) :
    Calls Tryz.prog 77 #[.int .u32 m, .string s] w fun e w' => e = .returned (.int .u32 (onN m s.data.toList : Nat)) ∧ w = w' := by
  unfold maxLen at hs
  have HF := Lib.hid (not_i m hm)
  go_enter Tryz.func77, Tryz.ntmps77
  go_wp2_with fail
  go_loop [5, 11] (fun r i => ∃ (k R : Nat), k ≤ s.size ∧ i = .int .i64 k ∧ r = .int .u32 R ∧ R < 4294967296 ∧ Hid (R = rg (ful ^^^ m) (s.data.toList.take k))) (fun _ i => s.size - (intOf i).toNat)
  case atStart => exact ⟨0, ful ^^^ m, Nat.zero_le _, rfl, by rw [HF.out], xor_lt ful_lt hm, by show _ = _; rw [List.take_zero, rg_nil]⟩
  case round =>
    obtain ⟨k, R, hk, rfl, rfl, hR, HR⟩ := hrel
    by_cases hlt : k < s.size
    · have HX := Lib.hid (in_i R hR s[k])
      have hX := xor_lt hR (byte_lt s[k])
      have h4 := stN_lt 4 hX
      have hb := by8_lt hR s[k]
      go_wp2_with fail
      refine (down_at _ _ HX hX _ hT).mono ?_
      rintro e w1 ⟨rfl, rfl⟩
      go_wp2_with fail
      refine (down_any _ h4 _ hT).mono ?_
      rintro e w2 ⟨rfl, rfl⟩
      go_wp2_with fail
      go_round
      case rel => exact ⟨k + 1, by8 R s[k], by omega, by go_num, by rw [← stN_add 4 4]; rfl, hb, by show _ = _; rw [rg_snoc s k _ hlt, ← HR.out]⟩
      case measure => simp [intOf]; omega
    · go_wp2_with fail
      go_ret
      refine ⟨ret_int ?_, rfl⟩
      rw [not_i R hR, HR.out, show k = s.size by omega, take_all]
      rfl

theorem Of_any (s : ByteArray) (hs : s.size ≤ maxLen) (w : World) (hT : Hid (Tab w)) :
    Calls Tryz.prog 78 #[.string s] w fun e w' => e = .returned (.int .u32 (ofN s.data.toList : Nat)) ∧ w = w' := by
  go_enter Tryz.func78, Tryz.ntmps78
  go_wp2_with fail
  refine (On_any 0 (by decide) s hs _ hT).mono ?_
  rintro e w1 ⟨rfl, rfl⟩
  go_wp2_with fail
  go_ret
  exact ⟨rfl, rfl⟩

/-- At named results. -/
theorem On_at (m : Nat) (hm : m < 4294967296) (s : ByteArray) (hs : s.size ≤ maxLen) (w : World) (hT : Hid (Tab w)) (n : Nat) (hn : Hid (onN m s.data.toList = n)) :
    Calls Tryz.prog 77 #[.int .u32 m, .string s] w fun e w' => e = .returned (.int .u32 (n : Nat)) ∧ w = w' := by
  rw [← hn.out]
  exact On_any m hm s hs w hT
theorem Of_at (s : ByteArray) (hs : s.size ≤ maxLen) (w : World) (hT : Hid (Tab w)) (n : Nat) (hn : Hid (ofN s.data.toList = n)) :
    Calls Tryz.prog 78 #[.string s] w fun e w' => e = .returned (.int .u32 (n : Nat)) ∧ w = w' := by
  rw [← hn.out]
  exact Of_any s hs w hT

end Go.Proofs.YtikbokbmaihdbaaGreatDoor
