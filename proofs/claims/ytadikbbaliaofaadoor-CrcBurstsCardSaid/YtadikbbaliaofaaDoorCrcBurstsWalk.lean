/-
  The walk of the law CrcBursts.
-/
import Derived.Test.YtadikbbaliaofaaDoorCWalkA
import Derived.Test.YtadikbbaliaofaaDoorBRow
import Derived.OpenShut
namespace Go.Proofs.YtadikbbaliaofaaDoor.crcBursts
open Go.RowKit

theorem turn_toNat (X : UInt8) (t : Nat) (ht : t < 8) : (UInt8.ofNat (X.toNat ^^^ 2 ^ t)).toNat = X.toNat ^^^ 2 ^ t := by
  have h : X.toNat ^^^ 2 ^ t < 2 ^ 8 := Nat.xor_lt_two_pow (UInt8.toNat_lt X) (Nat.pow_lt_pow_right (by decide) ht)
  simp only [UInt8.toNat_ofNat']
  exact Nat.mod_eq_of_lt h
theorem turn_byte (X : UInt8) (t : Nat) (ht : t < 8) : bits .xor .u8 (X.toNat : Int) ((2 : Int) ^ t % 256) = ((UInt8.ofNat (X.toNat ^^^ 2 ^ t)).toNat : Int) := by
  have h2 : (2 : Nat) ^ t < 2 ^ 8 := Nat.pow_lt_pow_right (by decide) ht
  have e : ((2 : Int) ^ t % 256) = ((2 ^ t : Nat) : Int) := by
    have e1 : ((2 : Int) ^ t) = ((2 ^ t : Nat) : Int) := by simp
    rw [e1]
    exact Int.emod_eq_of_lt (Int.natCast_nonneg _) (Int.ofNat_lt.2 h2)
  rw [turn_toNat X t ht, e]
  exact u8_xor_nat _ _ (UInt8.toNat_lt X) h2

/-- What one turned bit does to all that the loop knows. -/
theorem turned {w wr : World} {g f q p : Nat} {l : List UInt8} {s : ByteArray} {X : UInt8} (hp : p < 2 ^ q) (hj : (f + q) / 8 < l.length) (hX : X = l[(f + q) / 8])
    (hV : vl l = vl s.data.toList ^^^ (p <<< f)) (hR : BRow wr g l) (hb : Below w.heap.size w wr) (hg : g = w.heap.size) :
    p ^^^ 2 ^ q ≠ 0 ∧ p ^^^ 2 ^ q < 2 ^ (q + 1) ∧ (l.set ((f + q) / 8) (UInt8.ofNat (X.toNat ^^^ 2 ^ ((f + q) % 8)))).length = l.length ∧
    vl (l.set ((f + q) / 8) (UInt8.ofNat (X.toNat ^^^ 2 ^ ((f + q) % 8)))) = vl s.data.toList ^^^ ((p ^^^ 2 ^ q) <<< f) ∧
    BRow (wr.setCell ⟨g, (f + q) / 8, none⟩ (.int .u8 (bits .xor .u8 (X.toNat : Int) ((2 : Int) ^ ((f + q) % 8) % 256)))) g (l.set ((f + q) / 8) (UInt8.ofNat (X.toNat ^^^ 2 ^ ((f + q) % 8)))) ∧
    Below w.heap.size w (wr.setCell ⟨g, (f + q) / 8, none⟩ (.int .u8 (bits .xor .u8 (X.toNat : Int) ((2 : Int) ^ ((f + q) % 8) % 256)))) := by
  have ht : (f + q) % 8 < 8 := Nat.mod_lt _ (by decide)
  refine ⟨?_, ?_, by simp, ?_, ?_, ?_⟩
  · intro e
    have h1 := xor_back p (2 ^ q)
    rw [e, Nat.xor_zero] at h1
    omega
  · exact Nat.xor_lt_two_pow (Nat.lt_trans hp (Nat.pow_lt_pow_right (by decide) (by omega))) (Nat.pow_lt_pow_right (by decide) (by omega))
  · rw [vl_turn (2 ^ ((f + q) % 8)) l _ hj _ (by rw [turn_toNat X _ ht, hX]), hV, Nat.shiftLeft_xor_distrib, Nat.xor_assoc]
    congr 2
    rw [Nat.shiftLeft_eq, Nat.shiftLeft_eq, ← Nat.pow_add, ← Nat.pow_add]
    congr 1
    omega
  · rw [turn_byte X _ ht]
    exact hR.store _ hj _
  · exact hb.setCell (by show w.heap.size ≤ g; omega) _

set_option maxHeartbeats 1000000 in
set_option maxRecDepth 100000 in
theorem walk_n (s : ByteArray) (a b : Nat) (ha : a < 4294967296) (h0 : 0 < s.size) (hs : s.size ≤ 4096) (w : World) (hT : Hid (Tab w)) :
    Calls Tryd.prog 5 #[.string s, .int .u32 a, .int .u32 b] w fun e w' => e = .returned (.bool true) ∧ Below w.heap.size w w' := by
  obtain ⟨cap, w1, hcv, hrow, hbel, hsz⟩ := BRow.conv w s
  have e0 : ((s.size : Int) == 0) = false := by rw [beq_eq_false_iff_ne]; omega
  obtain ⟨g, hg⟩ : ∃ g, g = w.heap.size := ⟨_, rfl⟩
  rw [← hg] at hcv hrow
  have HG := Lib.hid hg
  have Hrow := Lib.hid hrow
  clear hg hrow hsz
  obtain ⟨f, hf⟩ : ∃ f, f = a % (8 * s.size) := ⟨_, rfl⟩
  have hf2 : f < 8 * s.size := by rw [hf]; exact Nat.mod_lt _ (by omega)
  have HF : Hid (Value.int .i64 ((a : Int) % (8 * (s.size : Int))) = .int .i64 (f : Int)) := by show _ = _; rw [hf]; congr 1
  clear hf
  go_enter Tryd.func5, Tryd.ntmps5
  go_wp2_with (simp only [hcv])
  rw [HF.out]
  clear hcv HF
  go_loopw [10, 11] (fun sm k wr => ∃ (q p : Nat) (l : List UInt8) (y : Bool), q ≤ 32 ∧ k = .int .i64 q ∧ sm = .bool y ∧ Hid (y = decide (p ≠ 0)) ∧ p < 2 ^ q ∧ l.length = s.size ∧ Hid (vl l = vl s.data.toList ^^^ (p <<< f)) ∧ Hid (BRow wr g l) ∧ Below w.heap.size w wr) (fun _ k _ => 32 - (intOf k).toNat)
  case atStart => exact ⟨0, 0, s.data.toList, false, by omega, rfl, rfl, rfl, by omega, by simp, by show _ = _; rw [Nat.zero_shiftLeft, Nat.xor_zero], Hrow, hbel⟩
  case round =>
    obtain ⟨q, p, l, y, hq, rfl, rfl, HY, hp, hl, HV, HR, hb⟩ := hrel
    have HP := Lib.hid hp
    have HL := Lib.hid hl
    clear hp hl
    by_cases hgo : q < 32 ∧ f + q < 8 * s.size
    · have c1 := hgo.1
      have c2 := hgo.2
      clear hgo
      have hj : (f + q) / 8 < l.length := by rw [HL.out]; omega
      obtain ⟨X, hX⟩ : ∃ X, X = l[(f + q) / 8] := ⟨_, rfl⟩
      have hc := (HR.out.2 _ hj).1
      have hz := (HR.out.2 _ hj).2
      rw [← hX] at hc
      have HX := Lib.hid hX
      clear hX
      by_cases ht : (bits .and .u32 ((b : Int) / 2 ^ q) 1 == 1) = true
      · go_wp2_with fail
        clear hc hz
        go_roundw
        case rel =>
          have T := turned (w := w) HP.out hj HX.out HV.out HR.out hb HG.out
          exact ⟨q + 1, p ^^^ 2 ^ q, _, true, by omega, by go_num, rfl, by show _ = _; rw [decide_eq_true T.1], T.2.1, T.2.2.1.trans HL.out, T.2.2.2.1, T.2.2.2.2.1, T.2.2.2.2.2⟩
        case measure => simp [intOf]; omega
      · have ht : (bits .and .u32 ((b : Int) / 2 ^ q) 1 == 1) = false := by simpa using ht
        clear hc hz
        go_wp2_with fail
        go_roundw
        case rel => exact ⟨q + 1, p, l, y, by omega, by go_num, rfl, HY, Nat.lt_trans HP.out (Nat.pow_lt_pow_right (by decide) (by omega)), HL.out, HV, HR, hb⟩
        case measure => simp [intOf]; omega
    · have hlen := HL.out
      obtain ⟨S2, hS2⟩ : ∃ S2 : ByteArray, S2 = ⟨l.toArray⟩ := ⟨_, rfl⟩
      have hbk := HR.out.back s.size cap hlen.symm
      rw [← hS2] at hbk
      have hd : S2.data.toList = l := by rw [hS2]
      obtain ⟨n1, hn1⟩ : ∃ n, n = ofN s.data.toList := ⟨_, rfl⟩
      obtain ⟨n2, hn2⟩ : ∃ n, n = ofN S2.data.toList := ⟨_, rfl⟩
      have hB : (n2 ≠ n1) ↔ p ≠ 0 := by
        rw [hn1, hn2, hd]
        exact burst (by rw [hlen]; simp) (Nat.lt_of_lt_of_le HP.out (Nat.pow_le_pow_right (n := 2) (by decide) hq)) (by simp; omega) HV.out
      have h1 : Hid (ofN s.data.toList = n1) := hn1.symm
      have h2 : Hid (ofN S2.data.toList = n2) := hn2.symm
      have hs2 : S2.size ≤ maxLen := by
        have : S2.size = l.length := by rw [← hd]; simp
        unfold maxLen; omega
      have hs1 : s.size ≤ maxLen := by unfold maxLen; omega
      have hT2 : Hid (Tab wr) := hT.out.below hb
      have hY : y = decide (n2 ≠ n1) := by
        rw [HY.out]
        by_cases hp0 : p = 0
        · rw [decide_eq_false (by simp [hp0]), decide_eq_false (fun e => hB.1 e hp0)]
        · rw [decide_eq_true hp0, decide_eq_true (hB.2 hp0)]
      clear hB hn1 hn2 hd hS2 hlen HY HV HR HP HL
      have fin : ∀ (Y : Bool), y = Y → ((n2 : Int) != (n1 : Int)) = Y := by
        intro Y e
        subst e
        rw [hY]
        by_cases h : n2 = n1
        · subst h; simp
        · have h' : (n2 : Int) ≠ n1 := by omega
          simp [h, h']
      have HFin := Lib.hid fin
      clear fin hY
      by_cases c1 : q < 32
      · have c2 : 8 * s.size ≤ f + q := by omega
        clear hgo
        cases y
        all_goals
          have t1 := HFin.out _ rfl
          go_wp2_with (first
            | (go_at_call 8; refine (Of_at S2 hs2 _ hT2 n2 h2).mono ?_; rintro e w' ⟨rfl, rfl⟩)
            | (go_at_call 8; refine (Of_at s hs1 _ hT2 n1 h1).mono ?_; rintro e w' ⟨rfl, rfl⟩)
            | (go_at_call 7; refine (works_any _ hT2).mono ?_; rintro e w' ⟨rfl, rfl⟩))
          go_ret
          exact ⟨rfl, hb⟩
      · clear hgo
        cases y
        all_goals
          have t1 := HFin.out _ rfl
          go_wp2_with (first
            | (go_at_call 8; refine (Of_at S2 hs2 _ hT2 n2 h2).mono ?_; rintro e w' ⟨rfl, rfl⟩)
            | (go_at_call 8; refine (Of_at s hs1 _ hT2 n1 h1).mono ?_; rintro e w' ⟨rfl, rfl⟩)
            | (go_at_call 7; refine (works_any _ hT2).mono ?_; rintro e w' ⟨rfl, rfl⟩))
          go_ret
          exact ⟨rfl, hb⟩

theorem walk (s : ByteArray) (a b : Int) (hs : s.size ≤ maxLen) (ha : (Lit.int .u32 a).wf = true) (hb : (Lit.int .u32 b).wf = true) (w : World) (hT : Tab w) :
    Calls Tryd.prog 5 #[.string s, .int .u32 a, .int .u32 b] w fun e w' => e = .returned (.bool true) ∧ Below w.heap.size w w' := by
  have hab := bounds_u32 ha
  have hbb := bounds_u32 hb
  obtain ⟨a, rfl⟩ := Int.eq_ofNat_of_zero_le hab.1
  obtain ⟨b, rfl⟩ := Int.eq_ofNat_of_zero_le hbb.1
  have hs1 := hs
  unfold maxLen at hs1
  have HT := Lib.hid hT
  clear hT
  by_cases h1 : 4096 < s.size
  · go_enter Tryd.func5, Tryd.ntmps5
    go_wp2_with (go_at_call 7; refine (works_any _ HT).mono ?_; rintro e w' ⟨rfl, rfl⟩)
    go_ret
    exact ⟨rfl, Below.refl _ _⟩
  by_cases h0 : 0 < s.size
  · exact walk_n s a b (by omega) h0 (by omega) w HT
  · have e0 : ((s.size : Int) == 0) = true := by rw [beq_iff_eq]; omega
    go_enter Tryd.func5, Tryd.ntmps5
    go_wp2_with (go_at_call 7; refine (works_any _ HT).mono ?_; rintro e w' ⟨rfl, rfl⟩)
    go_ret
    exact ⟨rfl, Below.refl _ _⟩

end Go.Proofs.YtadikbbaliaofaaDoor.crcBursts
