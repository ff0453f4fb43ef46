/-
  Layer 3: the document's On and Of.
  Layer 6: the document's Four, number, Put, Cut, Scan.
-/
import Derived.Test.YtikbokbmaihdbaaGreatDoorCWalkA
import Derived.Test.YtikbokbmaihdbaaGreatDoorFWalkC
namespace Go.Proofs.YtikbokbmaihdbaaGreatDoor
open Go.RowKit

/-- One bit of the document's loop: what stands in the register, and what of the byte is still to come. -/
def Rf (r : Nat) (b : UInt8) (k R : Nat) : Prop := R ^^^ b.toNat / 2 ^ k = stN k (r ^^^ b.toNat)
theorem one_mod (a : Nat) : a &&& 1 = a % 2 := Nat.and_one_is_mod a
theorem div_small (b : UInt8) (q : Nat) : b.toNat / 2 ^ q < 4294967296 := Nat.lt_of_le_of_lt (Nat.div_le_self _ _) (byte_lt b)
theorem bit_spell (b : UInt8) (q Q : Nat) (hQ : Q < 4294967296) :
    bits .xor .u32 (bits .and .u32 ((b.toNat : Int) / 2 ^ q % 4294967296) 1) (bits .and .u32 (Q : Int) 1) = (((b.toNat / 2 ^ q) % 2 ^^^ Q % 2 : Nat) : Int) := by
  have h1 := div_small b q
  have e1 : ((b.toNat : Int) / 2 ^ q % 4294967296) = ((b.toNat / 2 ^ q : Nat) : Int) := by
    have : ((b.toNat : Int) / 2 ^ q) = ((b.toNat / 2 ^ q : Nat) : Int) := by simp
    rw [this]; exact Int.emod_eq_of_lt (Int.natCast_nonneg _) (Int.ofNat_lt.2 h1)
  have e2 : bits .and .u32 ((b.toNat / 2 ^ q : Nat) : Int) 1 = (((b.toNat / 2 ^ q) % 2 : Nat) : Int) := (u32_and_nat _ 1 h1 (by decide)).trans (by rw [one_mod])
  have e3 : bits .and .u32 (Q : Int) 1 = ((Q % 2 : Nat) : Int) := (u32_and_nat _ 1 hQ (by decide)).trans (by rw [one_mod])
  rw [e1, e2, e3]
  exact u32_xor_nat _ _ (by omega) (by omega)
theorem bit_one (x y : Nat) : (x % 2 ^^^ y % 2 = 1) ↔ (y ^^^ x) % 2 = 1 := by
  rw [Nat.xor_mod_two_eq_one]
  rcases Nat.mod_two_eq_zero_or_one x with h1 | h1 <;> rcases Nat.mod_two_eq_zero_or_one y with h2 | h2 <;> simp [h1, h2]
theorem rf_next (r : Nat) (b : UInt8) (q Q : Nat) (h : Rf r b q Q) : stN (q + 1) (r ^^^ b.toNat) = st (Q ^^^ b.toNat / 2 ^ q) := by rw [stN_succ, ← h]
theorem div_next (b q : Nat) : b / 2 ^ (q + 1) = b / 2 ^ q / 2 := by rw [Nat.pow_succ, Nat.div_div_eq_div_mul]
theorem rf_one {r : Nat} {b : UInt8} {q Q : Nat} (h : Rf r b q Q) (hQ : Q < 4294967296)
    (ht : (bits .xor .u32 (bits .and .u32 ((b.toNat : Int) / 2 ^ q % 4294967296) 1) (bits .and .u32 (Q : Int) 1) == 1) = true) :
    bits .xor .u32 ((Q : Int) / 2) 2197175160 = ((Q / 2 ^^^ pol : Nat) : Int) ∧ Q / 2 ^^^ pol < 4294967296 ∧ Rf r b (q + 1) (Q / 2 ^^^ pol) := by
  refine ⟨u32_xor_nat (Q / 2) pol (by omega) (by decide), xor_lt (by omega) (by decide), ?_⟩
  rw [bit_spell b q Q hQ, beq_iff_eq] at ht
  have h1 : (Q ^^^ b.toNat / 2 ^ q) % 2 = 1 := (bit_one _ _).1 (by omega)
  show _ = _
  rw [rf_next r b q Q h, st, if_pos h1, Nat.xor_div_two, div_next, Nat.xor_assoc, Nat.xor_assoc, Nat.xor_comm pol]
theorem rf_zero {r : Nat} {b : UInt8} {q Q : Nat} (h : Rf r b q Q) (hQ : Q < 4294967296)
    (ht : (bits .xor .u32 (bits .and .u32 ((b.toNat : Int) / 2 ^ q % 4294967296) 1) (bits .and .u32 (Q : Int) 1) == 1) = false) :
    ((Q : Int) / 2) = ((Q / 2 : Nat) : Int) ∧ Q / 2 < 4294967296 ∧ Rf r b (q + 1) (Q / 2) := by
  refine ⟨rfl, by omega, ?_⟩
  rw [bit_spell b q Q hQ, beq_eq_false_iff_ne] at ht
  have h1 : ¬ (Q ^^^ b.toNat / 2 ^ q) % 2 = 1 := fun e => ht (by rw [(bit_one _ _).2 e]; rfl)
  show _ = _
  rw [rf_next r b q Q h, st, if_neg h1, Nat.xor_div_two, div_next]
theorem rf_end {r : Nat} {b : UInt8} {Q : Nat} (h : Rf r b 8 Q) : Q = by8 r b := by
  have h' : Q ^^^ b.toNat / 2 ^ 8 = by8 r b := h
  have : b.toNat / 2 ^ 8 = 0 := Nat.div_eq_of_lt (UInt8.toNat_lt b)
  rw [this, Nat.xor_zero] at h'
  exact h'
theorem rf_start (r : Nat) (b : UInt8) : Rf r b 0 r := by
  show _ = _
  rw [Nat.pow_zero, Nat.div_one]; rfl

theorem On_ref (m : Nat) (hm : m < 4294967296) (s : ByteArray) (hs : s.size ≤ maxLen) (w : World) :
    Calls Tryz.prog 80 #[.int .u32 m, .string s] w fun e w' => e = .returned (.int .u32 (onN m s.data.toList : Nat)) ∧ w = w' := by
  unfold maxLen at hs
  have HF := Lib.hid (not_i m hm)
  go_enter Tryz.func80, Tryz.ntmps80
  go_wp2_with fail
  go_loop [5, 6] (fun r i => ∃ (k R : Nat), k ≤ s.size ∧ i = .int .i64 k ∧ r = .int .u32 R ∧ R < 4294967296 ∧ Hid (R = rg (ful ^^^ m) (s.data.toList.take k))) (fun _ i => s.size - (intOf i).toNat)
  case atStart => exact ⟨0, ful ^^^ m, Nat.zero_le _, rfl, by rw [HF.out], xor_lt ful_lt hm, by show _ = _; rw [List.take_zero, rg_nil]⟩
  case round =>
    obtain ⟨k, R, hk, rfl, rfl, hR, HR⟩ := hrel
    by_cases hlt : k < s.size
    · go_wp2_with fail
      go_loop [5, 7] (fun r j => ∃ (q Q : Nat), q ≤ 8 ∧ j = .int .i64 q ∧ r = .int .u32 Q ∧ Q < 4294967296 ∧ Hid (Rf R s[k] q Q)) (fun _ j => 8 - (intOf j).toNat)
      case atStart => exact ⟨0, R, by omega, rfl, rfl, hR, rf_start R s[k]⟩
      case round =>
        obtain ⟨q, Q, hq, rfl, rfl, hQ, HQ⟩ := hrel
        by_cases hq8 : q < 8
        · go_wp2_with fail
          · have E := rf_one HQ.out hQ (by assumption)
            go_round
            case rel => exact ⟨q + 1, _, by omega, by go_num, by rw [E.1], E.2.1, E.2.2⟩
            case measure => simp [intOf]; omega
          · have E := rf_zero HQ.out hQ (by assumption)
            go_round
            case rel => exact ⟨q + 1, _, by omega, by go_num, by rw [E.1], E.2.1, E.2.2⟩
            case measure => simp [intOf]; omega
        · have hq : q = 8 := by omega
          have HE : Hid (Q = by8 R s[k]) := rf_end (by rw [← hq]; exact HQ.out)
          clear hq HQ
          go_wp2_with fail
          go_round
          case rel => exact ⟨k + 1, Q, by omega, by go_num, rfl, hQ, by show _ = _; rw [rg_snoc s k _ hlt, ← HR.out]; exact HE.out⟩
          case measure => simp [intOf]; omega
    · go_wp2_with fail
      go_ret
      refine ⟨ret_int ?_, rfl⟩
      rw [not_i R hR, HR.out, show k = s.size by omega, take_all]
      rfl

theorem Of_ref (s : ByteArray) (hs : s.size ≤ maxLen) (w : World) :
    Calls Tryz.prog 69 #[.string s] w fun e w' => e = .returned (.int .u32 (ofN s.data.toList : Nat)) ∧ w = w' := by
  go_enter Tryz.func69, Tryz.ntmps69
  go_wp2_with fail
  refine (On_ref 0 (by decide) s hs _).mono ?_
  rintro e w1 ⟨rfl, rfl⟩
  go_wp2_with fail
  go_ret
  exact ⟨rfl, rfl⟩

end Go.Proofs.YtikbokbmaihdbaaGreatDoor

namespace Go.Proofs.YtikbokbmaihdbaaGreatDoor
open Go.RowKit Go.ChangeShapes Go.WideShapes

theorem Of_ref_at (s : ByteArray) (hs : s.size ≤ maxLen) (w : World) (n : Nat) (hn : Hid (ofN s.data.toList = n)) :
    Calls Tryz.prog 69 #[.string s] w fun e w' => e = .returned (.int .u32 (n : Nat)) ∧ w = w' := by
  rw [← hn.out]
  exact Of_ref s hs w

theorem BRow.made (w : World) (l : List UInt8) (cs : List Value) (t : TypeId) (h : cs = l.map (fun b => Value.int .u8 (b.toNat : Int))) : BRow (w.alloc (.cells cs.toArray t)) w.heap.size l := by
  subst h
  refine ⟨by simp, fun j hj => ⟨?_, World.frozen?_alloc_new w _ t j⟩⟩
  rw [cell_of_row _ _ _ _ _ _ (heap_alloc_new w _)]
  simp [hj]

theorem Four_ref (n : Nat) (w : World) : Calls Tryz.prog 68 #[.int .u32 n] w fun e w' => e = .returned (.string (str (le4 n))) ∧ Below w.heap.size w w' := by
  have hcv := (BRow.made w (le4 n) [.int .u8 ((n : Int) % 256), .int .u8 ((n : Int) / 256 % 256), .int .u8 ((n : Int) / 65536 % 256), .int .u8 ((n : Int) / 16777216 % 256)] 5 (by simp [le4])).back 4 4 rfl
  go_enter Tryz.func68, Tryz.ntmps68
  go_wp2_with (simp only [hcv])
  go_ret
  exact ⟨rfl, (Below.refl _ _).alloc (Nat.le_refl _) _⟩

theorem four_ors (s : ByteArray) (h : 4 ≤ s.size) :
    bits .or .u32 (bits .or .u32 (bits .or .u32 ((s[0].toNat : Int) % 4294967296) ((s[1].toNat : Int) % 4294967296 * 256 % 4294967296)) ((s[2].toNat : Int) % 4294967296 * 65536 % 4294967296)) ((s[3].toNat : Int) % 4294967296 * 16777216 % 4294967296) = ((v4 s.data.toList : Nat) : Int) := by
  have hg : ∀ i (hi : i < s.size), s.data.toList.getD i 0 = s[i] := fun i hi => by
    rw [List.getD_eq_getElem?_getD, List.getElem?_eq_getElem (by simpa using hi)]; rfl
  have h1 := (or_byte s.data.toList s[1] 1 (by decide) (hg 1 (by omega))).1
  have h2 := (or_byte s.data.toList s[2] 2 (by decide) (hg 2 (by omega))).1
  have h3 := (or_byte s.data.toList s[3] 3 (by decide) (hg 3 (by omega))).1
  have h0 : ((s[0].toNat : Int) % 4294967296) = ((pv s.data.toList 1 : Nat) : Int) := by
    simp only [pv, hg 0 (by omega)]
    have := UInt8.toNat_lt s[0]
    omega
  rw [show (2 : Int) ^ (8 * 1) = 256 from rfl] at h1
  rw [show (2 : Int) ^ (8 * 2) = 65536 from rfl] at h2
  rw [show (2 : Int) ^ (8 * 3) = 16777216 from rfl] at h3
  rw [h0, h1, h2, h3, pv_four]

theorem number_ref (s : ByteArray) (h : 4 ≤ s.size) (hs : s.size ≤ maxLen) (w : World) (n : Nat) (hn : Hid (v4 s.data.toList = n)) : Calls Tryz.prog 76 #[.string s] w fun e w' => e = .returned (.int .u32 n) ∧ ∃ n, w' = w.drewN n := by
  unfold maxLen at hs
  have g0 : 0 < s.size := by omega
  have g1 : (1 : Int) < s.size := by omega
  have g2 : (2 : Int) < s.size := by omega
  have g3 : (3 : Int) < s.size := by omega
  have HF := Lib.hid (four_ors s h)
  go_enter Tryz.func76, Tryz.ntmps76
  go_wp2_with fail
  go_quiet (fail)
  go_wp2_with fail
  go_ret
  refine ⟨?_, nq, rfl⟩
  have := HF.out
  rw [hn.out] at this
  exact ret_int this

set_option maxHeartbeats 1000000 in
theorem Put_ref (t F : ByteArray) (ht : t.size ≤ 1048576) (w : World) (hF : Hid (str (fr t.data.toList) = F)) :
    Calls Tryz.prog 42 #[.string t] w fun r w' => r = .returned (.string F) ∧ Below w.heap.size w w' := by
  obtain ⟨X, hX⟩ : ∃ X, str (le4 t.size) = X := ⟨_, rfl⟩
  obtain ⟨c, hc⟩ : ∃ c, ck t.data.toList = c := ⟨_, rfl⟩
  obtain ⟨Y, hY⟩ : ∃ Y, str (le4 c) = Y := ⟨_, rfl⟩
  have HXY : Hid (X ++ Y ++ t = F) := by
    show _ = _
    rw [← hF.out, ← hX, ← hY, ← hc]
    conv => lhs; rw [← str_of t]
    rw [str_append, str_append, fr, List.append_assoc, ← size_len]
    rfl
  have HS : Hid (ofN (X ++ t).data.toList = c) := by
    show _ = _
    rw [ByteArray.data_append, Array.toList_append, ← hc, ← hX, ck, ← size_len]; rfl
  have HXz : X.size = 4 := by rw [← hX, str_size]; rfl
  have HYz : Y.size = 4 := by rw [← hY, str_size]; rfl
  have hXs : X.size ≤ 1099511627776 := by omega
  have hYs : Y.size ≤ 1099511627776 := by omega
  have hXm : (X ++ t).size ≤ maxLen := by rw [ByteArray.size_append]; unfold maxLen; omega
  have HXs : (X ++ Y).size ≤ 1099511627776 := by rw [ByteArray.size_append]; omega
  have k1 : ∀ W, Calls Tryz.prog 68 #[.int .u32 (t.size : Int)] W fun e w' => e = .returned (.string X) ∧ Below W.heap.size W w' := fun W => by rw [← hX]; exact Four_ref t.size W
  have k2 : ∀ W, Calls Tryz.prog 68 #[.int .u32 (c : Int)] W fun e w' => e = .returned (.string Y) ∧ Below W.heap.size W w' := fun W => by rw [← hY]; exact Four_ref c W
  have K1 := Lib.hid k1
  have K2 := Lib.hid k2
  have KO := Lib.hid (fun W => Of_ref_at (X ++ t) hXm W c HS)
  have hu : IntKind.u32.wrap (t.size : Int) = t.size := by rw [IntKind.wrap_u32']; omega
  clear hX hc hY HXz HYz k1 k2 hXm
  go_enter Tryz.func42, Tryz.ntmps42
  go_wp2_with fail
  refine (K1.out _).mono ?_
  rintro e w1 ⟨rfl, hb⟩
  have HB1 := Lib.hid hb
  clear hb
  go_wp2_with fail
  refine (KO.out _).mono ?_
  rintro e w2 ⟨rfl, rfl⟩
  go_wp2_with fail
  refine (K2.out _).mono ?_
  rintro e w3 ⟨rfl, hb⟩
  have HB3 := Lib.hid (HB1.out.trans (hb.mono HB1.out.size))
  clear hb HB1
  go_wp2_with fail
  go_ret
  exact ⟨by rw [HXY.out]; rfl, HB3.out⟩

set_option maxHeartbeats 1000000 in
theorem Cut_ref (s T R : ByteArray) (e : Nat) (hs : s.size ≤ 1099511627776) (w : World) (hE : Hid (cE s.data.toList = e)) (hT : Hid (str (cT s.data.toList) = T)) (hR : Hid (str (cR s.data.toList) = R)) :
    Calls Tryz.prog 64 #[.string s] w fun r w' => r = .returned (.tuple #[.string T, .string R, .int .i64 (e : Nat)]) ∧ ∃ n, w' = w.drewN n := by
  have bad : e ≠ 0 → T = ⟨#[]⟩ ∧ R = ⟨#[]⟩ := fun h => ⟨by rw [← hT.out, cT_bad (by rw [hE.out]; exact h)]; rfl, by rw [← hR.out, cR_bad (by rw [hE.out]; exact h)]; rfl⟩
  by_cases h8 : s.size < 8
  · obtain rfl : e = 20 := by rw [← hE.out, cE_short (by rw [← size_len]; exact h8)]
    obtain ⟨rfl, rfl⟩ := bad (by decide)
    clear hE hT hR bad
    go_enter Tryz.func64, Tryz.ntmps64
    go_wp2_with fail
    go_ret3
    exact ⟨rfl, 0, rfl⟩
  have h8' : 8 ≤ s.size := by omega
  obtain ⟨n, hn⟩ : ∃ n, v4 s.data.toList = n := ⟨_, rfl⟩
  have hnl : n < 4294967296 := by rw [← hn]; exact v4_lt _
  have HL8 : Hid (8 ≤ s.data.toList.length) := by show _ ≤ _; rw [← size_len]; exact h8'
  have HN := Lib.hid hn
  have hsm : s.size ≤ maxLen := by unfold maxLen; omega
  have KA := Lib.hid (fun W => number_ref s (by omega) hsm W n hn)
  clear hn h8 hsm
  by_cases h1 : 1048576 < n
  · obtain rfl : e = 4 := by rw [← hE.out, cE_long HL8.out (by rw [HN.out]; exact h1)]
    obtain ⟨rfl, rfl⟩ := bad (by decide)
    clear hE hT hR bad
    go_enter Tryz.func64, Tryz.ntmps64
    go_wp2_with fail
    refine (KA.out _).mono ?_
    rintro e w1 ⟨rfl, hd⟩
    go_wp2_with fail
    go_ret3
    exact ⟨rfl, hd⟩
  by_cases h2 : s.size < 8 + n
  · obtain rfl : e = 20 := by rw [← hE.out, cE_want HL8.out (by rw [HN.out]; omega) (by rw [HN.out, ← size_len]; omega)]
    obtain ⟨rfl, rfl⟩ := bad (by decide)
    clear hE hT hR bad
    go_enter Tryz.func64, Tryz.ntmps64
    go_wp2_with fail
    refine (KA.out _).mono ?_
    rintro e w1 ⟨rfl, hd⟩
    have HD := Lib.hid hd
    clear hd
    go_wp2_with fail
    go_ret3
    exact ⟨rfl, HD.out⟩
  have h2' : 8 + n ≤ s.size := by omega
  have h1' : n ≤ 1048576 := by omega
  obtain ⟨A, hA⟩ : ∃ A, s.extract 0 4 = A := ⟨_, rfl⟩
  obtain ⟨B, hB⟩ : ∃ B, s.extract 4 s.size = B := ⟨_, rfl⟩
  obtain ⟨D, hD⟩ : ∃ D, s.extract 8 (8 + n) = D := ⟨_, rfl⟩
  obtain ⟨Z, hZ⟩ : ∃ Z, s.extract (8 + n) s.size = Z := ⟨_, rfl⟩
  have dA : A.data.toList = s.data.toList.take 4 := by rw [← hA, Lib.extract_data]; rfl
  have dB : B.data.toList = s.data.toList.drop 4 := by rw [← hB, Lib.extract_data, List.take_of_length_le (by simp)]
  have dD : D.data.toList = (s.data.toList.drop 8).take n := by rw [← hD, Lib.extract_data, Nat.add_sub_cancel_left]
  have dZ : Z.data.toList = s.data.toList.drop (8 + n) := by rw [← hZ, Lib.extract_data, List.take_of_length_le (by simp)]
  have zA : A.size ≤ 1099511627776 := by rw [← hA, ByteArray.size_extract]; omega
  have zD : D.size ≤ 1099511627776 := by rw [← hD, ByteArray.size_extract]; omega
  have zB : 4 ≤ B.size ∧ B.size ≤ maxLen := by rw [← hB, ByteArray.size_extract]; unfold maxLen; omega
  have zAD : (A ++ D).size ≤ maxLen := by rw [ByteArray.size_append]; unfold maxLen; omega
  obtain ⟨m1, hm1⟩ : ∃ m, v4 B.data.toList = m := ⟨_, rfl⟩
  obtain ⟨m2, hm2⟩ : ∃ m, ofN (A ++ D).data.toList = m := ⟨_, rfl⟩
  have KB := Lib.hid (fun W => number_ref B zB.1 zB.2 W m1 hm1)
  have KS := Lib.hid (fun W => (Of_ref_at (A ++ D) zAD W m2 hm2).mono (fun _ _ h => And.intro h.1 h.2.symm))
  have E1 : Hid (v4 (s.data.toList.drop 4) = m1) := by show _ = _; rw [← hm1, dB]
  have E2 : Hid (ofN (s.data.toList.take 4 ++ (s.data.toList.drop 8).take (v4 s.data.toList)) = m2) := by show _ = _; rw [← hm2, ByteArray.data_append, Array.toList_append, dA, dD, HN.out]
  have hlen : Hid (8 + v4 s.data.toList ≤ s.data.toList.length) := by show _ ≤ _; rw [HN.out, ← size_len]; exact h2'
  have hv : Hid (v4 s.data.toList ≤ 1048576) := by show _ ≤ _; rw [HN.out]; exact h1'
  have DD := Lib.hid dD
  have DZ := Lib.hid dZ
  have g4 : (4 : Int) ≤ s.size := by omega
  have gn : 8 + (n : Int) ≤ s.size := by omega
  have g8 : (8 : Int) ≤ 8 + n := by omega
  clear hm1 hm2 h1 h2 dA dB dD dZ zB zAD
  by_cases h3 : m1 = m2
  · obtain rfl : e = 0 := by rw [← hE.out, cE_good HL8.out hv.out hlen.out (by rw [E1.out, E2.out, h3])]
    have hTD : Hid (T = D) := by show _ = _; rw [← hT.out, cT, if_pos hE.out, HN.out, ← DD.out, str_of]
    have hRZ : Hid (R = Z) := by show _ = _; rw [← hR.out, cR, if_pos hE.out, HN.out, ← DZ.out, str_of]
    have ht : ((m1 : Int) != (m2 : Int)) = false := by subst h3; simp
    clear bad hE hT hR h3
    go_enter Tryz.func64, Tryz.ntmps64
    go_wp2_with fail
    refine (KA.out _).mono ?_
    rintro e w1 ⟨rfl, hd⟩
    have HW := Lib.hid hd
    clear hd
    go_wp2_with fail
    go_quiet ((first | (go_at_call 76; exact Calls.quiet_of (KB.out _)) | (go_at_call 69; exact Calls.quiet_of_same (KS.out _))))
    obtain ⟨w2, hw2⟩ : ∃ w2, w2 = w1.drewN nq := ⟨_, rfl⟩
    rw [← hw2]
    have HW2 : Hid (∃ n, w2 = w.drewN n) := by obtain ⟨k, hk⟩ := HW.out; exact ⟨k + nq, by rw [hw2, hk, World.drewN_drewN]⟩
    clear hw2 HW
    go_wp2_with fail
    go_quiet (fail)
    go_wp2_with fail
    go_ret3
    obtain ⟨k, hk⟩ := HW2.out
    exact ⟨by rw [hTD.out, hRZ.out, ← hD, ← hZ]; rfl, k + nq, by rw [hk, World.drewN_drewN]⟩
  · obtain rfl : e = 60 := by rw [← hE.out, cE_sum HL8.out hv.out hlen.out (by rw [E1.out, E2.out]; exact h3)]
    obtain ⟨rfl, rfl⟩ := bad (by decide)
    have ht : ((m1 : Int) != (m2 : Int)) = true := by rw [bne_iff_ne]; omega
    clear bad hE hT hR h3
    go_enter Tryz.func64, Tryz.ntmps64
    go_wp2_with fail
    refine (KA.out _).mono ?_
    rintro e w1 ⟨rfl, hd⟩
    have HW := Lib.hid hd
    clear hd
    go_wp2_with fail
    go_quiet ((first | (go_at_call 76; exact Calls.quiet_of (KB.out _)) | (go_at_call 69; exact Calls.quiet_of_same (KS.out _))))
    go_wp2_with fail
    go_ret3
    obtain ⟨k, hk⟩ := HW.out
    exact ⟨rfl, k + nq, by rw [hk, World.drewN_drewN]⟩

set_option maxHeartbeats 1000000 in
theorem Scan_ref0 (s : ByteArray) (hs : s.size ≤ 1048576) (w : World) (ts : List ByteArray) (k e : Nat) (hS : Hid (sc s.data.toList = (ts, k, e))) :
    Calls Tryz.prog 32 #[.string s] w fun r w' => ∃ A cap, r = .returned (.tuple #[.slice A ts.length cap, .int .i64 k, .int .i64 e]) ∧ w'.ownsRow w.heap.size 9 1 (.slice A ts.length cap) ts.length (txt ts) ∧ Below w.heap.size w w' := by
  go_enter Tryz.func32, Tryz.ntmps32
  go_wp2_with fail
  go_loopw [5, 6] (fun tv kv wr => ∃ (i : Nat) (us : List ByteArray), i ≤ s.size ∧ kv = .int .i64 i ∧ us.length ≤ 1000000 ∧ Hid (At s.data.toList i us) ∧ Hid (wr.ownsRow w.heap.size 9 1 tv us.length (txt us)) ∧ Hid (Below w.heap.size w wr)) (fun _ kv _ => s.size - (intOf kv).toNat)
  case atStart => exact ⟨0, [], Nat.zero_le _, rfl, by decide, At.start _, ⟨rfl, .inl ⟨rfl, rfl⟩⟩, Below.refl _ _⟩
  case round =>
    obtain ⟨i, us, hi, rfl, hul, HA, HO, HB⟩ := hrel
    have hsz := HB.out.size
    by_cases hlt : i < s.size
    · obtain ⟨Z, hZ⟩ : ∃ Z, s.extract i s.size = Z := ⟨_, rfl⟩
      have HZ : Hid (Z.data.toList = s.data.toList.drop i) := by show _ = _; rw [← hZ, Lib.extract_data, List.take_of_length_le (by simp)]
      have hZs : Z.size ≤ 1099511627776 := by rw [← hZ, ByteArray.size_extract]; omega
      have hZi : Z.size ≤ s.size - i := by rw [← hZ, ByteArray.size_extract]; omega
      obtain ⟨ce, hce⟩ : ∃ c, cE Z.data.toList = c := ⟨_, rfl⟩
      obtain ⟨T, hT⟩ : ∃ T, str (cT Z.data.toList) = T := ⟨_, rfl⟩
      obtain ⟨R, hR⟩ : ∃ R, str (cR Z.data.toList) = R := ⟨_, rfl⟩
      have HCE := Lib.hid hce
      have HT := Lib.hid hT
      have HR := Lib.hid hR
      clear hce hT hR
      by_cases h0 : ce = 0
      · subst h0
        have hTs : 8 + T.size ≤ Z.size := by rw [← HT.out, str_size, cT_len HCE.out, size_len Z]; exact (cE_zero HCE.out).1
        have hus : us.length + 1 ≤ 1000000 := by have := HA.out.2.1; omega
        have HN : Hid (At s.data.toList (i + (8 + T.size)) (us ++ [T])) := by
          have h := HA.out.step (by rw [← HZ.out]; exact HCE.out)
          rw [← HZ.out, HT.out] at h
          rw [← HT.out, str_size, HT.out]
          exact h
        clear HA
        go_wp2_with fail
        refine (Cut_ref Z T R 0 hZs _ HCE HT HR).mono ?_
        rintro e w2 ⟨rfl, hb⟩
        have HO2 := Lib.hid (owns_below HO.out (of_drewN hb))
        have HB2 := Lib.hid (HB.out.trans (of_drewN hb))
        clear hb HO HB
        go_wp2_with (at_builtin; refine wpList_append_text (by rfl) (.tmp 27) (.tmp 29) (by rfl) w2 T w.heap.size HB2.out.size _ us (by rfl) HO2.out (by omega) (by rfl) rfl ?_; intro v' w3 hown hb)
        have HO3 := Lib.hid hown
        have HB3 := Lib.hid (HB2.out.trans hb)
        clear hown hb HO2 HB2
        go_wp2_with fail
        go_roundw
        case rel => exact ⟨i + (8 + T.size), us ++ [T], by omega, by go_num, by simp; omega, HN, HO3, HB3⟩
        case measure => simp [intOf]; omega
      · have HD : Hid (sc s.data.toList = (us, i, ce)) := by
          have h := HA.out.wrong (by rw [← size_len]; exact hlt) (by rw [← HZ.out, HCE.out]; exact h0)
          rw [← HZ.out, HCE.out] at h
          exact h
        have hne : ((ce : Int) != 0) = true := by rw [bne_iff_ne]; omega
        obtain ⟨rfl, rfl, rfl⟩ : ts = us ∧ k = i ∧ e = ce := by simpa using hS.out.symm.trans HD.out
        obtain ⟨A, cap, rfl, _⟩ := owns_strs HO.out rfl
        have HST := HO
        clear HA h0 HD HO
        go_wp2_with fail
        refine (Cut_ref Z T R e hZs _ HCE HT HR).mono ?_
        rintro e w1 ⟨rfl, hb⟩
        have HS1 := Lib.hid (owns_below HST.out (of_drewN hb))
        have HB1 := Lib.hid (HB.out.trans (of_drewN hb))
        clear hb HST HB
        go_wp2_with fail
        go_ret3
        exact ⟨A, cap, rfl, HS1.out, HB1.out⟩
    · have HD : Hid (sc s.data.toList = (us, i, 0)) := HA.out.done (by rw [← size_len]; exact hlt)
      obtain ⟨rfl, rfl, rfl⟩ : ts = us ∧ k = i ∧ e = 0 := by simpa using hS.out.symm.trans HD.out
      obtain ⟨A, cap, rfl, _⟩ := owns_strs HO.out rfl
      have HST := HO
      clear HA HD HO
      go_wp2_with fail
      go_ret3
      exact ⟨A, cap, rfl, HST.out, HB.out⟩
theorem Scan_ref (s : ByteArray) (hs : s.size ≤ 1048576) (w : World) (ts : List ByteArray) (k e : Nat) (hS : Hid (sc s.data.toList = (ts, k, e))) :
    Calls Tryz.prog 32 #[.string s] w fun r w' => ∃ A cap, r = .returned (.tuple #[.slice A ts.length cap, .int .i64 k, .int .i64 e]) ∧ Strs w' A ts.length ts ∧ Below w.heap.size w w' := by
  refine (Scan_ref0 s hs w ts k e hS).mono ?_
  rintro r w' ⟨A, cap, rfl, h1, h2⟩
  obtain ⟨A2, cap2, he, hst⟩ := owns_strs h1 rfl
  injection he with e1 _ _
  subst e1
  exact ⟨A, cap, rfl, hst, h2⟩

end Go.Proofs.YtikbokbmaihdbaaGreatDoor
