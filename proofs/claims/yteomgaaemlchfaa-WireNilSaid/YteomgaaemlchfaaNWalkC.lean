/-
  Contract of layer 2's Read.
-/
import Derived.Test.YteomgaaemlchfaaNWalkB
import Derived.WalkMore
import Derived.Deep.LoopGhost
namespace Go.Proofs.Yteomgaaemlchfaa
open Go.RowKit

def rdAs (s : ByteArray) (i a : Nat) : Nat × Nat × Nat := rdA (10 - i) (s.data.toList.drop i) i a
theorem rdAs_end (s : ByteArray) (i a : Nat) (h : i < 10) (he : i = s.size) : rdAs s i a = (0, 0, 20) := by
  unfold rdAs
  rw [List.drop_of_length_le (by rw [he]; simp), show 10 - i = (9 - i) + 1 by omega]
  rfl
theorem rdAs_over (s : ByteArray) (i a : Nat) (h : ¬ i < 10) : rdAs s i a = (0, 0, 9) := by
  unfold rdAs
  rw [show 10 - i = 0 by omega]
  rfl
theorem rdAs_step (s : ByteArray) (i a : Nat) (h : i < 10) (hl : i < s.size) : rdAs s i a =
    if 128 ≤ s[i].toNat then rdAs s (i + 1) (a + (s[i].toNat - 128) * 2 ^ (7 * i))
    else if 64 < Lib.bitLen s[i].toNat + 7 * i then (0, 0, 9)
    else if s[i].toNat = 0 ∧ 0 < i then (0, 0, 8)
    else (a + s[i].toNat * 2 ^ (7 * i), i + 1, 0) := by
  unfold rdAs
  have hd : s.data.toList.drop i = s[i] :: s.data.toList.drop (i + 1) := by
    rw [List.drop_eq_getElem_cons (by simpa using hl)]; rfl
  rw [hd, show 10 - i = (9 - i) + 1 by omega, show 10 - (i + 1) = 9 - i by omega]
  rfl

/-- What stands in the number behind a byte that is not the last one: below the tenth byte nothing is lost. -/
theorem or_more (a c i : Nat) (ha : a < 2 ^ (7 * i)) (hc : c < 128) (hi : i < 9) :
    bits .or .u64 (a : Int) (IntKind.u64.wrap ((c : Int) * 2 ^ (7 * i))) = ((a + c * 2 ^ (7 * i) : Nat) : Int) ∧ a + c * 2 ^ (7 * i) < 2 ^ (7 * (i + 1)) := by
  have e : (2 : Nat) ^ (7 * (i + 1)) = 128 * 2 ^ (7 * i) := by rw [show 7 * (i + 1) = 7 + 7 * i by omega, Nat.pow_add]
  have h1 : c * 2 ^ (7 * i) ≤ 127 * 2 ^ (7 * i) := Nat.mul_le_mul_right _ (by omega)
  have h2 : (2 : Nat) ^ (7 * (i + 1)) ≤ 2 ^ 63 := Nat.pow_le_pow_right (by decide) (by omega)
  have h3 : a + c * 2 ^ (7 * i) < 2 ^ (7 * (i + 1)) := by rw [e]; omega
  refine ⟨?_, h3⟩
  have hw : IntKind.u64.wrap ((c : Int) * 2 ^ (7 * i)) = ((c * 2 ^ (7 * i) : Nat) : Int) := by
    rw [IntWalk.u64_in _ ⟨by simpa using Int.natCast_nonneg (c * 2 ^ (7 * i)), by have : ((c : Int) * 2 ^ (7 * i)) = ((c * 2 ^ (7 * i) : Nat) : Int) := by simp
                                                                                  omega⟩]
    simp
  rw [hw, u64_or_nat a _ (by omega) (by omega), Nat.or_comm, nat_join (7 * i) (c * 2 ^ (7 * i)) a (by simp) ha, Nat.add_comm]

theorem or_last (a c i : Nat) (ha : a < 2 ^ (7 * i)) (hc : c < 128) (hi : i < 10) (hl : Lib.bitLen c + 7 * i ≤ 64) :
    bits .or .u64 (a : Int) (IntKind.u64.wrap ((c : Int) * 2 ^ (7 * i))) = ((a + c * 2 ^ (7 * i) : Nat) : Int) := by
  by_cases h9 : i < 9
  · exact (or_more a c i ha hc h9).1
  · obtain rfl : i = 9 := by omega
    have hc2 : c < 2 := by
      have : ∀ n : Fin 128, Lib.bitLen n.val ≤ 1 → n.val < 2 := by decide +kernel
      exact this ⟨c, hc⟩ (by simp only; omega)
    have hw : IntKind.u64.wrap ((c : Int) * 2 ^ (7 * 9)) = ((c * 2 ^ (7 * 9) : Nat) : Int) := by
      rw [IntWalk.u64_in _ (by omega)]; simp
    rw [hw, u64_or_nat a _ (by omega) (by omega), Nat.or_comm, nat_join (7 * 9) (c * 2 ^ (7 * 9)) a (by omega) ha, Nat.add_comm]

theorem or_zero (a : Nat) (ha : a ≤ 18446744073709551615) : bits .or .u64 (a : Int) 0 = a := by
  have := u64_or_nat a 0 (by omega) (by omega)
  simpa using this
theorem or_any (a : Nat) (x : Int) (ha : a ≤ 18446744073709551615) : ∃ b : Nat, bits .or .u64 (a : Int) (IntKind.u64.wrap x) = b ∧ b ≤ 18446744073709551615 := by
  have h1 : 0 ≤ IntKind.u64.wrap x ∧ IntKind.u64.wrap x < 18446744073709551616 := by rw [IntKind.wrap_u64]; omega
  refine ⟨_, u64_or (a : Int) (IntKind.u64.wrap x) (by omega) (by omega) h1.1 h1.2, ?_⟩
  have := Nat.or_lt_two_pow (n := 64) (x := ((a : Int)).toNat) (y := (IntKind.u64.wrap x).toNat) (by omega) (by omega)
  omega

theorem ret_rd {n k e : Int} {t : Nat × Nat × Nat} (h : Hid (t = (n.toNat, k.toNat, e.toNat))) (h1 : 0 ≤ n) (h2 : 0 ≤ k) (h3 : 0 ≤ e) :
    Ending.returned (.tuple #[.int .u64 n, .int .i64 k, .int .i64 e]) = Ending.returned (.tuple #[.int .u64 (t.1 : Nat), .int .i64 (t.2.1 : Nat), .int .i64 (t.2.2 : Nat)]) := by
  rw [h.out]
  simp only [Int.toNat_of_nonneg h1, Int.toNat_of_nonneg h2, Int.toNat_of_nonneg h3]

set_option maxRecDepth 100000 in
set_option maxHeartbeats 1000000 in
theorem Read_any (s : ByteArray) (w : World) (hs : s.size ≤ maxLen) :
    Calls Try.prog 29 #[.string s] w fun e w' => e = .returned (.tuple #[.int .u64 ((rdN s.data.toList).1 : Nat), .int .i64 ((rdN s.data.toList).2.1 : Nat), .int .i64 ((rdN s.data.toList).2.2 : Nat)]) ∧ w = w' := by
  unfold maxLen at hs
  obtain ⟨R, hR⟩ : ∃ R, rdN s.data.toList = R := ⟨_, rfl⟩
  rw [hR]
  have HR : Hid (rdAs s 0 0 = R) := hR
  clear hR
  go_enter Try.func29, Try.ntmps29
  go_wp2
  go_step3
  go_wp2
  go_step3
  go_wp2
  go_loop [2, 4, 6] (fun n e k => ∃ (i a : Nat), n = .int .u64 a ∧ e = .int .i64 9 ∧ k = .int .i64 i ∧ i ≤ 10 ∧ i ≤ s.size ∧ a ≤ 18446744073709551615 ∧ Hid (i ≤ 9 → a < 2 ^ (7 * i)) ∧ Hid (rdAs s i a = R)) (fun _ _ k => 10 - (intOf k).toNat)
  case atStart => exact ⟨0, 0, rfl, rfl, rfl, by omega, by omega, by omega, fun _ => by simp, HR⟩
  case round =>
    clear HR
    obtain ⟨i, a, rfl, rfl, rfl, hi, his, ha, HA, HR⟩ := hrel
    by_cases h10 : i < 10
    · by_cases h0 : i = s.size
      · have HE : Hid (R = (0, 0, 20)) := HR.out.symm.trans (rdAs_end s i a h10 h0)
        clear HR HA
        go_wp2_with fail
        go_ret3
        exact ⟨ret_rd HE (by decide) (by decide) (by decide), rfl⟩
      · have hlt : i < s.size := by omega
        have HS := Lib.hid (rdAs_step s i a h10 hlt)
        have hc8 : s[i].toNat < 256 := UInt8.toNat_lt s[i]
        by_cases h1 : 128 ≤ s[i].toNat
        · have HN := Lib.hid (HR.out.symm.trans (HS.out.trans (if_pos h1)))
          have HO := Lib.hid (fun (h9 : i < 9) => or_more a (s[i].toNat - 128) i (HA.out (by omega)) (by omega) h9)
          clear HR HS
          go_wp2_with fail
          go_roundw
          case rel =>
            by_cases h9 : i < 9
            · have E := HO.out h9
              refine ⟨i + 1, _, ?_, rfl, by go_num, by omega, by omega, ?_, fun _ => E.2, HN.out.symm⟩
              · rw [← E.1, Int.natCast_sub h1]; rfl
              · have := Nat.pow_le_pow_right (n := 2) (by decide) (show 7 * (i + 1) ≤ 63 by omega); omega
            · obtain ⟨b, hb, hb2⟩ := or_any a (((s[i].toNat : Int) - 128) * 2 ^ (7 * i)) ha
              refine ⟨i + 1, b, by rw [hb], rfl, by go_num, by omega, by omega, hb2, fun h => by omega, ?_⟩
              have HN' := HN.out
              rw [rdAs_over _ _ _ (by omega)] at HN'
              rw [HN']
              exact rdAs_over _ _ _ (by omega)
          case measure => simp [intOf]; omega
        · have hb := (bitLen_small ⟨s[i].toNat, by omega⟩).1
          by_cases h2 : 64 < Lib.bitLen s[i].toNat + 7 * i
          · have HE : Hid (R = (0, 0, 9)) := HR.out.symm.trans (HS.out.trans ((if_neg h1).trans (if_pos h2)))
            clear HR HS HA
            go_wp2_with (go_at_call 38; refine (Try.bits_Len8 _ _ (by omega) (by omega)).mono ?_; rintro e w' ⟨rfl, rfl⟩)
            rw [Exit.noGoto_ret]
            go_ret3
            exact ⟨ret_rd HE (by decide) (by decide) (by decide), rfl⟩
          · by_cases h3 : s[i].toNat = 0
            · have hb0 : Lib.bitLen 0 = 0 := rfl
              by_cases h4 : 0 < i
              · have HE : Hid (R = (0, 0, 8)) := HR.out.symm.trans (HS.out.trans ((if_neg h1).trans ((if_neg h2).trans (if_pos ⟨h3, h4⟩))))
                clear HR HS HA
                go_wp2_with (go_at_call 38; refine (Try.bits_Len8 _ _ (by omega) (by omega)).mono ?_; rintro e w' ⟨rfl, rfl⟩)
                rw [Exit.noGoto_ret]
                go_ret3
                exact ⟨ret_rd HE (by decide) (by decide) (by decide), rfl⟩
              · have HE := Lib.hid (HR.out.symm.trans (HS.out.trans ((if_neg h1).trans ((if_neg h2).trans (if_neg (by omega))))))
                clear HR HS HA
                go_wp2_with (go_at_call 38; refine (Try.bits_Len8 _ _ (by omega) (by omega)).mono ?_; rintro e w' ⟨rfl, rfl⟩)
                rw [Exit.noGoto_ret]
                go_ret3
                exact ⟨ret_rd (by show _ = _; rw [HE.out, or_zero a ha, h3, Nat.zero_mul, Nat.add_zero]; rfl) (by rw [or_zero a ha]; omega) (by omega) (by omega), rfl⟩
            · have HE := Lib.hid (HR.out.symm.trans (HS.out.trans ((if_neg h1).trans ((if_neg h2).trans (if_neg (by omega))))))
              have HO := Lib.hid (or_last a s[i].toNat i (HA.out (by omega)) (by omega) h10 (by omega))
              clear HR HS HA
              go_wp2_with (go_at_call 38; refine (Try.bits_Len8 _ _ (by omega) (by omega)).mono ?_; rintro e w' ⟨rfl, rfl⟩)
              rw [Exit.noGoto_ret]
              go_ret3
              exact ⟨ret_rd (by show _ = _; rw [HE.out, HO.out]; rfl) (by rw [HO.out]; omega) (by omega) (by omega), rfl⟩
    · have HE : Hid (R = (0, 0, 9)) := HR.out.symm.trans (rdAs_over s i a h10)
      clear HR HA
      go_wp2_with fail
      go_ret3
      exact ⟨ret_rd HE (by decide) (by decide) (by decide), rfl⟩

end Go.Proofs.Yteomgaaemlchfaa
