/-
  The walk of the law WireWrites.
-/
import Derived.Test.YteomgaaemlchfaaWAlive
import Derived.Test.YteomgaaemlchfaaWArgs
import Derived.Test.YteomgaaemlchfaaWRef
namespace Go.Proofs.Yteomgaaemlchfaa.wireWrites
open Go.RowKit

theorem rNums_at (A : Option Addr) (n cap : Nat) (N : List Nat) (hn : n ≤ 1000000) (w : World) (hS : Hid (Ints w A n N)) (hN : Hid (∀ x ∈ N, x ≤ 18446744073709551615)) (s : ByteArray) (hs : Hid (str (cat N) = s)) :
    Calls Try.prog 10 #[.slice A n cap] w fun e w' => e = .returned (.string s) ∧ Below w.heap.size w w' := by
  rw [← hs.out]
  exact rNums_any A n cap N hn w hS hN
theorem rTexts_at (A : Option Addr) (n cap : Nat) (ss : List ByteArray) (hn : n ≤ 1000000) (hl : (txs ss).length ≤ 1099511627776) (w : World) (hS : Hid (Strs w A n ss)) (s : ByteArray) (hs : Hid (str (txs ss) = s)) :
    Calls Try.prog 12 #[.slice A n cap] w fun e w' => e = .returned (.string s) ∧ Below w.heap.size w w' := by
  rw [← hs.out]
  exact rTexts_any A n cap ss hn hl w hS
theorem rBool_of (t : Bool) (w : World) (s : ByteArray) (hs : Hid (str [if t then 1 else 0] = s)) : Calls Try.prog 14 #[.bool t] w fun e w' => e = .returned (.string s) ∧ w = w' := by
  rw [← hs.out]
  exact rBool_any t w

set_option maxRecDepth 100000 in
set_option maxHeartbeats 1000000 in
theorem walk0 (A : Option Addr) (n cap : Nat) (N : List Nat) (B : Option Addr) (m cap' : Nat) (ss : List ByteArray) (t : Bool) (W : World) (hS : Hid (Ints W A n N)) (hN : Hid (∀ x ∈ N, x ≤ 18446744073709551615))
    (hT : Hid (Strs W B m ss)) (hs : Hid (∀ s ∈ ss, s.size ≤ 140737488351232)) (hm : m ≤ 140737488351232) :
    Calls Try.prog 3 #[.slice A n cap, .slice B m cap', .bool t] W fun e w' => e = .returned (.bool true) ∧ Below W.heap.size W w' := by
  have HL := Lib.hid hT.out.len
  go_enter Try.func3, Try.ntmps3
  go_wp2_with fail
  go_loop [7, 8] (fun nv iv => ∃ (i c : Nat), i ≤ m ∧ iv = .int .i64 i ∧ nv = .int .i64 c ∧ c ≤ 140737488400000 ∧ Hid (c = tot (ss.take i))) (fun _ iv => m - (intOf iv).toNat)
  case atStart => exact ⟨0, 0, Nat.zero_le _, rfl, rfl, by decide, by show _ = _; rfl⟩
  case round =>
    obtain ⟨i, c, hi, rfl, rfl, hc, HC⟩ := hrel
    by_cases hlt : i < m
    · by_cases hcl : c < 16384
      · have hil : i < ss.length := by rw [HL.out]; exact hlt
        obtain ⟨b, off, rfl, hbl, hcell⟩ := hT.out.cell i hil
        obtain ⟨s, hse⟩ : ∃ s, ss[i] = s := ⟨_, rfl⟩
        rw [hse] at hcell
        have hsz : s.size ≤ 140737488351232 := by rw [← hse]; exact hs.out _ (List.getElem_mem hil)
        have HE : Hid (c + 1 + s.size = tot (ss.take (i + 1))) := by show _ = _; rw [tot_snoc ss i hil, hse, HC.out]
        clear hse HC
        go_wp2_with fail
        go_round
        case rel => exact ⟨i + 1, c + 1 + s.size, by omega, by go_num, by go_num, by omega, HE⟩
        case measure => simp [intOf]; omega
      · have HB : Below W.heap.size W W := Below.refl _ _
        by_cases hn : 500 < n
        all_goals
          go_wp2_with (go_at_call 8; refine (alive_any _).mono ?_; rintro e w' ⟨rfl, hb⟩; replace HB := HB.trans (hb.mono HB.size); clear hb)
          go_ret
          exact ⟨rfl, HB⟩
    · by_cases hcl : c < 16384
      · have HB : Below W.heap.size W W := Below.refl _ _
        by_cases hn : 500 < n
        · go_wp2_with (go_at_call 8; refine (alive_any _).mono ?_; rintro e w' ⟨rfl, hb⟩; replace HB := HB.trans (hb.mono HB.size); clear hb)
          go_ret
          exact ⟨rfl, HB⟩
        · have HC' : Hid (c = tot ss) := by
            have h := HC.out
            rw [List.take_of_length_le (by rw [HL.out]; omega)] at h
            exact h
          have hml : m ≤ 16384 := by
            have h1 := tot_len ss
            rw [HL.out, ← HC'.out] at h1
            omega
          have htl : (txs ss).length ≤ 1099511627776 := by
            have h1 := txs_tot ss
            rw [← HC'.out] at h1
            omega
          obtain ⟨X, hX⟩ : ∃ X, str (cat N) = X := ⟨_, rfl⟩
          obtain ⟨Y, hY⟩ : ∃ Y, str (txs ss) = Y := ⟨_, rfl⟩
          obtain ⟨Z, hZ⟩ : ∃ Z, str [if t then 1 else 0] = Z := ⟨_, rfl⟩
          have HX := Lib.hid hX
          have HY := Lib.hid hY
          have HZ := Lib.hid hZ
          have Htl := Lib.hid htl
          clear hX hY hZ HC HC' htl
          go_wp2_with fail
          refine (Nums_at A n cap N (by omega) _ hS hN X HX).mono ?_
          rintro e w1 ⟨rfl, hb1⟩
          go_wp2_with fail
          refine (rNums_at A n cap N (by omega) _ (hS.out.below hb1) hN X HX).mono ?_
          rintro e w2 ⟨rfl, hb2⟩
          have HB2 := hb1.trans (hb2.mono hb1.size)
          clear hb1 hb2
          go_wp2_with fail
          refine (Texts_at B m cap' ss (by omega) Htl.out _ (hT.out.below HB2) Y HY).mono ?_
          rintro e w3 ⟨rfl, hb3⟩
          have HB3 := HB2.trans (hb3.mono HB2.size)
          clear HB2 hb3
          go_wp2_with fail
          refine (rTexts_at B m cap' ss (by omega) Htl.out _ (hT.out.below HB3) Y HY).mono ?_
          rintro e w4 ⟨rfl, hb4⟩
          have HB4 := HB3.trans (hb4.mono HB3.size)
          clear HB3 hb4
          go_wp2_with fail
          refine (Bool_of t _ Z HZ).mono ?_
          rintro e w5 ⟨rfl, rfl⟩
          go_wp2_with fail
          refine (rBool_of t _ Z HZ).mono ?_
          rintro e w5 ⟨rfl, rfl⟩
          go_wp2_with fail
          refine (alive_any _).mono ?_
          rintro e w5 ⟨rfl, hb5⟩
          have HB5 := HB4.trans (hb5.mono HB4.size)
          clear HB4 hb5
          go_wp2_with fail
          go_ret
          exact ⟨rfl, HB5⟩
      · have HB : Below W.heap.size W W := Below.refl _ _
        by_cases hn : 500 < n
        all_goals
          go_wp2_with (go_at_call 8; refine (alive_any _).mono ?_; rintro e w' ⟨rfl, hb⟩; replace HB := HB.trans (hb.mono HB.size); clear hb)
          go_ret
          exact ⟨rfl, HB⟩

theorem walk (A : Option Addr) (n cap : Nat) (Z : List Int) (B : Option Addr) (m cap' : Nat) (ss : List ByteArray) (t : Bool) (W : World) (h : SliceView W .u64 A n cap Z) (k : StrsView W B m cap' ss) :
    Calls Try.prog 3 #[.slice A n cap, .slice B m cap', .bool t] W fun e w' => e = .returned (.bool true) ∧ Below W.heap.size W w' := by
  obtain ⟨N, h1, h2⟩ := ints_of_view h
  exact walk0 A n cap N B m cap' ss t W h1 h2 k.row k.short (by have := k.few; omega)

end Go.Proofs.Yteomgaaemlchfaa.wireWrites
