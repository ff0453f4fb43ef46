/-
  The walk of the law NumRow.
-/
import Derived.Test.YtlikbkffadpbeaaNWorks
import Derived.Test.YtlikbkffadpbeaaArgs
import Derived.OpenShut
import Derived.Deep.LoopGhost
namespace Go.Proofs.Ytlikbkffadpbeaa.numRow
open Go.RowKit

def cat (N : List Nat) : List UInt8 := N.flatMap ub
theorem cat_len (N : List Nat) : (cat N).length ≤ 10 * N.length := by
  induction N with
  | nil => simp [cat]
  | cons n N ih =>
    have := ub_le n
    simp only [cat, List.flatMap_cons, List.length_append, List.length_cons] at *
    omega
theorem cat_snoc (N : List Nat) (k : Nat) (h : k < N.length) : cat (N.take (k + 1)) = cat (N.take k) ++ ub (N.getD k 0) := by
  have e : N.getD k 0 = N[k] := by simp [List.getD, List.getElem?_eq_getElem h]
  rw [List.take_succ_eq_append_getElem h, e]
  unfold cat
  rw [List.flatMap_append]
  simp only [List.flatMap_cons, List.flatMap_nil, List.append_nil]
theorem cat_cons (N : List Nat) (k : Nat) (h : k < N.length) : cat (N.drop k) = ub (N.getD k 0) ++ cat (N.drop (k + 1)) := by
  have e : N.getD k 0 = N[k] := by simp [List.getD, List.getElem?_eq_getElem h]
  rw [List.drop_eq_getElem_cons h, e]
  unfold cat
  rw [List.flatMap_cons]
theorem str_size (l : List UInt8) : (str l).size = l.length := by show l.toArray.size = _; simp
theorem str_app (a b : List UInt8) : str a ++ str b = str (a ++ b) := by
  apply ByteArray.ext
  simp [str]

/-- What the argument is: the numbers N, where they lie. -/
def Lies (W : World) (A : Option Addr) (len : Nat) (N : List Nat) : Prop :=
  ∀ k, k < len → ∃ b off, A = some ⟨b, off, none⟩ ∧ b < W.heap.size ∧ W.cell? ⟨b, off + k, none⟩ = some (.int .u64 ((N.getD k 0 : Nat) : Int))

theorem Read_short (n k : Nat) (w : World) (X : ByteArray) (hX : Hid (str (ub n) = X)) (hk : k < X.size) :
    Calls Try.prog 8 #[.string (X.extract 0 k)] w fun r w' => r = .returned (.tuple #[.int .u64 0, .int .i64 0, .int .i64 20]) ∧ w = w' := by
  refine (Read_at (X.extract 0 k) w ?_ 0 0 20 ?_)
  · have := ub_le n
    rw [ByteArray.size_extract, ← hX.out, str_size]; unfold maxLen; omega
  · show _ = _
    rw [← hX.out] at hk ⊢
    rw [Lib.extract_data, List.drop_zero, Nat.sub_zero]
    exact rdN_short n k (by rw [str_size] at hk; exact hk)

theorem Size_at (n : Nat) (w : World) (h : n ≤ 18446744073709551615) (m : Nat) (hm : Hid (m = (ub n).length)) :
    Calls Try.prog 13 #[.int .u64 n] w fun e w' => e = .returned (.int .i64 (m : Nat)) ∧ w = w' := by
  rw [hm.out]
  exact Size_any n w h

set_option maxHeartbeats 1000000 in
set_option maxRecDepth 100000 in
theorem walk_small (A : Option Addr) (len cap : Nat) (N : List Nat) (hN : N.length = len) (hl : len ≤ 500) (hw : ∀ n ∈ N, n ≤ 18446744073709551615) (w : World) (HL : Hid (Lies w A len N)) :
    Calls Try.prog 5 #[.slice A len cap] w fun e w' => e = .returned (.bool true) ∧ Below w.heap.size w w' := by
  have HN := Lib.hid hN
  have HW := Lib.hid hw
  clear hN hw
  go_enter Try.func5, Try.ntmps5
  go_wp2_with fail
  go_loopw [3, 4] (fun s i wr => ∃ (k : Nat) (S : ByteArray), k ≤ len ∧ i = .int .i64 k ∧ s = .string S ∧ S.size ≤ 10 * k ∧ Hid (S = str (cat (N.take k))) ∧ Below w.heap.size w wr) (fun _ i _ => len - (intOf i).toNat)
  case atStart => exact ⟨0, ⟨#[]⟩, by omega, rfl, rfl, Nat.le_refl _, by show _ = _; rfl, Below.refl _ _⟩
  case round =>
    obtain ⟨k, S, hk, rfl, rfl, hS, HS, hbw⟩ := hrel
    by_cases hlt : k < len
    · obtain ⟨b, off, rfl, hbs, hcx⟩ := HL.out k hlt
      obtain ⟨n, hn⟩ : ∃ n, n = N.getD k 0 := ⟨_, rfl⟩
      rw [← hn] at hcx
      have hcw : wr.cell? ⟨b, off + k, none⟩ = some (.int .u64 (n : Int)) := (hbw.cell (by exact hbs)).trans hcx
      have hn2 : n ≤ 18446744073709551615 := by
        have hkl : k < N.length := by rw [HN.out]; exact hlt
        have := HW.out (N[k]) (List.getElem_mem hkl)
        rw [hn]; simpa [List.getD, hkl] using this
      have Hn := Lib.hid hn
      clear hn hcx
      obtain ⟨X, hX⟩ : ∃ X, X = str (ub n) := ⟨_, rfl⟩
      have HX : Hid (str (ub n) = X) := hX.symm
      have hl1 : 1 ≤ X.size := by rw [hX, str_size]; exact ub_pos n
      have hl2 : X.size ≤ 10 := by rw [hX, str_size]; exact ub_le n
      clear hX
      go_wp2_with fail
      refine (Up_at n _ hn2 X HX).mono ?_
      rintro e w1 ⟨rfl, hb1⟩
      have HB1 : Below w.heap.size w w1 := hbw.trans (hb1.mono hbw.size)
      clear hb1 hcw
      go_wp2_with fail
      go_loop [6] (fun j => ∃ q : Nat, q ≤ X.size ∧ j = .int .i64 q) (fun j => X.size - (intOf j).toNat)
      case atStart => exact ⟨0, Nat.zero_le _, rfl⟩
      case round =>
        obtain ⟨q, hq, rfl⟩ := hrel
        by_cases hqx : q < X.size
        · have K := Lib.hid (fun W => Read_short n q W X HX hqx)
          go_wp2_with fail
          refine (K.out _).mono ?_
          rintro e w2 ⟨rfl, rfl⟩
          go_wp2_with fail
          go_round
          case rel => exact ⟨q + 1, by omega, by go_num⟩
          case measure => simp [intOf]; omega
        · go_wp2_with fail
          go_roundw
          case rel =>
            have hkl : k < N.length := by rw [HN.out]; exact hlt
            exact ⟨k + 1, S ++ X, by omega, by go_num, rfl, by rw [ByteArray.size_append]; omega, by show _ = _; rw [cat_snoc N k hkl, ← str_app, HS.out, ← Hn.out, HX.out], HB1⟩
          case measure => simp [intOf]; omega
    · go_wp2_with fail
      have hke : k = len := by omega
      have HS2 : Hid (S = str (cat N)) := by have := HS.out; rw [hke, ← HN.out, List.take_length] at this; exact this
      have hS2 : S.size ≤ 5000 := by omega
      clear hke HS hS
      go_loopw [3, 10] (fun s i wr => ∃ (k : Nat) (S : ByteArray), k ≤ len ∧ i = .int .i64 k ∧ s = .string S ∧ S.size ≤ 5000 ∧ Hid (S = str (cat (N.drop k))) ∧ Below w.heap.size w wr) (fun _ i _ => len - (intOf i).toNat)
      case atStart => exact ⟨0, S, by omega, rfl, rfl, hS2, HS2, hbw⟩
      case round =>
        clear HS2 hS2 hbw hk hlt
        obtain ⟨k, S, hk, rfl, rfl, hS, HS, hbw⟩ := hrel
        by_cases hlt : k < len
        · obtain ⟨b, off, rfl, hbs, hcx⟩ := HL.out k hlt
          obtain ⟨n, hn⟩ : ∃ n, n = N.getD k 0 := ⟨_, rfl⟩
          rw [← hn] at hcx
          have hcw := (hbw.cell (by exact hbs)).trans hcx
          have hkl : k < N.length := by rw [HN.out]; exact hlt
          have hn2 : n ≤ 18446744073709551615 := by
            have := HW.out (N[k]) (List.getElem_mem hkl)
            rw [hn]; simpa [List.getD, hkl] using this
          have hE := HS.out
          rw [cat_cons N k hkl, ← hn] at hE
          have R1 : Hid (rdN S.data.toList = (n, (ub n).length, 0)) := by show _ = _; rw [hE]; exact rdN_back n _ (by omega)
          obtain ⟨m, hm⟩ : ∃ m, m = (ub n).length := ⟨_, rfl⟩
          rw [← hm] at R1
          have hm1 : m ≤ S.size := by rw [hm, hE, str_size, List.length_append]; omega
          have hsz : S.size ≤ maxLen := by unfold maxLen; omega
          have HS3 : Hid (S.extract m S.size = str (cat (N.drop (k + 1)))) := by
            show _ = _
            apply ByteArray.ext
            apply Array.ext'
            rw [Lib.extract_data, hE, hm, str_size]
            show ((ub n ++ cat (N.drop (k + 1))).drop (ub n).length).take _ = cat (N.drop (k + 1))
            rw [List.drop_left, List.take_of_length_le (by rw [List.length_append]; omega)]
          have HM := Lib.hid hm
          clear hm hn hcx hE HS
          go_wp2_with fail
          refine (Read_at S _ hsz n m 0 R1).mono ?_
          rintro e w1 ⟨rfl, rfl⟩
          go_wp2_with fail
          refine (Size_at n _ hn2 m HM).mono ?_
          rintro e w2 ⟨rfl, rfl⟩
          have q1 : decide ((m : Int) < 0) = false := by rw [decide_eq_false_iff_not]; omega
          have q2 : decide (S.size < m) = false := by rw [decide_eq_false_iff_not]; omega
          clear hcw
          go_wp2_with fail
          go_roundw
          case rel => exact ⟨k + 1, S.extract m S.size, by omega, by go_num, rfl, by rw [ByteArray.size_extract]; omega, HS3, hbw⟩
          case measure => simp [intOf]; omega
        · have hse : S.toList = [] := by
            rw [Lib.toList_data, HS.out, show k = len by omega, ← HN.out, List.drop_length]
            rfl
          have HB := hbw
          go_wp2_with (go_at_call 6; refine (works_any _).mono ?_; rintro e w' ⟨rfl, hb'⟩; replace HB := HB.trans (hb'.mono HB.size); clear hb')
          go_ret
          exact ⟨rfl, HB⟩

theorem walk_big (A : Option Addr) (len cap : Nat) (hl : 500 < len) (w : World) :
    Calls Try.prog 5 #[.slice A len cap] w fun e w' => e = .returned (.bool true) ∧ Below w.heap.size w w' := by
  have HB : Below w.heap.size w w := Below.refl _ _
  go_enter Try.func5, Try.ntmps5
  go_wp2_with (go_at_call 6; refine (works_any _).mono ?_; rintro e w' ⟨rfl, hb⟩; replace HB := HB.trans (hb.mono HB.size); clear hb)
  go_ret
  exact ⟨rfl, HB⟩

theorem walk (A : Option Addr) (len cap : Nat) (Z : List Int) (W : World) (h : SliceView W .u64 A len cap Z) :
    Calls Try.prog 5 #[.slice A len cap] W fun e w' => e = .returned (.bool true) ∧ Below W.heap.size W w' := by
  obtain ⟨h1, _, _, _, h2, h3⟩ := h
  by_cases hl : len ≤ 500
  · refine walk_small A len cap (Z.map Int.toNat) (by simp [h1]) hl ?_ W ?_
    · intro n hn
      obtain ⟨z, hz, rfl⟩ := List.mem_map.1 hn
      have := bounds_u64 (h3 z hz)
      omega
    · intro k hk
      obtain ⟨b, off, e, hb, hc⟩ := h2 k hk
      have hk' : k < Z.length := by omega
      have hz := bounds_u64 (h3 Z[k] (List.getElem_mem hk'))
      refine ⟨b, off, e, hb, ?_⟩
      rw [hc]
      simp only [List.getD, List.getElem?_map, List.getElem?_eq_getElem hk', Option.map_some, Option.getD_some, Int.toNat_of_nonneg hz.1]
  · exact walk_big A len cap (by omega) W

end Go.Proofs.Ytlikbkffadpbeaa.numRow
