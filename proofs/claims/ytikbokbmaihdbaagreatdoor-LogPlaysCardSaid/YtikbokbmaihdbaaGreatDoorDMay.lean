/-
  Layer 7: mayBe; strings.Clone.
-/
import Derived.Test.YtikbokbmaihdbaaGreatDoorDMem
import Derived.Test.YtikbokbmaihdbaaGreatDoorBRow
import Derived.Test.YtikbokbmaihdbaaGreatDoorShelf
import Derived.WalkKit
import Derived.BigCall
import Derived.Lib.Hide
import Derived.IntWalk
import Derived.WalkMore
import Derived.Deep.LoopGhost
namespace Go.Proofs.YtikbokbmaihdbaaGreatDoor
open Go.RowKit

def okc (c : UInt8) : Bool := (decide (97 ≤ c.toNat) && decide (c.toNat ≤ 122)) || (decide (48 ≤ c.toNat) && decide (c.toNat ≤ 57)) || decide (c.toNat = 45)
theorem mayB_eq (n : ByteArray) : mayB n = (decide (1 ≤ n.size) && decide (n.size ≤ 40) && n.data.toList.all okc) := rfl
theorem all_bad {l : List UInt8} {k : Nat} (hk : k < l.length) (h : okc l[k] = false) : l.all okc = false := by
  rw [List.all_eq_false]
  exact ⟨l[k], List.getElem_mem hk, by rw [h]; simp⟩
theorem all_more {l : List UInt8} {k : Nat} (hk : k < l.length) (h0 : (l.take k).all okc = true) (h : okc l[k] = true) : (l.take (k + 1)).all okc = true := by
  rw [List.take_succ_eq_append_getElem hk, List.all_append, h0]
  simp [h]

theorem clone_at (s : ByteArray) (w : World) (h : s.size ≤ many) : Calls Tryz.prog 29 #[.string s] w fun e w' => e = .returned (.string s) ∧ Below w.heap.size w w' := by
  have K := Tryz.stringslite_Clone s w (by unfold many at h; omega)
  go_enter Tryz.func29, Tryz.ntmps29
  go_wp2_with (go_at_call 60; refine K.mono ?_; rintro e w' ⟨rfl, hb⟩)
  go_ret
  exact ⟨rfl, hb⟩

set_option maxHeartbeats 1000000 in
set_option maxRecDepth 100000 in
theorem mayBe_at (n : ByteArray) (w : World) (hn : n.size ≤ many) : Calls Tryz.prog 54 #[.string n] w fun e w' => e = .returned (.bool (mayB n)) ∧ Below w.heap.size w w' := by
  unfold many at hn
  obtain ⟨R, hR⟩ : ∃ R, mayB n = R := ⟨_, rfl⟩
  rw [hR]
  by_cases h1 : n.size < 1
  · obtain rfl : R = false := by rw [← hR, mayB_eq, decide_eq_false (by omega)]; rfl
    have d1 : decide ((n.size : Int) < 1) = true := by simp; omega
    clear hR
    go_enter Tryz.func54, Tryz.ntmps54
    go_wp2_with fail
    go_ret
    exact ⟨rfl, Below.refl _ _⟩
  have d1 : decide ((n.size : Int) < 1) = false := by simp; omega
  by_cases h2 : 40 < n.size
  · obtain rfl : R = false := by rw [← hR, mayB_eq, decide_eq_false (show ¬ n.size ≤ 40 by omega)]; simp
    have d2 : decide ((40 : Int) < (n.size : Int)) = true := by simp; omega
    clear hR
    go_enter Tryz.func54, Tryz.ntmps54
    go_wp2_with fail
    go_ret
    exact ⟨rfl, Below.refl _ _⟩
  have d2 : decide ((40 : Int) < (n.size : Int)) = false := by simp; omega
  have hall : R = n.data.toList.all okc := by rw [← hR, mayB_eq, decide_eq_true (by omega), decide_eq_true (by omega)]; rfl
  have HALL := Lib.hid hall
  have hlen : n.data.toList.length = n.size := by simp
  have HLEN := Lib.hid hlen
  clear hR hall hlen
  obtain ⟨cap, w1, hcv, hrow, hbel, _⟩ := BRow.conv w n
  have HR := Lib.hid hrow.2
  have HB := Lib.hid hbel
  clear hrow hbel
  go_enter Tryz.func54, Tryz.ntmps54
  go_wp2_with (simp only [hcv])
  clear hcv
  go_loop [18] (fun i => ∃ k : Nat, k ≤ n.size ∧ i = .int .i64 k ∧ Hid ((n.data.toList.take k).all okc = true)) (fun i => n.size - (intOf i).toNat)
  case atStart => exact ⟨0, Nat.zero_le _, rfl, rfl⟩
  case round =>
    obtain ⟨k, hk, rfl, hok⟩ := hrel
    by_cases hlt : k < n.size
    · have HKL : Hid (k < n.data.toList.length) := by show k < n.data.toList.length; rw [HLEN.out]; exact hlt
      have hc := (HR.out k HKL.out).1
      obtain ⟨X, hX⟩ : ∃ X, X = n.data.toList[k]'HKL.out := ⟨_, rfl⟩
      rw [← hX] at hc
      have HX := Lib.hid hX
      obtain ⟨c, hcX⟩ : ∃ c, c = X.toNat := ⟨_, rfl⟩
      rw [← hcX] at hc
      have HC := Lib.hid hcX
      have hc8 : c < 256 := by rw [hcX]; exact X.toNat_lt
      clear hX hcX
      by_cases ha : 97 ≤ c ∧ c ≤ 122
      · have hg : okc X = true := by unfold okc; rw [← HC.out]; rw [decide_eq_true ha.1, decide_eq_true ha.2]; rfl
        have HN : Hid ((n.data.toList.take (k + 1)).all okc = true) := all_more HKL.out hok.out (by rw [← HX.out]; exact hg)
        clear hg
        have e0 : decide ((97 : Int) ≤ (c : Int)) = true := by simp; omega
        have e1 : decide ((c : Int) ≤ 122) = true := by simp; omega
        have e2 : decide ((48 : Int) ≤ (c : Int)) = true := by simp; omega
        have e3 : decide ((c : Int) ≤ 57) = false := by simp; omega
        clear ha
        go_wp2_with fail
        go_round
        case rel => exact ⟨k + 1, by omega, by go_num, HN⟩
        case measure => simp [intOf]; omega
      by_cases hd : 48 ≤ c ∧ c ≤ 57
      · have hg : okc X = true := by unfold okc; rw [← HC.out]; rw [decide_eq_true hd.1, decide_eq_true hd.2]; simp
        have HN : Hid ((n.data.toList.take (k + 1)).all okc = true) := all_more HKL.out hok.out (by rw [← HX.out]; exact hg)
        clear hg
        have e0 : decide ((97 : Int) ≤ (c : Int)) = false := by simp; omega
        have e2 : decide ((48 : Int) ≤ (c : Int)) = true := by simp; omega
        have e3 : decide ((c : Int) ≤ 57) = true := by simp; omega
        clear ha hd
        go_wp2_with fail
        go_round
        case rel => exact ⟨k + 1, by omega, by go_num, HN⟩
        case measure => simp [intOf]; omega
      by_cases hh : c = 45
      · have hg : okc X = true := by unfold okc; rw [← HC.out]; rw [decide_eq_true hh]; simp
        have HN : Hid ((n.data.toList.take (k + 1)).all okc = true) := all_more HKL.out hok.out (by rw [← HX.out]; exact hg)
        clear hg
        subst hh
        clear ha hd
        go_wp2_with fail
        go_round
        case rel => exact ⟨k + 1, by omega, by go_num, HN⟩
        case measure => simp [intOf]; omega
      have hb0 : okc X = false := by
        unfold okc
        rw [← HC.out]
        simp only [Bool.or_eq_false_iff, Bool.and_eq_false_iff, decide_eq_false_iff_not]
        omega
      obtain rfl : R = false := by rw [HALL.out]; exact all_bad HKL.out (by rw [← HX.out]; exact hb0)
      clear hb0
      by_cases h5 : 122 < c
      · have e0 : decide ((97 : Int) ≤ (c : Int)) = true := by simp; omega
        have e1 : decide ((c : Int) ≤ 122) = false := by simp; omega
        have e2 : decide ((48 : Int) ≤ (c : Int)) = true := by simp; omega
        have e3 : decide ((c : Int) ≤ 57) = false := by simp; omega
        have e5 : ((c : Int) == 45) = false := by rw [beq_eq_false_iff_ne]; omega
        clear ha hd hh
        go_wp2_with fail
        go_ret
        exact ⟨rfl, HB.out⟩
      by_cases h6 : 57 < c
      · have e0 : decide ((97 : Int) ≤ (c : Int)) = false := by simp; omega
        have e2 : decide ((48 : Int) ≤ (c : Int)) = true := by simp; omega
        have e3 : decide ((c : Int) ≤ 57) = false := by simp; omega
        have e5 : ((c : Int) == 45) = false := by rw [beq_eq_false_iff_ne]; omega
        clear ha hd hh
        go_wp2_with fail
        go_ret
        exact ⟨rfl, HB.out⟩
      · have e0 : decide ((97 : Int) ≤ (c : Int)) = false := by simp; omega
        have e2 : decide ((48 : Int) ≤ (c : Int)) = false := by simp; omega
        have e5 : ((c : Int) == 45) = false := by rw [beq_eq_false_iff_ne]; omega
        clear ha hd
        go_wp2_with fail
        go_ret
        exact ⟨rfl, HB.out⟩
    · obtain rfl : R = true := by
        have := hok.out
        rw [List.take_of_length_le (by rw [HLEN.out]; omega)] at this
        rw [HALL.out, this]
      go_wp2_with fail
      go_ret
      exact ⟨rfl, HB.out⟩

end Go.Proofs.YtikbokbmaihdbaaGreatDoor
