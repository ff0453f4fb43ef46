/-
  Layer 8: same (the laws' own).
-/
import Derived.Test.YtikbokbmaihdbaaGreatDoorFWalkC
namespace Go.Proofs.YtikbokbmaihdbaaGreatDoor
open Go.RowKit Go.ChangeShapes Go.WideShapes

/-- 'same' of lists that are the same. -/
theorem same_true (A B : Option Addr) (n c d : Nat) (ss : List ByteArray) (hn : n ≤ 1000000) (w : World) (hA : Hid (Strs w A n ss)) (hB : Hid (Strs w B n ss)) :
    Calls Tryz.prog 14 #[.slice A n c, .slice B n d] w fun r w' => r = .returned (.bool true) ∧ ∃ n, w' = w.drewN n := by
  have HL := Lib.hid hA.out.len
  go_enter Tryz.func14, Tryz.ntmps14
  go_wp2_with fail
  go_loopw [5] (fun iv wr => ∃ i : Nat, i ≤ n ∧ iv = .int .i64 i ∧ Hid (∃ k, wr = w.drewN k)) (fun iv _ => n - (intOf iv).toNat)
  case atStart => exact ⟨0, Nat.zero_le _, rfl, 0, rfl⟩
  case round =>
    obtain ⟨i, hi, rfl, HW⟩ := hrel
    by_cases hlt : i < n
    · have hil : i < ss.length := by rw [HL.out]; exact hlt
      obtain ⟨b1, o1, rfl, _, hc1⟩ := hA.out.cell i hil
      obtain ⟨b2, o2, rfl, _, hc2⟩ := hB.out.cell i hil
      obtain ⟨x, hx⟩ : ∃ x, ss[i] = x := ⟨_, rfl⟩
      rw [hx] at hc1 hc2
      have d1 : wr.cell? ⟨b1, o1 + i, none⟩ = some (.string x) := by obtain ⟨k, hk⟩ := HW.out; rw [hk]; simpa using hc1
      have d2 : wr.cell? ⟨b2, o2 + i, none⟩ = some (.string x) := by obtain ⟨k, hk⟩ := HW.out; rw [hk]; simpa using hc2
      clear hc1 hc2 hx
      go_wp2_with fail
      go_quiet (fail)
      go_wp2_with fail
      go_roundw
      case rel => exact ⟨i + 1, by omega, by go_num, by obtain ⟨k, hk⟩ := HW.out; exact ⟨k + nq, by rw [hk, World.drewN_drewN]⟩⟩
      case measure => simp [intOf]; omega
    · go_wp2_with fail
      go_ret
      exact ⟨rfl, HW.out⟩

end Go.Proofs.YtikbokbmaihdbaaGreatDoor
