/-
  Contract of layer 4: the document's padding.
-/
import Derived.Test.YteajhimmhlccdaaDoorSMine
import Derived.Deep.CutBlock
namespace Go.Proofs.YteajhimmhlccdaaDoor
open Go.RowKit

def lenOf : Value → Nat
  | .slice _ n _ => n
  | _ => 0
/-- Bytes to read. -/
def RB (w : World) (g : Nat) (l : List UInt8) : Prop := ∀ j (h : j < l.length), w.cell? ⟨g, j, none⟩ = some (.int .u8 (l[j].toNat : Int))
theorem zer_now (n z : Nat) (hz : z ≤ zer n) : (n + 1 + z) % 64 = 56 ↔ z = zer n := by unfold zer at *; omega
theorem pad_zero (s : List UInt8) (z : Nat) : s ++ 128 :: List.replicate z 0 ++ [0] = s ++ 128 :: List.replicate (z + 1) 0 := by
  rw [List.replicate_succ', List.append_assoc]; rfl

set_option maxRecDepth 100000 in
set_option maxHeartbeats 1000000 in
theorem Padded_any (s : ByteArray) (hs : s.size ≤ 1073741824) (w : World) :
    Calls Tryd.prog 16 #[.string s] w fun e w' => ∃ g cap, e = .returned (.slice (some ⟨g, 0, none⟩) (pad s.data.toList).length cap) ∧ (pad s.data.toList).length ≤ cap ∧
      w.heap.size ≤ g ∧ g < w'.heap.size ∧ RB w' g (pad s.data.toList) ∧ Below w.heap.size w w' := by
  obtain ⟨cap0, w1, hcv, hm1, hb1⟩ := Mine.conv w s (by omega)
  have hz1 := hb1.size
  obtain ⟨n, hn⟩ : ∃ n, s.size = n := ⟨_, rfl⟩
  have hl : s.data.toList.length = n := by rw [← hn]; simp
  have HN := Lib.hid hn
  have HL := Lib.hid hl
  rw [hn] at hs hm1
  clear hl
  go_enter Tryd.func16, Tryd.ntmps16
  go_wp2_with (at_builtin; refine wpList_append_mine _ rfl (.tmp 7) (.tmp 8) rfl w.heap.size w.heap.size n cap0 (cel8 s.data.toList) rfl (hm1.alloc _) ⟨w1.heap.size, 0, none⟩ 1 (.int .u8 128) rfl (one_cell _ _ _) rfl (by simp; omega) (by omega) ?_; intro g2 cap2 w2 hm2 hb2)
  have hb2' : Below w.heap.size w w2 := (hb1.alloc hz1 _).trans hb2
  have hm2' : Mine w2 w.heap.size g2 (n + 1 + 0) cap2 (cel8 (s.data.toList ++ 128 :: List.replicate 0 0)) := by rw [show (s.data.toList ++ 128 :: List.replicate 0 (0 : UInt8)) = s.data.toList ++ [128] from rfl, ← cel8_snoc]; exact hm2
  clear hm2 hb2 hm1 hb1 hz1 hcv
  go_loopw [3] (fun v wr => ∃ (z g cap : Nat), z ≤ zer n ∧ v = .slice (some ⟨g, 0, none⟩) (n + 1 + z) cap ∧ Mine wr w.heap.size g (n + 1 + z) cap (cel8 (s.data.toList ++ 128 :: List.replicate z 0)) ∧ Below w.heap.size w wr) (fun v _ => n + 65 - lenOf v)
  case atStart => exact ⟨0, g2, cap2, Nat.zero_le _, rfl, hm2', hb2'⟩
  case round =>
    clear hm2' hb2'
    obtain ⟨z, g, cap, hz, rfl, hm, hbw⟩ := hrel
    have hzl : zer n < 64 := by unfold zer; omega
    have hsz := hbw.size
    by_cases he : z = zer n
    · have ht : (((n + 1 + z : Nat) : Int) % 64 != 56) = false := by have := (zer_now n z hz).2 he; simp; omega
      subst he
      obtain ⟨Q, hQ⟩ : ∃ Q, s.data.toList ++ 128 :: List.replicate (zer n) 0 = Q := ⟨_, rfl⟩
      obtain ⟨M, hM⟩ : ∃ M, n + 1 + zer n = M := ⟨_, rfl⟩
      have hMl : M ≤ 2147483648 := by omega
      have hQl : Hid (Q.length = M) := by show _ = _; rw [← hQ, ← hM, List.length_append, HL.out]; simp; omega
      have HP : Hid (pad s.data.toList = Q ++ be 8 (8 * n)) := by show _ = _; rw [pad, padding, HL.out, ← hQ]; simp
      rw [hM] at hm ht ⊢
      rw [hQ] at hm
      clear hQ hM hz hzl
      go_wp2_with fail
      go_loopw [3, 5] (fun v iv wr => ∃ (k m g cap : Nat) (A : List UInt8), k ≤ 8 ∧ iv = .int .i64 ((k : Int) - 1) ∧ v = .slice (some ⟨g, 0, none⟩) m cap ∧ Mine wr w.heap.size g m cap (cel8 (Q ++ A)) ∧ Hid (A ++ be k (8 * n) = be 8 (8 * n)) ∧ Hid (M + A.length = m) ∧ m ≤ M + 8 - k ∧ Below w.heap.size w wr) (fun _ iv _ => (intOf iv + 1).toNat)
      case atStart => exact ⟨8, M, g, cap, [], by decide, by go_num, rfl, by rw [List.append_nil]; exact hm, rfl, rfl, by omega, hbw⟩
      case round =>
        clear hm hbw hsz
        obtain ⟨k, m, g, cap, A, hk, rfl, rfl, hm, HE, HA, hml, hbw⟩ := hrel
        have hsz := hbw.size
        cases k with
        | zero =>
          have HA' : Hid (pad s.data.toList = Q ++ A) := by have := HE.out; show _ = _; rw [HP.out, ← this]; simp [be]
          have HL2 : Hid ((Q ++ A).length = m) := by have := HA.out; show _ = _; rw [List.length_append, hQl.out, this]
          rw [show (((0 : Nat) : Int) - 1) = -1 by rfl]
          go_wp2_with fail
          go_ret
          refine ⟨g, cap, by rw [HA'.out, HL2.out]; rfl, by rw [HA'.out, HL2.out]; exact hm.fit, hm.base, hm.lt, ?_, hbw⟩
          intro j hj
          simp only [HA'.out] at hj ⊢
          rw [hm.cell j (by rw [← HL2.out]; exact hj), cel8_at _ j hj]
        | succ j =>
          rw [show (((j + 1 : Nat) : Int) - 1) = (j : Int) by omega]
          have HV : ((n : Int) * 8) / 2 ^ (8 * j) % 256 = ((UInt8.ofNat (8 * n / 256 ^ j % 256)).toNat : Int) := by
            have := byte_shr (8 * n) j
            rw [← this, show ((n : Int) * 8) = ((8 * n : Nat) : Int) by omega]
          obtain ⟨b, hb⟩ : ∃ b, UInt8.ofNat (8 * n / 256 ^ j % 256) = b := ⟨_, rfl⟩
          rw [hb] at HV
          have HE' : Hid ((A ++ [b]) ++ be j (8 * n) = be 8 (8 * n)) := by show _ = _; rw [← HE.out, be, hb]; simp
          have HA' : Hid (M + (A ++ [b]).length = m + 1) := by have := HA.out; show _ = _; rw [List.length_append]; simp; omega
          clear hb HE
          go_wp2_with (at_builtin; refine wpList_append_mine _ rfl (.tmp 25) (.tmp 32) rfl w.heap.size g m cap (cel8 (Q ++ A)) rfl (hm.alloc _) ⟨wr.heap.size, 0, none⟩ 1 (.int .u8 (b.toNat : Int)) rfl (one_cell _ _ _) rfl (by simp; omega) (by omega) ?_; intro g3 cap3 w3 hm3 hb3)
          have hb3' : Below w.heap.size w w3 := (hbw.alloc hsz _).trans hb3
          have hm3' : Mine w3 w.heap.size g3 (m + 1) cap3 (cel8 (Q ++ (A ++ [b]))) := by rw [← List.append_assoc, ← cel8_snoc]; exact hm3
          clear hm3 hb3 hm hbw
          go_roundw
          case rel => exact ⟨j, m + 1, g3, cap3, A ++ [b], by omega, by go_num, rfl, hm3', HE', HA', by omega, hb3'⟩
          case measure => simp [intOf]
    · have ht : (((n + 1 + z : Nat) : Int) % 64 != 56) = true := by have := mt (zer_now n z hz).1 he; simp; omega
      obtain ⟨M, hM⟩ : ∃ M, n + 1 + z = M := ⟨_, rfl⟩
      have hMl : M ≤ 2147483648 := by omega
      rw [hM] at hm ht ⊢
      have HM := Lib.hid hM
      clear hM
      go_wp2_with (at_builtin; refine wpList_append_mine _ rfl (.tmp 14) (.tmp 15) rfl w.heap.size g M cap (cel8 (s.data.toList ++ 128 :: List.replicate z 0)) rfl (hm.alloc _) ⟨wr.heap.size, 0, none⟩ 1 (.int .u8 0) rfl (one_cell _ _ _) rfl (by simp; omega) (by omega) ?_; intro g3 cap3 w3 hm3 hb3)
      have hb3' : Below w.heap.size w w3 := (hbw.alloc hsz _).trans hb3
      have hm3' : Mine w3 w.heap.size g3 (n + 1 + (z + 1)) cap3 (cel8 (s.data.toList ++ 128 :: List.replicate (z + 1) 0)) := by rw [← pad_zero, ← cel8_snoc, ← Nat.add_assoc, HM.out]; exact hm3
      clear hm3 hb3 hm hbw
      go_roundw
      case rel => exact ⟨z + 1, g3, cap3, by omega, by rw [← Nat.add_assoc, HM.out], hm3', hb3'⟩
      case measure => have := HM.out; simp [lenOf]; omega
end Go.Proofs.YteajhimmhlccdaaDoor
