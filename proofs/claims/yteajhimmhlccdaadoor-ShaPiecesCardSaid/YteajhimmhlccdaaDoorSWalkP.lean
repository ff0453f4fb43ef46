/-
  Contracts of layer 4: the document's primes, and the constants that come of them.
-/
import Derived.Test.YteajhimmhlccdaaDoorSConst
namespace Go.Proofs.YteajhimmhlccdaaDoor
open Go.RowKit

theorem info31 : (Tryd.prog.info? 31).map (fun i => (i.zero, i.size, i.bytes)) = some (some (.int .u64 0), 1, 8) := by kernel_rfl

theorem app_below {B : Nat} {w wr w1 : World} {t : TypeId} {v : Value} {n s : Nat} {xs : List Value} {o : Obj} (hgrow : (wr.alloc o).grownBy w1 v.ownBlock) (hbw : Below B w wr) (hB : B ≤ wr.heap.size) (hown : (wr.alloc o).ownsRow B t s v n xs) : Below B w w1 :=
  (hbw.alloc hB _).grown hgrow (by simp; omega) (fun k hk => (hown.lt k hk).1)
theorem app_own {w1 : World} {B : Nat} {t : TypeId} {k : IntKind} {v' : Value} {L : List Nat} {x : Nat} (h : w1.ownsRow B t 1 v' (L.length + 1) (celk k L ++ [.int k (x : Nat)])) : w1.ownsRow B t 1 v' (L ++ [x]).length (celk k (L ++ [x])) := by
  rw [celk_snoc]; simpa using h

theorem ne_mod (p q : Nat) : ((p : Int) % (q : Int) != 0) = (p % q != 0) := by
  rw [show ((p : Int) % (q : Int)) = ((p % q : Nat) : Int) from rfl]
  generalize p % q = r
  rw [Bool.eq_iff_iff]
  simp
set_option maxRecDepth 100000 in
set_option maxHeartbeats 1000000 in
theorem Primes_any (w : World) :
    Calls Tryd.prog 21 #[.int .i64 64] w fun e w' => ∃ v, e = .returned v ∧ w'.ownsRow w.heap.size 31 1 v 64 (celk .u64 P64) ∧ Below w.heap.size w w' := by
  obtain ⟨i0, hi, hz0, hz1, hz2⟩ := info_parts info31
  go_enter Tryd.func21, Tryd.ntmps21
  go_wp2_with fail
  go_loopw [3, 4, 5, 6] (fun v pv _ _ wr => ∃ (p : Nat), 2 ≤ p ∧ p ≤ 312 ∧ pv = .int .u64 p ∧ wr.ownsRow w.heap.size 31 1 v (PL p).length (celk .u64 (PL p)) ∧ Below w.heap.size w wr) (fun _ pv _ _ _ => 312 - (intOf pv).toNat)
  case atStart => exact ⟨2, by decide, by decide, rfl, by rw [PL_2]; exact World.ownsRow_nil _ _ _ _, Below.refl _ _⟩
  case round =>
    obtain ⟨p, hp2, hp, rfl, hown, hbw⟩ := hrel
    obtain ⟨L, hL⟩ : ∃ L, PL p = L := ⟨_, rfl⟩
    have hpos := PL_pos p
    have hle := PL_le p
    rw [hL] at hown hpos hle
    have HL : Hid (PL p = L) := hL
    clear hL
    obtain ⟨n, hn⟩ : ∃ n, L.length = n := ⟨_, rfl⟩
    rw [hn] at hown hle
    obtain ⟨A, cap, rfl, hform⟩ := owns_slice hown
    have HN := Lib.hid hn
    clear hn
    by_cases hlt : n < 64
    · have hp3 : p < 312 := by
        rcases Nat.lt_or_ge p 312 with h | h
        · exact h
        · have e : p = 312 := by omega
          have h1 := HL.out
          rw [e, PL_312] at h1
          have h2 := HN.out
          rw [← h1] at h2
          have h3 : P64.length = 64 := rfl
          omega
      go_wp2_with fail
      go_loop [5, 6] (fun b i => ∃ k : Nat, k ≤ n ∧ i = .int .i64 k ∧ b = .bool (pr (L.take k) p)) (fun _ i => n - (intOf i).toNat)
      case atStart => exact ⟨0, Nat.zero_le _, rfl, rfl⟩
      case round =>
        obtain ⟨k, hk, rfl, rfl⟩ := hrel
        by_cases hkn : k < n
        · obtain ⟨g, rfl, _, _, _, _, hcell⟩ := hform (by omega)
          have hkl : k < L.length := by rw [HN.out]; exact hkn
          have hc := (hcell k hkn).1
          rw [celk_at .u64 L k hkl] at hc
          obtain ⟨q, hq⟩ : ∃ q, L[k] = q := ⟨_, rfl⟩
          have hq0 := hpos L[k] (List.getElem_mem hkl)
          rw [hq] at hc hq0
          obtain ⟨hq1, hq2⟩ := hq0
          have HT : Hid (pr (L.take (k + 1)) p = (pr (L.take k) p && (p % q != 0))) := by
            show _ = _
            rw [List.take_succ_eq_append_getElem hkl, hq]
            simp [pr]
          clear hq hcell hform hkl
          obtain ⟨b, hb⟩ : ∃ b, pr (L.take k) p = b := ⟨_, rfl⟩
          rw [hb] at HT ⊢
          have HB := Lib.hid hb
          clear hb
          cases b
          · go_wp2_with fail
            go_round
            case rel => exact ⟨k + 1, by omega, by go_num, by rw [HT.out]; rfl⟩
            case measure => simp [intOf]; omega
          · go_wp2_with fail
            go_round
            case rel => exact ⟨k + 1, by omega, by go_num, by rw [HT.out, ne_mod]; rfl⟩
            case measure => simp [intOf]; omega
        · have hke : L.take k = L := List.take_of_length_le (by rw [HN.out]; omega)
          obtain ⟨b, hb⟩ : ∃ b, pr L p = b := ⟨_, rfl⟩
          rw [hke, hb]
          clear hke
          have HX : Hid (PL (p + 1) = if b = true then L ++ [p] else L) := by
            show _ = _
            rw [PL_next p hp3 hp2, HL.out, hb]
          clear hb
          cases b
          · go_wp2_with fail
            go_roundw
            case rel => exact ⟨p + 1, by omega, by omega, by go_num, by rw [HX.out]; simpa [HN.out] using hown, hbw⟩
            case measure => simp [intOf]; omega
          · go_wp2_with (at_builtin; refine wpList_append_own _ rfl _ _ 51 rfl w.heap.size 31 i0 (.int .u64 0) 1 8 Tryd.underlying51 hi hz0 hz1 hz2 rfl (by decide) _ _ _ rfl (hown.alloc _) ⟨wr.heap.size, 0, none⟩ 1 1 [.int .u64 (p : Nat)] rfl rfl (one_cell _ _ _) (one_one _ _) (by unfold maxLen; omega) (by omega) (by have := hbw.size; simp; omega) ?_; intro v' w1 hown' hgrow hiff; clear hiff)
            have hb1 := app_below hgrow hbw hbw.size (hown.alloc _)
            rw [← HN.out] at hown'
            have ho1 := app_own hown'
            clear hown' hgrow hown
            go_wp2_with fail
            go_roundw
            case rel => exact ⟨p + 1, by omega, by omega, by go_num, by rw [HX.out]; exact ho1, hb1⟩
            case measure => simp [intOf]; omega
    · have hp3 : ¬ p < 312 := fun h => by
        have := PL_few p h
        rw [HL.out, HN.out] at this
        omega
      have hL : L = P64 := by rw [← HL.out, show p = 312 by omega, PL_312]
      have hn : n = 64 := by omega
      have HL' := Lib.hid hL
      clear hL
      go_wp2_with fail
      go_ret
      exact ⟨_, rfl, by rw [← HL'.out]; simpa [hn] using hown, hbw⟩
end Go.Proofs.YteajhimmhlccdaaDoor
