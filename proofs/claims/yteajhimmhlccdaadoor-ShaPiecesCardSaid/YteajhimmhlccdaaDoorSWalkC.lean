/-
  Contract of layer 4: words.
-/
import Derived.Test.YteajhimmhlccdaaDoorSRow
import Derived.Deep.CutBlock
import Derived.Test.YteajhimmhlccdaaDoorSQTail
import Derived.Lib.LazyBuf
import Derived.Laws.ResultCell
namespace Go.Proofs.YteajhimmhlccdaaDoor
open Go.RowKit

theorem size45 : (Tryd.prog.info? 45).map (·.size) = some 64 := by kernel_rfl
theorem size55 : (Tryd.prog.info? 55).map (·.size) = some 64 := by kernel_rfl
theorem size44 : (Tryd.prog.info? 44).map (·.size) = some 8 := by kernel_rfl
theorem size5 : (Tryd.prog.info? 5).map (·.size) = some 1 := by kernel_rfl
theorem size42 : (Tryd.prog.info? 42).map (·.size) = some 1 := by kernel_rfl
theorem index_bytes (B : List UInt8) (hB : B.length = 64) (k : Nat) (hk : k < B.length) (w : World) : (Instr.index 45 (.agg (cel8 B).toArray) (.int .i64 (k : Int))).run Tryd.prog w = .ok (.int .u8 (B[k].toNat : Int)) w :=
  run_index_arr w 45 5 64 (cel8 B) k _ Tryd.underlying45 (.int .u8) Tryd.underlying5 rfl size5 (by omega) (by simp [cel8, hk])


theorem or_byte (x : Nat) (b : UInt8) (hx : x < 16777216) : bits .or .u32 ((x : Int) * 256) ((b.toNat : Int) % 4294967296) = ((x * 256 + b.toNat : Nat) : Int) := by
  have hb := byte_lt32 b
  rw [show ((x : Int) * 256) = ((x * 256 : Nat) : Int) from rfl, show ((b.toNat : Int) % 4294967296) = (b.toNat : Int) by omega, or_i _ _ (by omega) (by omega)]
  congr 1
  exact nat_join 8 _ _ (by omega) hb

set_option maxRecDepth 100000 in
set_option maxHeartbeats 400000 in
theorem words_any (B : List UInt8) (hB : B.length = 64) (w : World) :
    Calls Tryd.prog 24 #[.agg (cel8 B).toArray] w fun e w' => e = .returned (.agg (cel32 (wl B)).toArray) ∧ Below w.heap.size w w' := by
  have HB := Lib.hid hB
  have Hs : Hid ((cel8 B).length = 64) := (cel8_len B).trans hB
  have HX := Lib.hid (index_bytes B hB)
  clear hB
  go_enter Tryd.func24, Tryd.ntmps24
  go_wp2_with (refine wpList_load_mid (by rfl) 45 (.tmp 1) (by rfl) w.heap.size 0 (by rfl) (cel8 B) _ ?_ Tryd.underlying45 rfl (by rw [Hs.out]; exact size45) ?_)
  case refine_1 =>
    intro j v hv
    rw [cell_of_row _ _ _ _ _ _ (heap3 w (.cells (cel8 B).toArray 45) _ _).1, Nat.zero_add]
    simpa using hv
  go_loopw [4, 5, 8] (fun _ _ i wr => ∃ k : Nat, k ≤ 64 ∧ i = .int .i64 k ∧ UR wr (w.heap.size + 1 + 1) 64 (pw B k) ∧ wr.there (w.heap.size + 1) 0 64 ∧ Below w.heap.size w wr) (fun _ _ i _ => 64 - (intOf i).toNat)
  case atStart =>
    refine ⟨0, by decide, rfl, UR.of_block (heap3 w _ _ _).2.2 ?_, there_of_block (heap3 w _ _ _).2.1 rfl, (((Below.refl _ w).alloc (by simp) _).alloc (by simp) _).alloc (by simp; omega) _⟩
    intro j hj
    rw [pw_zero]
    have : ∀ j, j < 64 → (Array.replicate 64 (Value.int .u32 0))[j]? = some (.int .u32 ((0 : Nat) : Int)) := by intro j hj; simp [hj]
    exact this j hj
  case round =>
    obtain ⟨k, hk, rfl, hU, hT, hbw⟩ := hrel
    by_cases hlt : k < 64
    · have hkB : k < B.length := by rw [HB.out]; exact hlt
      have hix := HX.out k hkB
      obtain ⟨b, hb⟩ : ∃ b, B[k] = b := ⟨_, rfl⟩
      rw [hb] at hix
      have hc := (hU (k / 4) (by omega)).1
      have hf := (hU (k / 4) (by omega)).2
      have hs := pw_small B k hkB
      have hsm := pw_same B k hkB
      rw [hb] at hsm
      obtain ⟨x, hx⟩ : ∃ x, pw B k (k / 4) = x := ⟨_, rfl⟩
      rw [hx] at hc hs hsm
      have HS := Lib.hid hsm
      have HO := fun j (h : j ≠ k / 4) => pw_other B k j hkB h
      have HOO := Lib.hid HO
      have hv := or_byte x b hs
      clear hsm hx hb HO
      go_wp2_with fail
      go_roundw
      case rel => exact ⟨k + 1, by omega, by go_num, hU.store (k / 4) _ (by omega) HS.out HOO.out, there_other hT _ (by simp) _, hbw.setCell (by simp; omega) _⟩
      case measure => simp [intOf]; omega
    · have hU2 : UR wr (w.heap.size + 1 + 1) 64 (atw B 16) := hU.same (fun j _ => by rw [show k = 64 by omega]; exact aw_start B HB.out j)
      clear hU
      go_wp2_with fail
      go_loopw [6] (fun i wr => ∃ t : Nat, 16 ≤ t ∧ t ≤ 64 ∧ i = .int .i64 t ∧ UR wr (w.heap.size + 1 + 1) 64 (atw B t) ∧ wr.there (w.heap.size + 1) 0 64 ∧ Below w.heap.size w wr) (fun i _ => 64 - (intOf i).toNat)
      case atStart => exact ⟨16, by decide, by decide, rfl, hU2, hT, hbw⟩
      case round =>
        clear hU2 hT hbw hlt hk
        obtain ⟨t, ht, ht2, rfl, hU, hT, hbw⟩ := hrel
        by_cases hlt : t < 64
        · have HN := Lib.hid (atw_new B t ht)
          have HO := Lib.hid (atw_other B t ht)
          obtain ⟨x1, h1⟩ : ∃ x, atw B t (t - 2) = x := ⟨_, rfl⟩
          obtain ⟨x2, h2⟩ : ∃ x, atw B t (t - 7) = x := ⟨_, rfl⟩
          obtain ⟨x3, h3⟩ : ∃ x, atw B t (t - 15) = x := ⟨_, rfl⟩
          obtain ⟨x4, h4⟩ : ∃ x, atw B t (t - 16) = x := ⟨_, rfl⟩
          have c1 := (hU (t - 2) (by omega)).1
          have c2 := (hU (t - 7) (by omega)).1
          have c3 := (hU (t - 15) (by omega)).1
          have c4 := (hU (t - 16) (by omega)).1
          have c5 := (hU t hlt).1
          have f5 := (hU t hlt).2
          rw [h1] at c1
          rw [h2] at c2
          rw [h3] at c3
          rw [h4] at c4
          rw [h1, h2, h3, h4] at HN
          have l1 : x1 < 4294967296 := h1 ▸ atw_lt B t _
          have l3 : x3 < 4294967296 := h3 ▸ atw_lt B t _
          clear h1 h2 h3 h4
          have b1 : (0 : Int) ≤ (t : Int) - 2 ∧ (t : Int) - 2 < 64 := by omega
          have b2 : (0 : Int) ≤ (t : Int) - 7 ∧ (t : Int) - 7 < 64 := by omega
          have b3 : (0 : Int) ≤ (t : Int) - 15 ∧ (t : Int) - 15 < 64 := by omega
          have b4 : (0 : Int) ≤ (t : Int) - 16 ∧ (t : Int) - 16 < 64 := by omega
          have b5 : (t : Int) < 64 := by omega
          obtain ⟨b11, b12⟩ := b1
          obtain ⟨b21, b22⟩ := b2
          obtain ⟨b31, b32⟩ := b3
          obtain ⟨b41, b42⟩ := b4
          have n1 : ((t : Int) - 2).toNat = t - 2 := by omega
          have n2 : ((t : Int) - 7).toNat = t - 7 := by omega
          have n3 : ((t : Int) - 15).toNat = t - 15 := by omega
          have n4 : ((t : Int) - 16).toNat = t - 16 := by omega
          go_wp2_with fail
          refine wp_region_quiet_tail 23 (by kernel_rfl) (by kernel_rfl) ?_
          simp only [List.take_succ_cons, List.take_zero, List.drop_succ_cons, List.drop_zero]
          repeat (go_big_quiet_step ((first
            | (go_at_call 28; with_reducible exact Calls.quiet_of (shifted_g1 x1 l1 _))
            | (go_at_call 28; with_reducible exact Calls.quiet_of (shifted_g0 x3 l3 _)))))
          refine wpQuiet_nil ?_
          rintro _ ⟨nq, rfl⟩
          go_wp2_with fail
          have HV : (((g1 x1 : Nat) : Int) + (x2 : Int) + ((g0 x3 : Nat) : Int) + (x4 : Int)) % 4294967296 = ((((((g1 x1 + x2) % 4294967296 + g0 x3) % 4294967296) + x4) % 4294967296 : Nat) : Int) := by omega
          rw [HV]
          have hU' : UR (wr.drewN nq) (w.heap.size + 1 + 1) 64 (atw B t) := hU.drewN nq
          go_roundw
          case rel => exact ⟨t + 1, by omega, by omega, by go_num, hU'.store t _ hlt HN.out HO.out, there_other (there_drewN hT nq) _ (by simp) _, (hbw.drewN nq).setCell (by simp; omega) _⟩
          case measure => simp [intOf]; omega
        · go_upto_region 11 with fail
          have HW : Hid (∀ j, j < 64 → atw B t j = (wl B).getD j 0) := fun j hj => by rw [show t = 64 by omega]; exact aw_end B j hj
          have hr := (hU.same (fun j hj => (HW.out j hj).symm)).range
          have HE : Hid ((List.range 64).map (fun j => Value.int .u32 ((wl B).getD j 0 : Nat)) = cel32 (wl B)) := range_cel32 (wl B) 64 (wl_len B)
          rw [HE.out] at hr
          have hl : (cel32 (wl B)).length = 64 := (cel32_len _).trans (wl_len B)
          have HS1 := Lib.hid (show (Tryd.prog.info? 55).map (·.size) = some (cel32 (wl B)).length by rw [hl]; exact size55)
          have HS2 := Lib.hid (show (Tryd.prog.info? 55).map (·.size) = some (cel32 (wl B)).toArray.size by simpa [hl] using size55)
          have HT := Lib.hid (show wr.there (w.heap.size + 1) 0 (cel32 (wl B)).toArray.size by simpa [hl] using hT)
          have HO := Lib.hid (all_oneCell_toArray (cel32_one (wl B)))
          have HR := Lib.hid hr
          clear hU HW HE hl hr hT
          obtain ⟨C, hC⟩ : ∃ C, cel32 (wl B) = C := ⟨_, rfl⟩
          rw [hC] at HS1 HS2 HT HO HR
          have HC := Lib.hid hC
          clear hC HX Hs HB
          go_wp2_with (first
            | (refine wpList_load_mid (by rfl) 55 (.tmp 3) (by rfl) (w.heap.size + 1 + 1) 0 (by rfl) C _ ?l1 Tryd.underlying55 rfl ?l2 ?_)
            | (refine wpList_store_mid (by rfl) 55 (.tmp 2) (.tmp 51) (by rfl) (w.heap.size + 1) 0 C.toArray (by rfl) (by rfl) ?s1 ?s2 ?s3 ?_))
          case l1 => exact HR.out
          case l2 => exact HS1.out
          case s1 => exact HT.out
          case s2 => exact HS2.out
          case s3 => exact HO.out
          exact bodyPost_ret (v := .agg C.toArray) (results_cell_mid (by rfl) _ _ (w.heap.size + 1) 0 C _ (by rfl) (World.rangeAt_setCells_same _ _ _ _ (by simpa using HT.out)) Tryd.underlying55 rfl HS1.out) rfl ⟨by rw [HC.out], below_setCells (by omega) _ _ _ hbw⟩
end Go.Proofs.YteajhimmhlccdaaDoor
