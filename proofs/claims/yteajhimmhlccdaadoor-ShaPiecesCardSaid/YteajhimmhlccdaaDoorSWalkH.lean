/-
  Contract of layer 4: the document's Of.
-/
import Derived.Test.YteajhimmhlccdaaDoorSWalkG
import Derived.Test.YteajhimmhlccdaaDoorSWalkR
import Derived.Deep.AppendLies
namespace Go.Proofs.YteajhimmhlccdaaDoor
open Go.RowKit

theorem RW.grown {w w' : World} {g n : Nat} {f : Nat → Nat} {row : Option Nat} (h : RW w g n f) (hg : w.grownBy w' row) (hl : g < w.heap.size) (hne : some g ≠ row) : RW w' g n f := fun j hj => (hg.cell_far ⟨g, j, none⟩ hl hne).trans (h j hj)
theorem blk_at (P : List UInt8) (m j : Nat) (h : 64 * m + 64 ≤ P.length) (hj : j < (blk P m).length) : (blk P m)[j] = P[64 * m + j]'(by have := blk_len P m h; omega) := by
  simp [blk]
theorem be4_at (x : Nat) : be 4 x = [UInt8.ofNat (x / 16777216 % 256), UInt8.ofNat (x / 65536 % 256), UInt8.ofNat (x / 256 % 256), UInt8.ofNat (x % 256)] := by
  simp [be]

set_option maxRecDepth 100000 in
set_option maxHeartbeats 1000000 in
theorem Of_ref (s : ByteArray) (hs : s.size ≤ 1073741824) (w : World) :
    Calls Tryd.prog 9 #[.string s] w fun e w' => e = .returned (.string ⟨(dig s.data.toList).toArray⟩) ∧ Below w.heap.size w w' := by
  obtain ⟨i0, hi, hz0, hz1, hz2⟩ := info_parts info5
  go_enter Tryd.func9, Tryd.ntmps9
  go_wp2_with fail
  refine (Constants_any _).mono ?_
  rintro e w1 ⟨gk, gh, ck, ch, rfl, lk, lh, hrk, hrh, hb1⟩
  have HRK := Lib.hid hrk
  have HRH := Lib.hid hrh
  have HB1 := Lib.hid hb1
  clear hrk hrh hb1
  go_wp2_with fail
  refine (Padded_any s hs _).mono ?_
  rintro e w2 ⟨gb, cb, rfl, hcb, hgb, lb, hrb, hb2⟩
  obtain ⟨P, hP⟩ : ∃ P, pad s.data.toList = P := ⟨_, rfl⟩
  have hPw : P.length % 64 = 0 := hP ▸ pad_whole _
  have hPl : P.length ≤ 2147483648 := by
    rw [← hP, pad_len, zer]
    have e : s.data.toList.length = s.size := by simp
    omega
  rw [hP] at hrb hcb ⊢
  have HD : Hid (dig s.data.toList = out (blks P (P.length / 64))) := by show _ = _; rw [dig, hP]
  have lk2 : gk < w2.heap.size := Nat.lt_of_lt_of_le lk hb2.size
  have lh2 : gh < w2.heap.size := Nat.lt_of_lt_of_le lh hb2.size
  have HRK2 : Hid (RW w2 gk 64 (fun j => ktab.getD j 0)) := HRK.out.below hb2 lk
  have hrh2 : RW w2 gh 8 (fun j => H0.l.getD j 0) := HRH.out.below hb2 lh
  have HRB := Lib.hid hrb
  have HB2 := Lib.hid (HB1.out.trans (hb2.mono HB1.out.size))
  have hs2 := HB2.out.size
  clear hP hrb hb2 HRK HRH HB1 lk lh
  obtain ⟨M, hM⟩ : ∃ M, P.length = M := ⟨_, rfl⟩
  rw [hM] at hcb hPw hPl ⊢
  have HM := Lib.hid hM
  clear hM
  go_wp2_with fail
  go_loopw [4, 6] (fun v iv wr => ∃ (m i g c : Nat), i = 64 * m ∧ i ≤ M ∧ iv = .int .i64 i ∧ v = .slice (some ⟨g, 0, none⟩) 8 c ∧ g < wr.heap.size ∧ RW wr g 8 (fun j => (blks P m).l.getD j 0) ∧ Below w2.heap.size w2 wr) (fun _ iv _ => M - (intOf iv).toNat)
  case atStart => exact ⟨0, 0, gh, ch, rfl, by omega, rfl, rfl, lh2, hrh2, Below.refl _ _⟩
  case round =>
    clear hrh2 lh2
    obtain ⟨m, i, g, c, him, hiM, rfl, rfl, hgl, hrg, hbw⟩ := hrel
    have hsz := hbw.size
    by_cases hlt : i < M
    · have hfit : 64 * m + 64 ≤ P.length := by rw [HM.out]; omega
      have hBl := blk_len P m hfit
      have k1 : (i : Int) + 64 ≤ (M : Int) := by omega
      have k2 : (i : Int) + 64 ≤ (cb : Int) := by omega
      have k3 : ¬ cb = i := by omega
      have HBB : Hid (∀ j (h : j < (blk P m).length), wr.cell? ⟨gb, i + j, none⟩ = some (.int .u8 ((blk P m)[j].toNat : Int))) := fun j h => by
        rw [hbw.cell (p := ⟨gb, i + j, none⟩) lb, blk_at P m j hfit h, ← HRB.out (64 * m + j) (by omega), him]
      have HK3 : Hid (RW wr gk 64 (fun j => ktab.getD j 0)) := HRK2.out.below hbw lk2
      have HG := Lib.hid hrg
      have lk3 : gk < wr.heap.size := Nat.lt_of_lt_of_le lk2 hsz
      have lb3 : gb < wr.heap.size := Nat.lt_of_lt_of_le lb hsz
      have HI := Lib.hid him
      clear hrg him
      go_wp2_with fail
      refine (block_any (blks P m) (blks_ok P m) (blk P m) hBl g c gk ck gb i (cb - i) wr HG HK3 HBB hgl lk3 lb3).mono ?_
      rintro e w3 ⟨g', c', rfl, hc', hl', hr', hb3⟩
      have hb4 := hbw.trans (hb3.mono hsz)
      clear hb3 hbw
      go_wp2_with fail
      go_roundw
      case rel => exact ⟨m + 1, i + 64, g', c', by have := HI.out; omega, by have := HI.out; omega, by go_num, rfl, hl', hr', hb4⟩
      case measure => simp [intOf]; omega
    · have hbN : Below w.heap.size w wr := HB2.out.trans (hbw.mono hs2)
      obtain ⟨st, hst⟩ : ∃ st, blks P m = st := ⟨_, rfl⟩
      have hok : st.ok := hst ▸ blks_ok _ _
      have HD2 : Hid (dig s.data.toList = out st) := by show _ = _; rw [HD.out, ← hst, HM.out, show M / 64 = m by omega]
      rw [hst] at hrg
      have HG := Lib.hid hrg
      have hsN := hbN.size
      have HBN := Lib.hid hbN
      have hiM' : i = M := by omega
      clear hst hrg hbw hbN hcb him
      subst hiM'
      go_wp2_with fail
      generalize wr = w5 at *
      go_loopw [7, 8] (fun v iv w' => ∃ (k : Nat), k ≤ 8 ∧ iv = .int .i64 k ∧ w'.ownsRow w5.heap.size 5 1 v (4 * k) (cel8 ((st.l.take k).flatMap (be 4))) ∧ Below w5.heap.size w5 w') (fun _ iv _ => 8 - (intOf iv).toNat)
      case atStart => exact ⟨0, by decide, rfl, World.ownsRow_nil _ _ _ _, Below.refl _ _⟩
      case round =>
        obtain ⟨k, hk8, rfl, hown, hbw⟩ := hrel
        by_cases hl8 : k < 8
        · obtain ⟨x, hx⟩ : ∃ x, st.l.getD k 0 = x := ⟨_, rfl⟩
          have hx32 : x < 4294967296 := by rw [← hx]; exact getD_lt (St.l_lt hok) k
          obtain ⟨L, hL⟩ : ∃ L, (st.l.take k).flatMap (be 4) = L := ⟨_, rfl⟩
          have HL : Hid ((st.l.take (k + 1)).flatMap (be 4) = L ++ be 4 x) := by
            show _ = _
            rw [List.take_succ_eq_append_getElem (by exact hl8), List.flatMap_append, hL, ← hx]
            simp [List.getD_eq_getElem?_getD, List.getElem?_eq_getElem (show k < st.l.length from hl8)]
            rfl
          have hLl : L.length = 4 * k := by
            rw [← hL]
            have : ∀ (M : List Nat), (M.flatMap (be 4)).length = 4 * M.length := by
              intro M
              induction M with
              | nil => rfl
              | cons m M ih => rw [List.flatMap_cons, List.length_append, ih, be_len, List.length_cons]; omega
            rw [this, List.length_take, St.l_len]
            omega
          have c1 : wr.cell? ⟨g, k, none⟩ = some (.int .u32 (x : Nat)) := by
            rw [hbw.cell (p := ⟨g, k, none⟩) hgl, ← hx]; exact HG.out k hl8
          rw [hL] at hown
          rw [be4_at] at HL
          obtain ⟨b3, h3⟩ : ∃ b, UInt8.ofNat (x / 16777216 % 256) = b := ⟨_, rfl⟩
          obtain ⟨b2, h2⟩ : ∃ b, UInt8.ofNat (x / 65536 % 256) = b := ⟨_, rfl⟩
          obtain ⟨b1, h1⟩ : ∃ b, UInt8.ofNat (x / 256 % 256) = b := ⟨_, rfl⟩
          obtain ⟨b0, h0⟩ : ∃ b, UInt8.ofNat (x % 256) = b := ⟨_, rfl⟩
          have V3 : (x : Int) / 16777216 = (b3.toNat : Int) := by rw [← h3]; simp; omega
          have V2 : (x : Int) / 65536 % 256 = (b2.toNat : Int) := by rw [← h2]; simp
          have V1 : (x : Int) / 256 % 256 = (b1.toNat : Int) := by rw [← h1]; simp
          have V0 : (x : Int) % 256 = (b0.toNat : Int) := by rw [← h0]; simp
          rw [h3, h2, h1, h0] at HL
          have q3 := byte_lt32 b3
          obtain ⟨A, cap, rfl, _⟩ := owns_slice hown
          clear h3 h2 h1 h0 hx hL
          go_wp2_with fail
          refine wp_region_any (by kernel_rfl) ?_
          change wpAny _ _ _ _ _ _ _ (World.drew _)
          refine wpAny_take (i := 0) (v := .slice A (4 * k) cap) rfl (by kernel_rfl) (by kernel_rfl) (by kernel_rfl) (fun _ _ _ h => h) (Or.inl ⟨by kernel_rfl, ?_⟩) ?_
          · intro w; go_simp
          refine wpAny_quiet_tail (C := fun w' => ∃ n, w' = wr.drewN n) 1 24 (by rfl) (by kernel_rfl) ⟨1, rfl⟩ ?_
          simp only [List.take_succ_cons, List.take_zero, List.drop_succ_cons, List.drop_zero]
          go_simp
          repeat (go_big_quiet_step (fail))
          refine wpQuiet_nil ?_
          intro nq
          have hown2 : (wr.drewN nq).ownsRow w5.heap.size 5 1 (.slice A (4 * k) cap) (4 * k) (cel8 L) := hown
          have hbw2 := hbw.drewN nq
          have hsz2 := hbw2.size
          clear hown hbw c1
          generalize wr.drewN nq = w6 at *
          go_wp2_with (at_builtin; refine wpList_append_own _ rfl (.tmp 33) (.tmp 57) 35 rfl w5.heap.size 5 i0 (.int .u8 0) 1 1 Tryd.underlying35 hi hz0 hz1 hz2 rfl (by decide) (.slice A (4 * k) cap) (4 * k) (cel8 L) rfl (hown2.alloc _) ⟨w6.heap.size, 0, none⟩ 4 4 (cel8 [b3, b2, b1, b0]) rfl rfl (World.news_of_block (heap_alloc_new w6 _)) (cel8_one _) (by unfold maxLen; omega) (by omega) (by simp; omega) ?_; intro v' w7 hown7 hgrow hiff; clear hiff)
          have hb7 : Below w5.heap.size w5 w7 := app_below8 hgrow hbw2 hsz2 (hown2.alloc _)
          rw [← cel8_app, ← HL.out] at hown7
          clear hgrow hown2 hbw2
          go_roundw
          case rel => exact ⟨k + 1, by omega, by go_num, by rw [show 4 * (k + 1) = 4 * k + 4 by omega]; exact hown7, hb7⟩
          case measure => simp [intOf]; omega
        · have e : k = 8 := by omega
          subst e
          have HO : Hid ((st.l.take 8).flatMap (be 4) = dig s.data.toList) := by show _ = _; rw [HD2.out]; rfl
          rw [HO.out] at hown
          obtain ⟨a', cap, rfl, hcv⟩ := conv_owned hown (by rw [dig_len]) (by decide)
          have HB := Lib.hid (HBN.out.trans (hbw.mono hsN))
          clear hown hbw
          go_wp2_with fail
          go_ret
          exact ⟨rfl, HB.out⟩
end Go.Proofs.YteajhimmhlccdaaDoor
