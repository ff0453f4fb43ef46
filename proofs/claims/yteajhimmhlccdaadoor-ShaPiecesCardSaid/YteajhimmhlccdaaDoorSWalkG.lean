/-
  Contract of layer 4: the document's block.
-/
import Derived.Test.YteajhimmhlccdaaDoorSWalkQ
import Derived.Test.YteajhimmhlccdaaDoorSQTail
import Derived.Test.YteajhimmhlccdaaDoorSWalkD
import Derived.Deep.CutBlock
namespace Go.Proofs.YteajhimmhlccdaaDoor
open Go.RowKit

theorem firsts_snoc (B : List UInt8) (t : Nat) : (List.range (t + 1)).map (word B) = (List.range t).map (word B) ++ [word B t] := by rw [List.range_succ, List.map_append]; rfl

theorem or_join (A b i : Nat) (h1 : A % 2 ^ i = 0) (h2 : b < 2 ^ i) (h3 : A < 4294967296) (h4 : b < 4294967296) : bits .or .u32 (A : Int) (b : Int) = ((A + b : Nat) : Int) := by
  rw [or_i A b h3 h4, nat_join i A b h1 h2]
theorem word_n (a b c d P Q R : Nat) (ha : a < 256) (hb : b < 256) (hc : c < 256) (hd : d < 256) (hP : P = a * 16777216) (hQ : Q = b * 65536) (hR : R = c * 256) :
    bits .or .u32 (bits .or .u32 (bits .or .u32 (P : Int) (Q : Int)) (R : Int)) (d : Int) = ((((a * 256 + b) * 256 + c) * 256 + d : Nat) : Int) := by
  rw [or_join P Q 24 (by omega) (by omega) (by omega) (by omega), or_join (P + Q) R 16 (by omega) (by omega) (by omega) (by omega), or_join (P + Q + R) d 8 (by omega) (by omega) (by omega) (by omega)]
  omega
theorem word_i (b0 b1 b2 b3 : UInt8) : bits .or .u32 (bits .or .u32 (bits .or .u32 ((b0.toNat : Int) * 16777216) ((b1.toNat : Int) * 65536)) ((b2.toNat : Int) * 256)) (b3.toNat : Int) = ((((b0.toNat * 256 + b1.toNat) * 256 + b2.toNat) * 256 + b3.toNat : Nat) : Int) := by
  have h := word_n b0.toNat b1.toNat b2.toNat b3.toNat _ _ _ (byte_lt32 b0) (byte_lt32 b1) (byte_lt32 b2) (byte_lt32 b3) rfl rfl rfl
  rw [Int.natCast_mul, Int.natCast_mul, Int.natCast_mul] at h
  exact h

theorem right_lit (x n : Nat) (N : Int) (hN : N = (n : Int)) (hx : x < 4294967296) (h1 : 0 < n) (h2 : n < 32) (w : World) :
    Calls Tryd.prog 23 #[.int .u32 x, .int .u64 N] w fun e w' => e = .returned (.int .u32 (rot x n : Nat)) ∧ w = w' := by
  rw [hN]; exact right_any x n hx h1 h2 w
theorem UR.new8 (w : World) (t : TypeId) (x0 x1 x2 x3 x4 x5 x6 x7 : Nat) : UR (w.alloc (.cells #[.int .u32 (x0 : Nat), .int .u32 (x1 : Nat), .int .u32 (x2 : Nat), .int .u32 (x3 : Nat), .int .u32 (x4 : Nat), .int .u32 (x5 : Nat), .int .u32 (x6 : Nat), .int .u32 (x7 : Nat)] t)) w.heap.size 8 (fun j => (St.mk x0 x1 x2 x3 x4 x5 x6 x7).l.getD j 0) :=
  UR.of_block (heap_alloc_new w _) (fun j hj => by
    match j, hj with
    | 0, _ => rfl
    | 1, _ => rfl
    | 2, _ => rfl
    | 3, _ => rfl
    | 4, _ => rfl
    | 5, _ => rfl
    | 6, _ => rfl
    | 7, _ => rfl)
theorem plus_getD (q s : St) (i : Nat) (h : i < 8) : (q.plus s).l.getD i 0 = (q.l.getD i 0 + s.l.getD i 0) % 4294967296 := by
  match i, h with
  | 0, _ => rfl
  | 1, _ => rfl
  | 2, _ => rfl
  | 3, _ => rfl
  | 4, _ => rfl
  | 5, _ => rfl
  | 6, _ => rfl
  | 7, _ => rfl
theorem g1_i (x : Nat) (hx : x < 4294967296) : bits .xor .u32 (bits .xor .u32 ((rot x 17 : Nat) : Int) ((rot x 19 : Nat) : Int)) ((x : Int) / 1024) = (g1 x : Nat) := by
  rw [show ((x : Int) / 1024) = ((x / 1024 : Nat) : Int) from rfl, xor_i _ _ (rot_lt _ hx) (rot_lt _ hx), xor_i _ _ (xor32 (rot_lt _ hx) (rot_lt _ hx)) (div32 _ hx)]; rfl
theorem g0_i (x : Nat) (hx : x < 4294967296) : bits .xor .u32 (bits .xor .u32 ((rot x 7 : Nat) : Int) ((rot x 18 : Nat) : Int)) ((x : Int) / 8) = (g0 x : Nat) := by
  rw [show ((x : Int) / 8) = ((x / 8 : Nat) : Int) from rfl, xor_i _ _ (rot_lt _ hx) (rot_lt _ hx), xor_i _ _ (xor32 (rot_lt _ hx) (rot_lt _ hx)) (div32 _ hx)]; rfl
theorem S1_i (x : Nat) (hx : x < 4294967296) : bits .xor .u32 (bits .xor .u32 ((rot x 6 : Nat) : Int) ((rot x 11 : Nat) : Int)) ((rot x 25 : Nat) : Int) = (S1 x : Nat) := by
  rw [xor_i _ _ (rot_lt _ hx) (rot_lt _ hx), xor_i _ _ (xor32 (rot_lt _ hx) (rot_lt _ hx)) (rot_lt _ hx)]; rfl
theorem S0_i (x : Nat) (hx : x < 4294967296) : bits .xor .u32 (bits .xor .u32 ((rot x 2 : Nat) : Int) ((rot x 13 : Nat) : Int)) ((rot x 22 : Nat) : Int) = (S0 x : Nat) := by
  rw [xor_i _ _ (rot_lt _ hx) (rot_lt _ hx), xor_i _ _ (xor32 (rot_lt _ hx) (rot_lt _ hx)) (rot_lt _ hx)]; rfl

set_option maxRecDepth 100000 in
set_option maxHeartbeats 4000000 in
theorem block_any (s : St) (hs : s.ok) (B : List UInt8) (hB : B.length = 64) (gh ch gk ck gb off cb : Nat) (w : World)
    (Hh : Hid (RW w gh 8 (fun j => s.l.getD j 0))) (Hk : Hid (RW w gk 64 (fun j => ktab.getD j 0))) (Hb : Hid (∀ j (h : j < B.length), w.cell? ⟨gb, off + j, none⟩ = some (.int .u8 (B[j].toNat : Int))))
    (lh : gh < w.heap.size) (lk : gk < w.heap.size) (lb : gb < w.heap.size) :
    Calls Tryd.prog 17 #[.slice (some ⟨gh, 0, none⟩) 8 ch, .slice (some ⟨gk, 0, none⟩) 64 ck, .slice (some ⟨gb, off, none⟩) 64 cb] w fun e w' => ∃ g c, e = .returned (.slice (some ⟨g, 0, none⟩) 8 c) ∧ 8 ≤ c ∧
      g < w'.heap.size ∧ RW w' g 8 (fun j => (cmp s B).l.getD j 0) ∧ Below w.heap.size w w' := by
  obtain ⟨i0, hi, hz0, hz1, hz2⟩ := info_parts info42
  have HB := Lib.hid hB
  clear hB
  go_enter Tryd.func17, Tryd.ntmps17
  go_wp2_with fail
  go_loopw [7, 8] (fun v tv wr => ∃ t : Nat, t ≤ 16 ∧ tv = .int .i64 t ∧ wr.ownsRow w.heap.size 42 1 v t (celk .u32 ((List.range t).map (word B))) ∧ Below w.heap.size w wr) (fun _ tv _ => 16 - (intOf tv).toNat)
  case atStart => exact ⟨0, by decide, rfl, World.ownsRow_nil _ _ _ _, Below.refl _ _⟩
  case round =>
    obtain ⟨t, ht, rfl, hown, hbw⟩ := hrel
    have hsz := hbw.size
    by_cases hlt : t < 16
    · have bl : ∀ j, j < 4 → 4 * t + j < B.length := fun j hj => by rw [HB.out]; omega
      have c0 := (hbw.cell (p := ⟨gb, off + (4 * t), none⟩) lb).trans (Hb.out (4 * t) (bl 0 (by decide)))
      have c1 := (hbw.cell (p := ⟨gb, off + (4 * t + 1), none⟩) lb).trans (Hb.out (4 * t + 1) (bl 1 (by decide)))
      have c2 := (hbw.cell (p := ⟨gb, off + (4 * t + 2), none⟩) lb).trans (Hb.out (4 * t + 2) (bl 2 (by decide)))
      have c3 := (hbw.cell (p := ⟨gb, off + (4 * t + 3), none⟩) lb).trans (Hb.out (4 * t + 3) (bl 3 (by decide)))
      have hw := word_four B t (bl 3 (by decide))
      obtain ⟨b0, h0⟩ : ∃ b, B[4 * t]'(bl 0 (by decide)) = b := ⟨_, rfl⟩
      obtain ⟨b1, h1⟩ : ∃ b, B[4 * t + 1]'(bl 1 (by decide)) = b := ⟨_, rfl⟩
      obtain ⟨b2, h2⟩ : ∃ b, B[4 * t + 2]'(bl 2 (by decide)) = b := ⟨_, rfl⟩
      obtain ⟨b3, h3⟩ : ∃ b, B[4 * t + 3]'(bl 3 (by decide)) = b := ⟨_, rfl⟩
      rw [h0] at c0 hw
      rw [h1] at c1 hw
      rw [h2] at c2 hw
      rw [h3] at c3 hw
      clear h0 h1 h2 h3 bl
      have hx := word_i b0 b1 b2 b3
      rw [← hw] at hx
      obtain ⟨x, hxx⟩ : ∃ x, word B t = x := ⟨_, rfl⟩
      rw [hxx] at hx
      have HW : Hid ((List.range (t + 1)).map (word B) = (List.range t).map (word B) ++ [x]) := by show _ = _; rw [firsts_snoc, hxx]
      clear hw hxx
      have q0 := byte_lt32 b0
      have q1 := byte_lt32 b1
      have q2 := byte_lt32 b2
      have q3 := byte_lt32 b3
      obtain ⟨X, hX⟩ : ∃ X, (List.range t).map (word B) = X := ⟨_, rfl⟩
      rw [hX] at hown
      have HX := Lib.hid hX
      clear hX
      obtain ⟨A, cap, rfl, _⟩ := owns_slice hown
      go_wp2_with fail
      refine wp_region_any (by kernel_rfl) ?_
      change wpAny _ _ _ _ _ _ _ (World.drew _)
      refine wpAny_take (i := 0) (v := .slice A t cap) rfl (by kernel_rfl) (by kernel_rfl) (by kernel_rfl) (fun _ _ _ h => h) (Or.inl ⟨by kernel_rfl, ?_⟩) ?_
      · intro w; go_simp
      refine wpAny_quiet_tail (C := fun w' => ∃ n, w' = wr.drewN n) 1 34 (by rfl) (by kernel_rfl) ⟨1, rfl⟩ ?_
      simp only [List.take_succ_cons, List.take_zero, List.drop_succ_cons, List.drop_zero]
      go_simp
      repeat (go_big_quiet_step (fail))
      refine wpQuiet_nil ?_
      intro nq
      have hown1 : (wr.drewN nq).ownsRow w.heap.size 42 1 (.slice A t cap) t (celk .u32 X) := hown
      have hbw1 := hbw.drewN nq
      have hsz1 := hbw1.size
      clear hown hbw hsz c0 c1 c2 c3
      generalize wr.drewN nq = w1 at *
      go_wp2_with (at_builtin; refine wpList_append_own _ rfl (.tmp 25) (.tmp 59) 37 rfl w.heap.size 42 i0 (.int .u32 0) 1 4 Tryd.underlying37 hi hz0 hz1 hz2 rfl (by decide) (.slice A t cap) t (celk .u32 X) rfl (hown1.alloc _) ⟨w1.heap.size, 0, none⟩ 1 1 [.int .u32 (x : Nat)] rfl rfl (one_cell _ _ _) (one_one _ _) (by unfold maxLen; omega) (by omega) (by simp; omega) ?_; intro v' w2 hown2 hgrow hiff; clear hiff)
      have hb2 := app_below hgrow hbw1 hsz1 (hown1.alloc _)
      rw [← celk_snoc, ← HX.out, ← HW.out] at hown2
      clear hgrow hown1 hbw1
      go_roundw
      case rel => exact ⟨t + 1, by omega, by go_num, hown2, hb2⟩
      case measure => simp [intOf]; omega
    · have hown0 : wr.ownsRow w.heap.size 42 1 u7 (16 + 0) (celk .u32 (sch B 0)) := by
        have e : t = 16 := by omega
        rw [e] at hown
        exact hown
      clear hown
      go_wp2_with fail
      go_loopw [7, 9, 10, 11, 12, 13] (fun v tv _ _ _ _ wr => ∃ m : Nat, m ≤ 48 ∧ tv = .int .i64 ((16 : Int) + m) ∧ wr.ownsRow w.heap.size 42 1 v (16 + m) (celk .u32 (sch B m)) ∧ Below w.heap.size w wr) (fun _ tv _ _ _ _ _ => 64 - (intOf tv).toNat)
      case atStart => exact ⟨0, by decide, rfl, hown0, hbw⟩
      case round =>
        clear hown0 hbw hlt ht hsz
        obtain ⟨m, hm, rfl, hown, hbw⟩ := hrel
        have hsz := hbw.size
        obtain ⟨t, hmt⟩ : ∃ t, 16 + m = t := ⟨_, rfl⟩
        have hmt' : ((16 : Int) + (m : Int)) = (t : Int) := by omega
        rw [hmt'] 
        rw [hmt] at hown
        clear hmt'
        by_cases hlt : t < 64
        · have ht16 : 16 ≤ t := by omega
          obtain ⟨L, hL⟩ : ∃ L, sch B m = L := ⟨_, rfl⟩
          have hlen : L.length = t := by rw [← hL, sch_len, hmt]
          have hlt32 : ∀ i, L.getD i 0 < 4294967296 := fun i => by rw [← hL]; exact getD_lt (sch_lt B m) i
          have HN : Hid (sch B (m + 1) = L ++ [nxt L]) := by show _ = _; rw [sch, hL]
          rw [hL] at hown
          clear hL
          obtain ⟨A, cap, rfl, hf⟩ := owns_slice hown
          obtain ⟨g, rfl, hg1, hg2, _, _, hcell⟩ := hf (by omega)
          obtain ⟨x1, h1⟩ : ∃ x, L.getD (t - 2) 0 = x := ⟨_, rfl⟩
          obtain ⟨x2, h2⟩ : ∃ x, L.getD (t - 7) 0 = x := ⟨_, rfl⟩
          obtain ⟨x3, h3⟩ : ∃ x, L.getD (t - 15) 0 = x := ⟨_, rfl⟩
          obtain ⟨x4, h4⟩ : ∃ x, L.getD (t - 16) 0 = x := ⟨_, rfl⟩
          have c1 := ((hcell (t - 2) (by omega)).1).trans (celk_getD .u32 L (t - 2) (by omega))
          have c2 := ((hcell (t - 7) (by omega)).1).trans (celk_getD .u32 L (t - 7) (by omega))
          have c3 := ((hcell (t - 15) (by omega)).1).trans (celk_getD .u32 L (t - 15) (by omega))
          have c4 := ((hcell (t - 16) (by omega)).1).trans (celk_getD .u32 L (t - 16) (by omega))
          have HX : Hid (nxt L = ((((g1 x1 + x2) % 4294967296 + g0 x3) % 4294967296) + x4) % 4294967296) := by show _ = _; rw [nxt, hlen, h1, h2, h3, h4]
          have l1 : x1 < 4294967296 := h1 ▸ hlt32 _
          have l2 : x2 < 4294967296 := h2 ▸ hlt32 _
          have l3 : x3 < 4294967296 := h3 ▸ hlt32 _
          have l4 : x4 < 4294967296 := h4 ▸ hlt32 _
          rw [h1] at c1
          rw [h2] at c2
          rw [h3] at c3
          rw [h4] at c4
          have E1 := g1_i x1 l1
          have E0 := g0_i x3 l3
          have HLen := Lib.hid hlen
          have HMT := Lib.hid hmt
          clear h1 h2 h3 h4 hlt32 hf hcell hlen hmt
          have b1 : (0 : Int) ≤ (t : Int) - 2 ∧ (t : Int) - 2 < (t : Int) := by omega
          have b2 : (0 : Int) ≤ (t : Int) - 7 ∧ (t : Int) - 7 < (t : Int) := by omega
          have b3 : (0 : Int) ≤ (t : Int) - 15 ∧ (t : Int) - 15 < (t : Int) := by omega
          have b4 : (0 : Int) ≤ (t : Int) - 16 ∧ (t : Int) - 16 < (t : Int) := by omega
          obtain ⟨b11, b12⟩ := b1
          obtain ⟨b21, b22⟩ := b2
          obtain ⟨b31, b32⟩ := b3
          obtain ⟨b41, b42⟩ := b4
          have n1 : ((t : Int) - 2).toNat = t - 2 := by omega
          have n2 : ((t : Int) - 7).toNat = t - 7 := by omega
          have n3 : ((t : Int) - 15).toNat = t - 15 := by omega
          have n4 : ((t : Int) - 16).toNat = t - 16 := by omega
          go_wp2_with fail
          go_quiet (fail)
          have hown1 : (wr.drewN nq).ownsRow w.heap.size 42 1 (.slice (some ⟨g, 0, none⟩) t cap) t (celk .u32 L) := hown
          have hbw1 := hbw.drewN nq
          have hsz1 := hbw1.size
          have c2' : (wr.drewN nq).cell? ⟨g, t - 7, none⟩ = some (.int .u32 (x2 : Nat)) := by simpa using c2
          have c4' : (wr.drewN nq).cell? ⟨g, t - 16, none⟩ = some (.int .u32 (x4 : Nat)) := by simpa using c4
          clear hown hbw hsz c1 c2 c3 c4
          generalize wr.drewN nq = w1 at *
          go_wp2_with (go_at_call 23; refine (right_lit _ _ _ (by rfl) (by assumption) (by decide) (by decide) _).mono ?_; rintro e w' ⟨rfl, rfl⟩)
          refine wp_region_any (by kernel_rfl) ?_
          change wpAny _ _ _ _ _ _ _ (World.drew _)
          refine wpAny_take (i := 0) (v := .slice (some ⟨g, 0, none⟩) t cap) rfl (by kernel_rfl) (by kernel_rfl) (by kernel_rfl) (fun _ _ _ h => h) (Or.inl ⟨by kernel_rfl, ?_⟩) ?_
          · intro w; go_simp
          refine wpAny_quiet_tail (C := fun w' => ∃ n, w' = w1.drewN n) 1 16 (by rfl) (by kernel_rfl) ⟨1, rfl⟩ ?_
          simp only [List.take_succ_cons, List.take_zero, List.drop_succ_cons, List.drop_zero]
          go_simp
          repeat (go_big_quiet_step (fail))
          refine wpQuiet_nil ?_
          intro nq
          have hown2 : (w1.drewN nq).ownsRow w.heap.size 42 1 (.slice (some ⟨g, 0, none⟩) t cap) t (celk .u32 L) := hown1
          have hbw2 := hbw1.drewN nq
          have hsz2 := hbw2.size
          clear hown1 hbw1 hsz1 c2' c4'
          generalize w1.drewN nq = w2 at *
          have HV : (((g1 x1 : Nat) : Int) + (x2 : Int) + ((g0 x3 : Nat) : Int) + (x4 : Int)) % 4294967296 = ((nxt L : Nat) : Int) := by rw [HX.out]; omega
          obtain ⟨y, hy⟩ : ∃ y, nxt L = y := ⟨_, rfl⟩
          rw [hy] at HV
          have HY := Lib.hid hy
          clear hy
          go_wp2_with (at_builtin; refine wpList_append_own _ rfl (.tmp 91) (.tmp 107) 37 rfl w.heap.size 42 i0 (.int .u32 0) 1 4 Tryd.underlying37 hi hz0 hz1 hz2 rfl (by decide) (.slice (some ⟨g, 0, none⟩) t cap) t (celk .u32 L) rfl (hown2.alloc _) ⟨w2.heap.size, 0, none⟩ 1 1 [.int .u32 (y : Nat)] rfl rfl (one_cell _ _ _) (one_one _ _) (by unfold maxLen; omega) (by omega) (by simp; omega) ?_; intro v' w3 hown3 hgrow hiff; clear hiff)
          have hb3 := app_below hgrow hbw2 hsz2 (hown2.alloc _)
          rw [← celk_snoc, ← HY.out, ← HN.out] at hown3
          clear hgrow hown2 hbw2
          go_roundw
          case rel => exact ⟨m + 1, by have := HMT.out; omega, by have := HMT.out; congr 1; omega, by have := HMT.out; rw [show 16 + (m + 1) = t + 1 by omega]; exact hown3, hb3⟩
          case measure => simp [intOf]; omega
        · have e : t = 64 := by omega
          subst e
          have em : m = 48 := by omega
          subst em
          obtain ⟨A, cap, rfl, hf⟩ := owns_slice hown
          obtain ⟨gW, rfl, _, lW, _, _, hcell⟩ := hf (by decide)
          have HRW : Hid (RW wr gW 64 (fun j => (wl B).getD j 0)) := fun j hj => (hcell j hj).1.trans (celk_getD .u32 (wl B) j (by rw [wl_len]; exact hj))
          have hnews : Hid (∀ j u, (celk .u32 s.l)[j]? = some u → wr.cell? ((⟨gh, 0, none⟩ : Addr).add j) = some u) := by
            intro j u hu
            have hj : j < s.l.length := by have := (List.getElem?_eq_some_iff.1 hu).1; simpa [celk] using this
            have e : (⟨gh, 0, none⟩ : Addr).add j = ⟨gh, j, none⟩ := by unfold Addr.add; split <;> simp_all
            rw [e, hbw.cell (p := ⟨gh, j, none⟩) lh, Hh.out j hj, ← hu, celk_getD .u32 s.l j hj]
          clear hown hf hcell hmt
          go_upto_region 15 with (at_builtin; refine wpList_append_own _ rfl (.tmp 109) (.tmp 110) 37 rfl w.heap.size 42 i0 (.int .u32 0) 1 4 Tryd.underlying37 hi hz0 hz1 hz2 rfl (by decide) (.slice none 0 0) 0 [] rfl (World.ownsRow_nil _ _ _ _) ⟨gh, 0, none⟩ 8 ch (celk .u32 s.l) rfl rfl hnews.out (cel32_one _) (by unfold maxLen; omega) (by omega) hsz ?_; intro v' w3 hown3 hgrow hiff; clear hiff)
          simp only [Nat.zero_add, List.nil_append] at hown3
          obtain ⟨A, cap3, rfl, hf3⟩ := owns_slice hown3
          obtain ⟨g3, rfl, hgB, hgl, hgc, _, hcell3⟩ := hf3 (by decide)
          have hU : UR w3 g3 8 (fun j => s.l.getD j 0) := fun j hj => ⟨(hcell3 j hj).1.trans (celk_getD .u32 s.l j hj), (hcell3 j hj).2⟩
          have hbw3 : Below w.heap.size w w3 := hbw.grown hgrow hsz (fun k hk => by cases hk)
          have HRW3 : Hid (RW w3 gW 64 (fun j => (wl B).getD j 0)) := fun j hj => (hgrow.cell_far ⟨gW, j, none⟩ lW (by simp [Value.ownBlock])).trans (HRW.out j hj)
          have lW3 : gW < w3.heap.size := Nat.lt_of_lt_of_le lW hgrow.size
          have HBW := Lib.hid hbw3
          have hS3 := hbw3.size
          clear hown3 hf3 hcell3 hgrow HRW hnews lW hbw hsz hbw3
          go_wp2_with fail
          go_loopw [14, 15, 16, 17, 18, 19] (fun v kv _ _ _ _ wr => ∃ (k : Nat) (q : St) (g c : Nat), k ≤ 64 ∧ kv = .int .i64 k ∧ v = .slice (some ⟨g, 0, none⟩) 8 c ∧ 8 ≤ c ∧ w.heap.size ≤ g ∧ g < wr.heap.size ∧ UR wr g 8 (fun j => q.l.getD j 0) ∧ Hid q.ok ∧ Hid (q = rnds s (wl B) k) ∧ Below w3.heap.size w3 wr) (fun _ kv _ _ _ _ _ => 64 - (intOf kv).toNat)
          case atStart => exact ⟨0, s, g3, cap3, by decide, rfl, rfl, hgc, hgB, hgl, hU, hs, rfl, Below.refl _ _⟩
          case round =>
            clear hU hgc hgB hgl
            obtain ⟨k, ⟨a, b, c, d, e, f, gg, h⟩, g, cp, hk, rfl, rfl, hgc, hgB, hgl, hU, HOK, HQ, hbw⟩ := hrel
            have hsz := hbw.size
            by_cases hlt : k < 64
            · obtain ⟨wk, hwk⟩ : ∃ x, (wl B).getD k 0 = x := ⟨_, rfl⟩
              obtain ⟨kk, hkk⟩ : ∃ x, ktab.getD k 0 = x := ⟨_, rfl⟩
              have HQ1 : Hid (rnd ⟨a, b, c, d, e, f, gg, h⟩ kk wk = rnds s (wl B) (k + 1)) := by show _ = _; rw [rnds, ← HQ.out, hwk, hkk]
              have HOK1 : Hid (rnd ⟨a, b, c, d, e, f, gg, h⟩ kk wk).ok := rnd_ok _ _ HOK.out
              have HWK : Hid (w3.cell? ⟨gW, k, none⟩ = some (.int .u32 (wk : Nat))) := by show _ = _; rw [← hwk]; exact HRW3.out k hlt
              have HKK : Hid (w3.cell? ⟨gk, k, none⟩ = some (.int .u32 (kk : Nat))) := by show _ = _; rw [← hkk]; exact (HBW.out.cell (p := ⟨gk, k, none⟩) lk).trans (Hk.out k hlt)
              have lk3 : gk < w3.heap.size := Nat.lt_of_lt_of_le lk hS3
              clear hwk hkk
              obtain ⟨qa, qb, qc, qd, qe, qf, qg, qh⟩ := HOK.out
              simp only at qa qb qc qd qe qf qg qh
              have E1 := ch_i e f gg qe qf qg
              have E2 := mj_i a b c qa qb qc
              have E3 := S1_i e qe
              have E4 := S0_i a qa
              have hx : (((h : Int) + (S1 e : Nat) + bits .xor .u32 (bits .and .u32 (e : Int) (f : Int)) (bits .and .u32 (bits .xor .u32 (if IntKind.u32.signed = true then -1 else IntKind.u32.max) (e : Int)) (gg : Int)) + (kk : Int)) % 4294967296 + (wk : Int)) % 4294967296 = (tx ⟨a, b, c, d, e, f, gg, h⟩ kk wk : Nat) := by
                rw [show (if IntKind.u32.signed = true then (-1 : Int) else IntKind.u32.max) = IntKind.u32.max from rfl, E1]
                simp only [tx]
                omega
              have hy : ((S0 a : Nat) + (mj a b c : Nat) : Int) % 4294967296 = (ty ⟨a, b, c, d, e, f, gg, h⟩ : Nat) := by simp only [ty]; omega
              obtain ⟨X, hX⟩ : ∃ X, tx ⟨a, b, c, d, e, f, gg, h⟩ kk wk = X := ⟨_, rfl⟩
              obtain ⟨Y, hY⟩ : ∃ Y, ty ⟨a, b, c, d, e, f, gg, h⟩ = Y := ⟨_, rfl⟩
              obtain ⟨P1, h1⟩ : ∃ P, (X + Y) % 4294967296 = P := ⟨_, rfl⟩
              obtain ⟨P2, h2⟩ : ∃ P, (d + X) % 4294967296 = P := ⟨_, rfl⟩
              have V1 : ((X : Int) + (Y : Int)) % 4294967296 = (P1 : Int) := by omega
              have V2 : ((d : Int) + (X : Int)) % 4294967296 = (P2 : Int) := by omega
              have HR : Hid (rnd ⟨a, b, c, d, e, f, gg, h⟩ kk wk = ⟨P1, a, b, c, P2, e, f, gg⟩) := by show _ = _; rw [rnd, hX, hY, h1, h2]
              rw [hX] at hx
              rw [hY] at hy
              have HX := Lib.hid hx
              have HY := Lib.hid hy
              clear hx hy hX hY h1 h2
              have c0 : wr.cell? ⟨g, 0, none⟩ = some (.int .u32 (a : Nat)) := (hU 0 (by decide)).1
              have c4 : wr.cell? ⟨g, 4, none⟩ = some (.int .u32 (e : Nat)) := (hU 4 (by decide)).1
              go_wp2_with fail
              go_quiet (fail)
              have hU1 := hU.drewN nq
              have hbw1 := hbw.drewN nq
              have hgl1 : g < (wr.drewN nq).heap.size := hgl
              clear hU hbw hgl hsz c0 c4
              generalize wr.drewN nq = w4 at *
              have c5 : w4.cell? ⟨g, 5, none⟩ = some (.int .u32 (f : Nat)) := (hU1 5 (by decide)).1
              have c6 : w4.cell? ⟨g, 6, none⟩ = some (.int .u32 (gg : Nat)) := (hU1 6 (by decide)).1
              have c7 : w4.cell? ⟨g, 7, none⟩ = some (.int .u32 (h : Nat)) := (hU1 7 (by decide)).1
              have ck : w4.cell? ⟨gk, k, none⟩ = some (.int .u32 (kk : Nat)) := (hbw1.cell (p := ⟨gk, k, none⟩) lk3).trans HKK.out
              have cw : w4.cell? ⟨gW, k, none⟩ = some (.int .u32 (wk : Nat)) := (hbw1.cell (p := ⟨gW, k, none⟩) lW3).trans HWK.out
              go_wp2_with fail
              go_quiet ((go_at_call 23; exact quiet_eq (right_lit _ _ _ (by rfl) (by assumption) (by decide) (by decide) _)))
              rw [HX.out]
              have hU2 := hU1.drewN nq
              have hbw2 := hbw1.drewN nq
              have hgl2 : g < (w4.drewN nq).heap.size := hgl1
              clear hU1 hbw1 hgl1 c5 c6 c7 ck cw E1 E3
              generalize w4.drewN nq = w5 at *
              have c1 : w5.cell? ⟨g, 1, none⟩ = some (.int .u32 (b : Nat)) := (hU2 1 (by decide)).1
              have c2 : w5.cell? ⟨g, 2, none⟩ = some (.int .u32 (c : Nat)) := (hU2 2 (by decide)).1
              go_wp2_with fail
              go_quiet ((go_at_call 23; exact quiet_eq (right_lit _ _ _ (by rfl) (by assumption) (by decide) (by decide) _)))
              rw [HY.out]
              have hU3 := hU2.drewN nq
              have hbw3 := hbw2.drewN nq
              have hgl3 : g < (w5.drewN nq).heap.size := hgl2
              clear hU2 hbw2 hgl2 c1 c2 E2 E4
              generalize w5.drewN nq = w6 at *
              have c1 : w6.cell? ⟨g, 1, none⟩ = some (.int .u32 (b : Nat)) := (hU3 1 (by decide)).1
              have c2 : w6.cell? ⟨g, 2, none⟩ = some (.int .u32 (c : Nat)) := (hU3 2 (by decide)).1
              have c3 : w6.cell? ⟨g, 3, none⟩ = some (.int .u32 (d : Nat)) := (hU3 3 (by decide)).1
              have c5 : w6.cell? ⟨g, 5, none⟩ = some (.int .u32 (f : Nat)) := (hU3 5 (by decide)).1
              have c6 : w6.cell? ⟨g, 6, none⟩ = some (.int .u32 (gg : Nat)) := (hU3 6 (by decide)).1
              go_wp2_with fail
              refine wp_region_quiet_tail 22 (by kernel_rfl) (by kernel_rfl) ?_
              simp only [List.take_succ_cons, List.take_zero, List.drop_succ_cons, List.drop_zero]
              repeat (go_big_quiet_step (fail))
              refine wpQuiet_nil ?_
              rintro _ ⟨nq, rfl⟩
              have hbw4 := hbw3.drewN nq
              clear c1 c2 c3 c5 c6 hU3 hbw3 hgl3
              generalize w6.drewN nq = w7 at *
              have hs7 := hbw4.size
              go_wp2_with fail
              go_roundw
              case rel =>
                refine ⟨k + 1, ⟨P1, a, b, c, P2, e, f, gg⟩, w7.heap.size, 8, by omega, by go_num, rfl, Nat.le_refl _, by omega, by simp, UR.new8 w7 _ P1 a b c P2 e f gg, ?_, ?_, hbw4.alloc hs7 _⟩
                · rw [← HR.out]; exact HOK1
                · rw [← HR.out]; exact HQ1
              case measure => simp [intOf]; omega
            · have e : k = 64 := by omega
              subst e
              have HC : Hid (cmp s B = St.plus ⟨a, b, c, d, e, f, gg, h⟩ s) := by show _ = _; rw [cmp, ← HQ.out]
              clear HQ HOK HRW3
              have hbN : Below w.heap.size w wr := HBW.out.trans (hbw.mono hS3)
              clear hbw
              obtain ⟨q, hq⟩ : ∃ q : St, q = ⟨a, b, c, d, e, f, gg, h⟩ := ⟨_, rfl⟩
              rw [← hq] at HC hU
              clear hq
              go_wp2_with fail
              go_loopw [20] (fun iv w' => ∃ i : Nat, i ≤ 8 ∧ iv = .int .i64 i ∧ UR w' g 8 (fun j => if j < i then (q.plus s).l.getD j 0 else q.l.getD j 0) ∧ g < w'.heap.size ∧ Below w.heap.size w w') (fun iv _ => 8 - (intOf iv).toNat)
              case atStart => exact ⟨0, by decide, rfl, hU.same (fun j _ => by simp), hgl, hbN⟩
              case round =>
                clear hU hgl hbN hsz
                obtain ⟨i, hi8, rfl, hU, hgl, hbN⟩ := hrel
                by_cases hl8 : i < 8
                · obtain ⟨x, hx⟩ : ∃ x, q.l.getD i 0 = x := ⟨_, rfl⟩
                  obtain ⟨y, hy⟩ : ∃ y, s.l.getD i 0 = y := ⟨_, rfl⟩
                  have c1 : wr.cell? ⟨g, i, none⟩ = some (.int .u32 (q.l.getD i 0 : Nat)) := by have := (hU i hl8).1; simpa using this
                  have f1 := (hU i hl8).2
                  rw [hx] at c1
                  have c2 : wr.cell? ⟨gh, i, none⟩ = some (.int .u32 (s.l.getD i 0 : Nat)) := (hbN.cell (p := ⟨gh, i, none⟩) lh).trans (Hh.out i hl8)
                  rw [hy] at c2
                  have HV : Hid ((q.plus s).l.getD i 0 = (x + y) % 4294967296) := by show _ = _; rw [plus_getD q s i hl8, hx, hy]
                  obtain ⟨p, hp⟩ : ∃ p, (x + y) % 4294967296 = p := ⟨_, rfl⟩
                  have V : ((x : Int) + (y : Int)) % 4294967296 = (p : Int) := by omega
                  rw [hp] at HV
                  clear hx hy hp
                  go_wp2_with fail
                  refine wp_region_quiet_tail 12 (by kernel_rfl) (by kernel_rfl) ?_
                  simp only [List.take_succ_cons, List.take_zero, List.drop_succ_cons, List.drop_zero]
                  repeat (go_big_quiet_step (fail))
                  refine wpQuiet_nil ?_
                  rintro _ ⟨nq, rfl⟩
                  have hU2 := hU.drewN nq
                  have hb2 := hbN.drewN nq
                  have c3 : (wr.drewN nq).cell? ⟨g, i, none⟩ = some (.int .u32 (x : Nat)) := by simpa using c1
                  have f3 : (wr.drewN nq).frozen? ⟨g, i, none⟩ = false := by simpa using f1
                  have hl2 : g < (wr.drewN nq).heap.size := hgl
                  clear hU hbN hgl c1 c2 f1
                  generalize wr.drewN nq = w4 at *
                  go_wp2_with fail
                  go_roundw
                  case rel => exact ⟨i + 1, by omega, by go_num, hU2.store i p hl8 (by show (if i < i + 1 then (q.plus s).l.getD i 0 else q.l.getD i 0) = p; rw [if_pos (Nat.lt_succ_self i)]; exact HV.out) (fun j hj => by by_cases h1 : j < i <;> simp [h1] <;> omega), by simpa using hl2, hb2.setCell (by exact hgB) _⟩
                  case measure => simp [intOf]; omega
                · have HR : Hid (RW wr g 8 (fun j => (cmp s B).l.getD j 0)) := fun j hj => by
                    have := (hU j hj).1
                    rw [HC.out]
                    simpa [show j < i by omega] using this
                  clear hU
                  go_wp2_with fail
                  go_ret
                  exact ⟨g, cp, rfl, hgc, hgl, HR.out, hbN⟩
end Go.Proofs.YteajhimmhlccdaaDoor
