/-
  Contracts of layer 4: the document's constants, its padding.
-/
import Derived.Test.YteajhimmhlccdaaDoorSWalkP
import Derived.Test.YteajhimmhlccdaaDoorSWalkE
import Derived.Deep.CutBlock
namespace Go.Proofs.YteajhimmhlccdaaDoor
open Go.RowKit

theorem info42 : (Tryd.prog.info? 42).map (fun i => (i.zero, i.size, i.bytes)) = some (some (.int .u32 0), 1, 4) := by kernel_rfl
def kOf (p : Nat) : Nat := frN (fun x => cuB x p) 36 0 % 4294967296
def hOf (p : Nat) : Nat := frN (fun x => sqB x p) 36 0 % 4294967296
theorem kOf_all : P64.map kOf = ktab := consts_k
theorem hOf_all : (P64.take 8).map hOf = H0.l := consts_h
theorem fraction_k (p : Nat) (w : World) (x : Nat) (hx : Hid (kOf p = x)) : Calls Tryd.prog 22 #[.int .u64 p, .bool true] w fun e w' => e = .returned (.int .u32 (x : Nat)) ∧ w = w' := by
  rw [← hx.out]; exact fraction_cube p w
theorem fraction_h (p : Nat) (w : World) (x : Nat) (hx : Hid (hOf p = x)) : Calls Tryd.prog 22 #[.int .u64 p, .bool false] w fun e w' => e = .returned (.int .u32 (x : Nat)) ∧ w = w' := by
  rw [← hx.out]; exact fraction_square p w
theorem take_map_snoc (f : Nat → Nat) (L : List Nat) (k : Nat) (h : k < L.length) : (L.take (k + 1)).map f = (L.take k).map f ++ [f L[k]] := by
  rw [List.take_succ_eq_append_getElem h, List.map_append]; rfl

theorem celk_getD (k : IntKind) (L : List Nat) (j : Nat) (h : j < L.length) : (celk k L)[j]? = some (.int k (L.getD j 0 : Nat)) := by
  rw [celk_at k L j h, List.getD_eq_getElem?_getD, List.getElem?_eq_getElem h]; rfl
theorem sep_symm {a b : Option Nat} (h : a = none ∨ a ≠ b) : b = none ∨ b ≠ a := by
  rcases h with rfl | h
  · cases b <;> simp
  · exact .inr (Ne.symm h)
/-- Behind an append the new row lies apart from the other one. -/
theorem sep_new {wr : World} {B : Nat} {t : TypeId} {s n : Nat} {kv hv : Value} {g cap m : Nat} {xs : List Value} {o : Obj} (hoh : wr.ownsRow B t s hv n xs) (D : kv.ownBlock = none ∨ kv.ownBlock ≠ hv.ownBlock)
    (hat : kv.ownBlock = some g ∨ g = (wr.alloc o).heap.size) : (Value.slice (some ⟨g, 0, none⟩) m cap).ownBlock = none ∨ (Value.slice (some ⟨g, 0, none⟩) m cap).ownBlock ≠ hv.ownBlock := by
  right
  show some g ≠ hv.ownBlock
  rcases hat with h | h
  · rw [← h]
    rcases D with D | D
    · rw [D] at h; cases h
    · exact D
  · intro e
    have := (hoh.lt g e.symm).2
    rw [h] at this
    simp at this
    omega

set_option maxRecDepth 100000 in
set_option maxHeartbeats 1000000 in
theorem Constants_any (w : World) :
    Calls Tryd.prog 15 #[] w fun e w' => ∃ g1 g2 c1 c2, e = .returned (.tuple #[.slice (some ⟨g1, 0, none⟩) 64 c1, .slice (some ⟨g2, 0, none⟩) 8 c2]) ∧
      g1 < w'.heap.size ∧ g2 < w'.heap.size ∧ RW w' g1 64 (fun j => ktab.getD j 0) ∧ RW w' g2 8 (fun j => H0.l.getD j 0) ∧ Below w.heap.size w w' := by
  obtain ⟨i0, hi, hz0, hz1, hz2⟩ := info_parts info42
  go_enter Tryd.func15, Tryd.ntmps15
  go_wp2_with fail
  refine (Primes_any _).mono ?_
  rintro e w1 ⟨v, rfl, hown, hb1⟩
  obtain ⟨A, cap, rfl, hf⟩ := owns_slice hown
  obtain ⟨g, rfl, _, hgl, _, _, hcell⟩ := hf (by decide)
  have HC : Hid (∀ j (h : j < 64), w1.cell? ⟨g, j, none⟩ = some (.int .u64 (P64[j]'h : Nat))) := fun j h => by rw [(hcell j h).1]; exact celk_at .u64 P64 j h
  have HB1 := Lib.hid hb1
  clear hf hcell hown hb1
  go_wp2_with fail
  go_loopw [2, 3, 5] (fun kv hv iv wr => ∃ i : Nat, i ≤ 64 ∧ iv = .int .i64 i ∧ wr.ownsRow w1.heap.size 42 1 kv i (celk .u32 ((P64.take i).map kOf)) ∧ wr.ownsRow w1.heap.size 42 1 hv (min i 8) (celk .u32 ((P64.take (min i 8)).map hOf)) ∧
    Hid (kv.ownBlock = none ∨ kv.ownBlock ≠ hv.ownBlock) ∧ Below w1.heap.size w1 wr) (fun _ _ iv _ => 64 - (intOf iv).toNat)
  case atStart => exact ⟨0, by decide, rfl, World.ownsRow_nil _ _ _ _, World.ownsRow_nil _ _ _ _, Or.inl rfl, Below.refl _ _⟩
  case round =>
    obtain ⟨i, hi64, rfl, hok, hoh, HD, hbw⟩ := hrel
    have hsz := hbw.size
    by_cases hlt : i < 64
    · obtain ⟨p, hp⟩ : ∃ p, P64[i]'hlt = p := ⟨_, rfl⟩
      have hc : wr.cell? ⟨g, i, none⟩ = some (.int .u64 (p : Nat)) := by rw [hbw.cell (by exact hgl), HC.out i hlt, hp]
      obtain ⟨x, hx⟩ : ∃ x, kOf p = x := ⟨_, rfl⟩
      obtain ⟨y, hy⟩ : ∃ y, hOf p = y := ⟨_, rfl⟩
      have HX := Lib.hid hx
      have HY := Lib.hid hy
      have HK : Hid ((P64.take (i + 1)).map kOf = (P64.take i).map kOf ++ [x]) := by show _ = _; rw [take_map_snoc kOf P64 i hlt, hp, hx]
      have HH : Hid ((P64.take (i + 1)).map hOf = (P64.take i).map hOf ++ [y]) := by show _ = _; rw [take_map_snoc hOf P64 i hlt, hp, hy]
      clear hp hx hy
      obtain ⟨LK, hLK⟩ : ∃ L, celk .u32 ((P64.take i).map kOf) = L := ⟨_, rfl⟩
      rw [hLK] at hok
      have HLK := Lib.hid hLK
      clear hLK
      go_upto_region 7 with (first
        | (at_builtin; refine wpList_append_lies _ rfl (.tmp 11) (.tmp 17) 37 rfl w1.heap.size 42 i0 (.int .u32 0) 1 4 Tryd.underlying37 hi hz0 hz1 hz2 rfl (by decide) u2 i LK rfl (hok.alloc _) ⟨wr.heap.size, 0, none⟩ 1 1 [.int .u32 (x : Nat)] rfl rfl (one_cell _ _ _) (one_one _ _) (by decide) (by unfold maxLen; omega) (by omega) (by simp; omega) _ rfl ?_; intro g1 cap1 w2 hown1 hgrow1 hat1 hlt1)
        | (go_at_call 22; refine (fraction_k p _ x HX).mono ?_; rintro e w' ⟨rfl, rfl⟩))
      have hb2 := app_below hgrow1 hbw hsz (hok.alloc _)
      have hoh2 := (hoh.alloc _).kept hgrow1 (sep_symm HD.out)
      have HD2 : Hid ((Value.slice (some ⟨g1, 0, none⟩) (i + 1) cap1).ownBlock = none ∨ (Value.slice (some ⟨g1, 0, none⟩) (i + 1) cap1).ownBlock ≠ u3.ownBlock) := sep_new hoh HD.out hat1
      have hok2 : w2.ownsRow w1.heap.size 42 1 (.slice (some ⟨g1, 0, none⟩) (i + 1) cap1) (i + 1) (celk .u32 ((P64.take (i + 1)).map kOf)) := by
        rw [HK.out, celk_snoc, HLK.out]; exact hown1
      have hc2 : w2.cell? ⟨g, i, none⟩ = some (.int .u64 (p : Nat)) := by
        have h1 := hb2.cell (p := ⟨g, i, none⟩) (by exact hgl)
        have h2 := hbw.cell (p := ⟨g, i, none⟩) (by exact hgl)
        rw [h1, ← h2]; exact hc
      clear hown1 hgrow1 hat1 hok hoh HD hbw hsz hc HLK HK
      have hsz := hb2.size
      by_cases h8 : i < 8
      · rw [show min i 8 = i by omega] at hoh2
        obtain ⟨LH, hLH⟩ : ∃ L, celk .u32 ((P64.take i).map hOf) = L := ⟨_, rfl⟩
        rw [hLH] at hoh2
        have HLH := Lib.hid hLH
        clear hLH
        go_upto_region 5 with (first
          | (at_builtin; refine wpList_append_lies _ rfl (.tmp 21) (.tmp 27) 37 rfl w1.heap.size 42 i0 (.int .u32 0) 1 4 Tryd.underlying37 hi hz0 hz1 hz2 rfl (by decide) u3 i LH rfl (hoh2.alloc _) ⟨w2.heap.size, 0, none⟩ 1 1 [.int .u32 (y : Nat)] rfl rfl (one_cell _ _ _) (one_one _ _) (by decide) (by unfold maxLen; omega) (by omega) (by simp; omega) _ rfl ?_; intro g2 cap2 w3 hown2 hgrow2 hat2 hlt2)
          | (go_at_call 22; refine (fraction_h p _ y HY).mono ?_; rintro e w' ⟨rfl, rfl⟩))
        have hb3 := app_below hgrow2 hb2 hsz (hoh2.alloc _)
        have hok3 := (hok2.alloc _).kept hgrow2 HD2.out
        have HD3 : Hid ((Value.slice (some ⟨g1, 0, none⟩) (i + 1) cap1).ownBlock = none ∨ (Value.slice (some ⟨g1, 0, none⟩) (i + 1) cap1).ownBlock ≠ (Value.slice (some ⟨g2, 0, none⟩) (i + 1) cap2).ownBlock) := sep_symm (sep_new hok2 (sep_symm HD2.out) hat2)
        have hoh3 : w3.ownsRow w1.heap.size 42 1 (.slice (some ⟨g2, 0, none⟩) (i + 1) cap2) (min (i + 1) 8) (celk .u32 ((P64.take (min (i + 1) 8)).map hOf)) := by
          rw [show min (i + 1) 8 = i + 1 by omega, HH.out, celk_snoc, HLH.out]; exact hown2
        clear hown2 hgrow2 hat2 hok2 hoh2 HD2
        go_wp2_with fail
        go_roundw
        case rel => exact ⟨i + 1, by omega, by go_num, hok3, hoh3, HD3, hb3⟩
        case measure => simp [intOf]; omega
      · have hoh3 : w2.ownsRow w1.heap.size 42 1 u3 (min (i + 1) 8) (celk .u32 ((P64.take (min (i + 1) 8)).map hOf)) := by
          rw [show min (i + 1) 8 = min i 8 by omega]; exact hoh2
        clear hoh2
        go_wp2_with fail
        go_roundw
        case rel => exact ⟨i + 1, by omega, by go_num, hok2, hoh3, HD2, hb2⟩
        case measure => simp [intOf]; omega
    · have hi' : i = 64 := by omega
      subst hi'
      rw [show (P64.take 64) = P64 from rfl, kOf_all] at hok
      rw [show (P64.take (min 64 8)) = P64.take 8 from rfl, hOf_all] at hoh
      obtain ⟨A1, cap1, rfl, hf1⟩ := owns_slice hok
      obtain ⟨g1, rfl, _, hl1, _, _, hc1⟩ := hf1 (by decide)
      obtain ⟨A2, cap2, rfl, hf2⟩ := owns_slice hoh
      obtain ⟨g2, rfl, _, hl2, _, _, hc2⟩ := hf2 (by decide)
      have R1 : Hid (RW wr g1 64 (fun j => ktab.getD j 0)) := fun j hj => (hc1 j hj).1.trans (celk_getD .u32 ktab j hj)
      have R2 : Hid (RW wr g2 8 (fun j => H0.l.getD j 0)) := fun j hj => (hc2 j hj).1.trans (celk_getD .u32 H0.l j hj)
      have HB := Lib.hid (HB1.out.trans (hbw.mono HB1.out.size))
      clear hok hoh hf1 hf2 hc1 hc2 hbw
      go_wp2_with fail
      go_ret2
      exact ⟨g1, g2, cap1, cap2, rfl, hl1, hl2, R1.out, R2.out, HB.out⟩
end Go.Proofs.YteajhimmhlccdaaDoor
