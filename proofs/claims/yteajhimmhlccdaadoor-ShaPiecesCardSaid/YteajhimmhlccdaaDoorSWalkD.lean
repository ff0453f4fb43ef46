/-
  Contract of layer 4: next.
-/
import Derived.Test.YteajhimmhlccdaaDoorSWalkC
namespace Go.Proofs.YteajhimmhlccdaaDoor
open Go.RowKit

/-- The table lies where it lies. -/
def Tab (w : World) : Prop := ∀ i, i < 64 → w.cell? ⟨0, i, none⟩ = some (.int .u32 (ktab.getD i 0 : Nat))
theorem Tab.below {w w' : World} (h : Tab w) (hb : Below w.heap.size w w') : Tab w' := fun i hi =>
  (hb.cell (p := ⟨0, i, none⟩) (World.block_lt_of_cell? w _ (h i hi))).trans (h i hi)

theorem ch_i (e f g : Nat) (he : e < 4294967296) (hf : f < 4294967296) (hg : g < 4294967296) :
    bits .xor .u32 (bits .and .u32 (e : Int) (f : Int)) (bits .and .u32 (bits .xor .u32 IntKind.u32.max (e : Int)) (g : Int)) = (ch e f g : Nat) := by
  have h : bits .xor .u32 IntKind.u32.max (e : Int) = ((4294967295 ^^^ e : Nat) : Int) := u32_xor_nat 4294967295 e (by decide) he
  have hx : 4294967295 ^^^ e < 4294967296 := xor32 (by decide) he
  rw [h, and_i e f he hf, and_i _ g hx hg, xor_i _ _ (and32 _ he) (and32 _ hx)]; rfl
theorem mj_i (a b c : Nat) (ha : a < 4294967296) (hb : b < 4294967296) (hc : c < 4294967296) :
    bits .xor .u32 (bits .xor .u32 (bits .and .u32 (a : Int) (b : Int)) (bits .and .u32 (a : Int) (c : Int))) (bits .and .u32 (b : Int) (c : Int)) = (mj a b c : Nat) := by
  rw [and_i a b ha hb, and_i a c ha hc, and_i b c hb hc, xor_i _ _ (and32 _ ha) (and32 _ ha), xor_i _ _ (xor32 (and32 _ ha) (and32 _ ha)) (and32 _ hb)]; rfl

set_option maxRecDepth 100000 in
set_option maxHeartbeats 200000 in
theorem next_any (s : St) (hs : s.ok) (B : List UInt8) (hB : B.length = 64) (w : World) (hT : Hid (Tab w)) :
    Calls Tryd.prog 18 #[.agg (stL s).toArray, .agg (cel8 B).toArray] w fun e w' => e = .returned (.agg (stL (cmp s B)).toArray) ∧ Below w.heap.size w w' := by
  obtain ⟨a, b, c, d, e, f, g, h⟩ := s
  obtain ⟨ha, hb, hc, hd, he, hf, hg, hh⟩ := hs
  have HB := Lib.hid hB
  have Hs : Hid ((cel8 B).length = 64) := (cel8_len B).trans hB
  clear hB
  show Calls Tryd.prog 18 #[.agg #[.int .u32 (a : Nat), .int .u32 (b : Nat), .int .u32 (c : Nat), .int .u32 (d : Nat), .int .u32 (e : Nat), .int .u32 (f : Nat), .int .u32 (g : Nat), .int .u32 (h : Nat)], .agg (cel8 B).toArray] w _
  go_enter Tryd.func18, Tryd.ntmps18
  go_upto_region 1 with fail
  obtain ⟨w0, hw0, z0, h00, h01, h02, hb0⟩ := boxes3 w (.cells #[.int .u32 (a : Nat), .int .u32 (b : Nat), .int .u32 (c : Nat), .int .u32 (d : Nat), .int .u32 (e : Nat), .int .u32 (f : Nat), .int .u32 (g : Nat), .int .u32 (h : Nat)] 44) (.cells (cel8 B).toArray 45) (.cells #[.int .u32 0, .int .u32 0, .int .u32 0, .int .u32 0, .int .u32 0, .int .u32 0, .int .u32 0, .int .u32 0] 44)
  rw [← hw0]
  clear hw0
  have HR := Lib.hid (range_of_block h01)
  have HS1 := Lib.hid (show (Tryd.prog.info? 45).map (·.size) = some (cel8 B).length by rw [Hs.out]; exact size45)
  have H00 := Lib.hid h00
  have H02 := Lib.hid h02
  have Z0 := Lib.hid z0
  have HB0 := Lib.hid hb0
  clear h00 h01 h02 z0 hb0
  have HS2 := Lib.hid (show (Tryd.prog.info? 55).map (·.size) = some (cel32 (wl B)).length by rw [cel32_len, wl_len]; exact size55)
  have HS3 : Hid (64 = (cel32 (wl B)).length) := by show _ = _; rw [cel32_len, wl_len]
  go_upto_region 2 with (first
    | (refine wpList_load_mid (by rfl) 45 (.tmp 3) (by rfl) (w.heap.size + 1) 0 (by rfl) (cel8 B) _ HR.out Tryd.underlying45 rfl HS1.out ?_)
    | (refine wpList_store_blk (by rfl) 55 (.tmp 5) (.tmp 18) (by rfl) w1.heap.size (cel32 (wl B)) (by rfl) (by rfl) _ _ (heap_alloc_new w1 _) HS3.out HS2.out (cel32_one _) ?_; intro w2 hr2 hg2)
    | (go_at_call 24; refine (words_any B HB.out _).mono ?_; rintro e1 w1 ⟨rfl, hb1⟩))
  obtain ⟨h0, h2, hbw, hrw⟩ := next_world Z0.out H00.out H02.out HB0.out hb1 hr2 hg2
  rw [wl_len] at hrw
  clear hr2 hg2 hb1 HR HS1 HS2 HS3 H00 H02 Z0 HB0
  generalize w1.heap.size = M at *
  clear w1 w0
  have H2 := Lib.hid h2
  obtain ⟨c0, c1, c2, c3, c4, c5, c6, c7⟩ := st_cells h0
  have HRW := Lib.hid hrw
  have HBW := Lib.hid hbw
  have H0 := Lib.hid h0
  clear h2 h0 hrw hbw
  go_quiet (fail)
  go_wp2_with fail
  go_quiet (fail)
  go_wp2_with fail
  have OK0 : (⟨a, b, c, d, e, f, g, h⟩ : St).ok := ⟨ha, hb, hc, hd, he, hf, hg, hh⟩
  go_loopw [6, 7, 8, 9, 10, 11, 12, 13, 14, 15, 16, 35] (fun va vb vc vd ve vf vg vh _ _ _ vi wr => ∃ (k : Nat) (q : St), k ≤ 64 ∧ vi = .int .i64 k ∧ va = .int .u32 (q.a : Nat) ∧ vb = .int .u32 (q.b : Nat) ∧ vc = .int .u32 (q.c : Nat) ∧ vd = .int .u32 (q.d : Nat) ∧ ve = .int .u32 (q.e : Nat) ∧ vf = .int .u32 (q.f : Nat) ∧ vg = .int .u32 (q.g : Nat) ∧ vh = .int .u32 (q.h : Nat) ∧
    Hid q.ok ∧ Hid (q = rnds ⟨a, b, c, d, e, f, g, h⟩ (wl B) k) ∧ Hid (∃ n, wr = w2.drewN n)) (fun _ _ _ _ _ _ _ _ _ _ _ vi _ => 64 - (intOf vi).toNat)
  case atStart => exact ⟨0, ⟨a, b, c, d, e, f, g, h⟩, by decide, rfl, rfl, rfl, rfl, rfl, rfl, rfl, rfl, rfl, OK0, rfl, by first | exact ⟨_, rfl⟩ | exact ⟨_, World.drewN_drewN _ _ _⟩⟩
  case round =>
    obtain ⟨k, ⟨a', b', c', d', e', f', g', h'⟩, hk, rfl, rfl, rfl, rfl, rfl, rfl, rfl, rfl, rfl, HOK, HQ, HWR⟩ := hrel
    by_cases hlt : k < 64
    · obtain ⟨wk, hwk⟩ : ∃ x, (wl B).getD k 0 = x := ⟨_, rfl⟩
      obtain ⟨kk, hkk⟩ : ∃ x, ktab.getD k 0 = x := ⟨_, rfl⟩
      have d1 : wr.cell? ⟨M, k, none⟩ = some (.int .u32 (wk : Nat)) := by rw [← hwk]; obtain ⟨n, rfl⟩ := HWR.out; exact HRW.out.drewN n k hlt
      have d2 : wr.cell? ⟨0, k, none⟩ = some (.int .u32 (kk : Nat)) := by rw [← hkk]; obtain ⟨n, rfl⟩ := HWR.out; exact (hT.out.below (HBW.out.drewN n)) k hlt
      have HQ1 : Hid (rnd ⟨a', b', c', d', e', f', g', h'⟩ kk wk = rnds ⟨a, b, c, d, e, f, g, h⟩ (wl B) (k + 1)) := by show _ = _; rw [rnds, ← HQ.out, hwk, hkk]
      have HOK1 : Hid (rnd ⟨a', b', c', d', e', f', g', h'⟩ kk wk).ok := rnd_ok _ _ HOK.out
      clear hwk hkk
      obtain ⟨qa, qb, qc, qd, qe, qf, qg, qh⟩ := HOK.out
      simp only at qa qb qc qd qe qf qg qh
      have E1 := ch_i e' f' g' qe qf qg
      have E2 := mj_i a' b' c' qa qb qc
      go_wp2_with fail
      go_quiet ((go_at_call 25; exact quiet_eq (turned_S1 e' qe _)))
      go_wp2_with (go_at_call 25; refine (turned_S0 a' qa _).mono ?_; rintro e w' ⟨rfl, rfl⟩)
      have HX : Hid (((h' : Int) + (S1 e' : Nat) + bits .xor .u32 (bits .and .u32 (e' : Int) (f' : Int)) (bits .and .u32 (bits .xor .u32 (if IntKind.u32.signed = true then -1 else IntKind.u32.max) (e' : Int)) (g' : Int)) + (kk : Int) + (wk : Int)) % 4294967296 = (tx ⟨a', b', c', d', e', f', g', h'⟩ kk wk : Nat)) := by
        show _ = _
        rw [show (if IntKind.u32.signed = true then (-1 : Int) else IntKind.u32.max) = IntKind.u32.max from rfl, E1]
        simp only [tx]
        omega
      go_roundw
      case rel =>
        refine ⟨k + 1, rnd ⟨a', b', c', d', e', f', g', h'⟩ kk wk, by omega, by go_num, ?_, rfl, rfl, rfl, ?_, rfl, rfl, rfl, HOK1, HQ1, ?_⟩
        · rw [HX.out]; simp only [rnd, ty]; congr 1
        · rw [HX.out]; simp only [rnd]; congr 1
        · obtain ⟨n, e⟩ := HWR.out
          exact ⟨n + nq, by rw [e, World.drewN_drewN]⟩
      case measure => simp [intOf]; omega
    · obtain ⟨n, rfl⟩ := HWR.out
      have HQ1 : Hid (St.plus ⟨a', b', c', d', e', f', g', h'⟩ ⟨a, b, c, d, e, f, g, h⟩ = cmp ⟨a, b, c, d, e, f, g, h⟩ B) := by show _ = _; rw [cmp, HQ.out, show k = 64 by omega]
      clear HQ HOK HRW
      have HS := Lib.hid size44
      go_wp2_with (refine wpList_store_blk (by rfl) 44 (.tmp 4) (.tmp 118) (by rfl) (w.heap.size + 1 + 1) [.int .u32 (((a : Int) + (a' : Int)) % 4294967296), .int .u32 (((b : Int) + (b' : Int)) % 4294967296), .int .u32 (((c : Int) + (c' : Int)) % 4294967296), .int .u32 (((d : Int) + (d' : Int)) % 4294967296), .int .u32 (((e : Int) + (e' : Int)) % 4294967296), .int .u32 (((f : Int) + (f' : Int)) % 4294967296), .int .u32 (((g : Int) + (g' : Int)) % 4294967296), .int .u32 (((h : Int) + (h' : Int)) % 4294967296)] (by rfl) (by rfl) _ _ H2.out (by rfl) HS.out (by intro v hv; simp only [List.mem_cons, List.not_mem_nil, or_false] at hv; rcases hv with rfl | rfl | rfl | rfl | rfl | rfl | rfl | rfl <;> rfl) ?_; intro w3 hr3 hg3)
      refine bodyPost_ret (v := .agg _) (results_cell_mid (by rfl) _ _ (w.heap.size + 1 + 1) 0 _ _ (by rfl) hr3 Tryd.underlying44 rfl HS.out) rfl ⟨?_, (HBW.out.drewN n).grown hg3 ?_ ?_⟩
      · rw [← HQ1.out]
        have e0 : ∀ x y : Nat, ((x : Int) + (y : Int)) % 4294967296 = (((y + x) % 4294967296 : Nat) : Int) := fun x y => by omega
        simp only [e0]
        rfl
      · exact HBW.out.size
      · intro k hk; injection hk with hk; omega
end Go.Proofs.YteajhimmhlccdaaDoor
