/-
  Layer 8: the document's disk: Crash. (For LogPlays.)
  Layer 8: the document's disk: Spoil. (For LogPlays.)
  Layer 8: Told and told: a step of the disk's, of the document's, on the one file. (For LogPlays.)
-/
import Derived.Test.YtikbokbmaihdbaaGreatDoorRBase
import Derived.Test.YtikbokbmaihdbaaGreatDoorLDisked
import Derived.Test.YtikbokbmaihdbaaGreatDoorSQTail
import Derived.Test.YtikbokbmaihdbaaGreatDoorBRow
import Derived.Deep.RegionWith
import Derived.Test.YtikbokbmaihdbaaGreatDoorDOpsC
import Derived.Test.YtikbokbmaihdbaaGreatDoorRCut
namespace Go.Proofs.YtikbokbmaihdbaaGreatDoor
open Go.RowKit Go.Maps Go.ChangeShapes Go.WideShapes

theorem infoF : (Tryz.prog.info? 73).map (fun i => (i.zero, i.size, i.bytes)) = some (some (.agg #[.string ByteArray.empty, .string ByteArray.empty, .int .i64 0, .bool false]), 4, 48) := by kernel_rfl
theorem four_cells (w : World) (a b c d : Value) (t : TypeId) : ∀ (j : Nat) (u : Value), [a, b, c, d][j]? = some u → (w.alloc (.cells #[a, b, c, d] t)).cell? ((⟨w.heap.size, 0, none⟩ : Addr).add j) = some u := by
  intro j u hj
  match j, hj with
  | 0, hj => simp at hj; subst hj; simp [Addr.add]
  | 1, hj => simp at hj; subst hj; simp [Addr.add]
  | 2, hj => simp at hj; subst hj; simp [Addr.add]
  | 3, hj => simp at hj; subst hj; simp [Addr.add]

/-- 'append(nil, File{..})': a new row of one file. -/
theorem wpList_append_file {ops : Array Oper} {rest : List Oper} {o : Oper} {a : Act} {w1 : World} {Q : Exit → Act → World → Prop} (hgd : o.guard = none) (s x : Operand)
    (ho : o.op = .call { callee := .builtin .append, args := #[s, x], argTypes := #[59, 59] }) (w : World) (T : ByteArray) (lo : Nat) (fr : Bool) (hs : a.eval s = .slice none 0 0)
    (hx : a.eval x = .slice (some ⟨w.heap.size, 0, none⟩) 1 1) (h1 : w1 = w.alloc (.cells #[.string rA, .string T, .int .i64 (lo : Nat), .bool fr] 73))
    (h : ∀ v' w', RRow w' v' [(rA, ⟨T, lo, fr⟩)] → (∀ k, v'.ownBlock = some k → w.heap.size ≤ k) → Below w.heap.size w w' → wpList Tryz.prog ops Q rest (a.put o.dst v') w') : wpList Tryz.prog ops Q (o :: rest) a w1 := by
  subst h1
  obtain ⟨i, hi, hz, hs1, hb⟩ : ∃ i, Tryz.prog.info? 73 = some i ∧ i.zero = some (.agg #[.string ByteArray.empty, .string ByteArray.empty, .int .i64 0, .bool false]) ∧ i.size = 4 ∧ i.bytes = 48 := by
    have h := infoF
    cases hq : Tryz.prog.info? 73 with
    | none => rw [hq] at h; cases h
    | some i => rw [hq] at h; simp at h; exact ⟨i, rfl, h.1, h.2.1, h.2.2⟩
  have hown1 : (w.alloc (.cells #[.string rA, .string T, .int .i64 (lo : Nat), .bool fr] 73)).ownsRow w.heap.size 73 4 (.slice none 0 0) 0 [] := ⟨by simp, .inl ⟨rfl, rfl⟩⟩
  refine wpList_append_own _ hgd s x 59 ho w.heap.size 73 i (.agg #[.string ByteArray.empty, .string ByteArray.empty, .int .i64 0, .bool false]) 4 48 Tryz.underlying59 hi hz hs1 hb rfl (by decide) (.slice none 0 0) 0 [] hs hown1 ⟨w.heap.size, 0, none⟩ 1 1 [.string rA, .string T, .int .i64 (lo : Nat), .bool fr] hx (by simp) (four_cells w _ _ _ _ _) ?_ (by decide) (by decide) (by simp) ?_
  · intro u hu
    simp at hu
    rcases hu with rfl | rfl | rfl | rfl <;> rfl
  intro v' w' hown' hg _
  refine h v' w' ?_ (fun k hk => (hown'.lt k hk).1) (((Below.refl _ w).alloc (Nat.le_refl _) _).grown hg (by simp) (fun k hk => by cases hk))
  refine ⟨rfl, ?_⟩
  rcases hown'.2 with ⟨_, h2⟩ | ⟨g, cap, cur, hv, hb, hg, h1, h2, h3, h4⟩
  · cases h2
  · exact Or.inr ⟨g, cap, cur, hv, Nat.zero_le _, hg, h1, h2, h3, h4⟩

theorem crash_if {s lo n : Int} {z : Nat} {i1 : Decidable (n < 0)} {i2 : Decidable (lo < @ite Int (n < 0) i1 0 n)} (h : s + min (max n 0) lo = z) : s + @ite Int (lo < @ite Int (n < 0) i1 0 n) i2 lo (@ite Int (n < 0) i1 0 n) = z := by
  rw [← h]
  by_cases h1 : n < 0
  · simp only [h1, if_true]
    split <;> omega
  · simp only [h1, if_false]
    split <;> omega

set_option maxRecDepth 100000 in
set_option maxHeartbeats 4000000 in
theorem ref_crash {O : Nat → Prop} {w : World} {gr : Nat} {σ : Dsk} (K : Option Addr) (l c : Nat) (ks : List Int) (hv : SliceView w .i64 K l c ks) (hd : TheRef O w gr σ) : Calls Tryz.prog 72 #[ptr gr, .slice K l c] w (Quietly TheRef O w gr (crash σ ks).1) := by
  have HIA := Lib.hid (hd.1.crash ks)
  obtain ⟨hi, hz, v, f, hfs, hfr, h, hr, hne, hO⟩ := hd
  have hu : used σ.fs = f.text.size := by rw [hfs]; exact used_one f
  have hft : f.text.size ≤ 4194304 := by have h1 := hi.room; have h2 := hi.most; omega
  have hlo := (hi.get (by rw [hfs]; exact get_one f)).1
  obtain ⟨T, lo, fr⟩ := f
  obtain rfl : fr = false := hfr
  dsimp only at hft hlo hu
  unfold crash at HIA ⊢
  rw [hfs] at HIA ⊢
  dsimp only at HIA ⊢
  obtain ⟨q, c2, rfl, hc⟩ := RRow.cells1 h hr
  have c1 := hc.c1
  have n0 := hc.n0
  have n1 := hc.n1
  have n2 := hc.n2
  have n3 := hc.n3
  have hc1 := hc.one
  dsimp only at n1 n2 n3
  have HO := Lib.hid hO
  have H0 := Lib.hid h
  have HBE := Lib.hid ((Below.refl _ w).alloc (Nat.le_refl _) (Obj.cells #[Value.string rA, Value.string T, Value.int IntKind.i64 (lo : Nat), Value.bool false] 73))
  have hnb := heap_alloc_new w (Obj.cells #[Value.string rA, Value.string T, Value.int IntKind.i64 (lo : Nat), Value.bool false] 73)
  clear hfs hi hz hr h hne hO hu hc
  by_cases h0 : lo = 0
  · subst h0
    have e1 : crs [(rA, ⟨T, 0, false⟩)] ks = [(rA, ⟨T, 0, false⟩)] := by unfold crs; rw [if_pos ⟨rfl, rfl⟩]; rfl
    rw [e1] at HIA ⊢
    have HBE : Hid (Below w.heap.size w (w.alloc (Obj.cells #[Value.string rA, Value.string T, Value.int IntKind.i64 0, Value.bool false] 73))) := HBE
    have n2 : w.cell? ⟨q, 2, none⟩ = some (.int .i64 0) := n2
    clear hnb
    go_enter Tryz.func72, Tryz.ntmps72
    go_wp2_with fail
    go_loopw [4, 5, 6, 7, 8, 9] (fun lv iv kv _ _ _ wr => (kv = .int .i64 0 ∧ iv = .int .i64 0 ∧ w = wr ∧ Hid (lv = .slice none 0 0)) ∨ (kv = .int .i64 1 ∧ Hid (RRow wr lv [(rA, ⟨T, 0, false⟩)]) ∧ Hid (∀ k, lv.ownBlock = some k → w.heap.size ≤ k) ∧ Hid (Below w.heap.size w wr))) (fun _ _ kv _ _ _ _ => 1 - (intOf kv).toNat)
    case atStart => exact Or.inl ⟨rfl, rfl, rfl, rfl⟩
    case round =>
      rcases hrel with ⟨rfl, rfl, rfl, HV0⟩ | ⟨rfl, h1, h2, h3⟩
      · have hsA : (w.alloc (Obj.cells #[Value.string rA, Value.string T, Value.int IntKind.i64 0, Value.bool false] 73)).heap.size = w.heap.size + 1 := by simp
        go_wp2_with (at_builtin; refine wpList_append_file (by rfl) (.tmp 34) (.tmp 36) (by rfl) (w.alloc (Obj.cells #[Value.string rA, Value.string T, Value.int IntKind.i64 0, Value.bool false] 73)) T 0 false HV0.out (by rw [hsA]; rfl) (by rfl) ?_; intro v5 w5 hr5 hn5 hb5; have HR5 := Lib.hid hr5; have HN5 : Hid (∀ k, v5.ownBlock = some k → w.heap.size ≤ k) := (fun k hk => Nat.le_trans HBE.out.size (hn5 k hk)); have HB5 := Lib.hid (HBE.out.trans (hb5.mono HBE.out.size)); clear hr5 hn5 hb5)
        go_roundw
        case rel => exact Or.inr ⟨by go_num, HR5, HN5, HB5⟩
        case measure => simp [intOf]
      · have HH9 := h3
        obtain ⟨HRW, HNW, HBW⟩ : Hid (RRow wr u4 [(rA, ⟨T, 0, false⟩)]) ∧ Hid (∀ k, u4.ownBlock = some k → w.heap.size ≤ k) ∧ Hid (Below w.heap.size w wr) := ⟨h1, h2, h3⟩
        have hH : RHead wr gr σ.room (.slice (some ⟨q, 0, none⟩) 1 c2) σ.fuse := (HBW.out.block gr (lt_of_heap H0.out)).trans H0.out
        have c1 := hH.c1
        have c2' := hH.c2
        have f1 := hH.fr 1
        have hs1 := heap_set (i := 1) hH u4
        have hs2 := heap_set (i := 2) hs1 (.int .i64 (-1))
        have d2 : (wr.setCell ⟨gr, 1, none⟩ u4).cell? ⟨gr, 2, none⟩ = some (.int .i64 (fuz σ.fuse)) := by rw [cell_hp hs1]; rfl
        have f2 : (wr.setCell ⟨gr, 1, none⟩ u4).frozen? ⟨gr, 2, none⟩ = false := frozen_hp hs1 2
        have HS2 := Lib.hid hs2
        have HH := Lib.hid hH
        clear hs1 hs2 hH h1 h2 h3
        obtain ⟨A5, c5, hlv, _, _, hcc⟩ := HRW.out.lies
        obtain ⟨q5, rfl, hq5, hcc5⟩ := hcc 0 (by simp)
        dsimp only [List.length_cons, List.length_nil, Nat.zero_add] at hlv
        subst hlv
        go_wp2_with fail
        go_end0
        have hgl := lt_of_heap H0.out
        have hq5g : q5 ≠ gr := fun e => by have := HNW.out q5 rfl; omega
        have ho := (HBW.out.only (fun k => k = gr)).trans ((Only.set wr gr 1 (.slice (some ⟨q5, 0, none⟩) 1 c5)).trans (Only.set _ gr 2 (.int .i64 (-1))) (fun k hk => Or.inl hk)) (fun k hk => Or.inl hk)
        refine ⟨rfl, fun k => k = gr ∨ (Value.slice (some ⟨q5, 0, none⟩) 1 c5).ownBlock = some k, ⟨HIA.out, (fun k hk => by cases hk), _, ⟨T, 0, false⟩, rfl, rfl, HS2.out, ?_, ?_, fun k => Iff.rfl⟩, ho.wide (fun k hk => (HO.out k).2 (Or.inl hk)), fun k hk => ?_⟩
        · refine rrow_kept HRW.out (fun k hk => ?_)
          have e : k = q5 := by injection hk with hk; exact hk.symm
          subst e
          exact (Below.heap_setCell _ _ _ _ hq5g).trans (Below.heap_setCell _ _ _ _ hq5g)
        · intro k hk e
          have e2 : k = q5 := by injection hk with hk; exact hk.symm
          exact hq5g (e2.symm.trans e)
        · rcases hk with rfl | hk
          · exact Or.inl ((HO.out _).2 (Or.inl rfl))
          · exact Or.inr (HNW.out k hk)
  have q1 : ((lo : Int) == 0) = false := by rw [beq_eq_false_iff_ne]; omega
  obtain ⟨N, hN⟩ : ∃ N, ks.headD (-1) = N := ⟨_, rfl⟩
  obtain ⟨z, hzq⟩ : ∃ z, T.size - lo + min N.toNat lo = z := ⟨_, rfl⟩
  have hzs : z ≤ T.size := by omega
  have e1 : crs [(rA, ⟨T, lo, false⟩)] ks = [(rA, ⟨T.extract 0 z, 0, false⟩)] := by
    unfold crs
    rw [if_neg (by simp; omega), if_neg (by simp), hN]
    unfold kept
    dsimp only
    rw [hzq]
    rfl
  rw [e1] at HIA ⊢
  have HNB := Lib.hid hnb
  by_cases hl : l = 0
  · subst hl
    have hks : ks = [] := List.length_eq_zero_iff.1 hv.1
    subst hks
    obtain rfl : N = -1 := hN.symm
    have hzz : z = T.size - lo := by have h9 : (-1 : Int).toNat = 0 := rfl; omega
    clear hN hzq e1 hnb
    subst hzz
    go_enter Tryz.func72, Tryz.ntmps72
    go_wp2_with fail
    go_loopw [4, 5, 6, 7, 8, 9] (fun lv iv kv _ _ _ wr => (kv = .int .i64 0 ∧ iv = .int .i64 0 ∧ w = wr ∧ Hid (lv = .slice none 0 0)) ∨ (kv = .int .i64 1 ∧ Hid (RRow wr lv [(rA, ⟨T.extract 0 (T.size - lo), 0, false⟩)]) ∧ Hid (∀ k, lv.ownBlock = some k → w.heap.size ≤ k) ∧ Hid (Below w.heap.size w wr))) (fun _ _ kv _ _ _ _ => 1 - (intOf kv).toNat)
    case atStart => exact Or.inl ⟨rfl, rfl, rfl, rfl⟩
    case round =>
      rcases hrel with ⟨rfl, rfl, rfl, HV0⟩ | ⟨rfl, h1, h2, h3⟩
      · have p0 : (w.alloc (Obj.cells #[Value.string rA, Value.string T, Value.int IntKind.i64 (lo : Nat), Value.bool false] 73)).cell? ⟨w.heap.size, 0, none⟩ = some (.string rA) := by rw [cell_hp HNB.out]; rfl
        have p1 : (w.alloc (Obj.cells #[Value.string rA, Value.string T, Value.int IntKind.i64 (lo : Nat), Value.bool false] 73)).cell? ⟨w.heap.size, 1, none⟩ = some (.string T) := by rw [cell_hp HNB.out]; rfl
        have p2 : (w.alloc (Obj.cells #[Value.string rA, Value.string T, Value.int IntKind.i64 (lo : Nat), Value.bool false] 73)).cell? ⟨w.heap.size, 2, none⟩ = some (.int .i64 (lo : Nat)) := by rw [cell_hp HNB.out]; rfl
        go_wp2_with fail
        generalize w.alloc (Obj.cells #[Value.string rA, Value.string T, Value.int IntKind.i64 (lo : Nat), Value.bool false] 73) = wA at *
        refine wp_region_any (by kernel_rfl) ?_
        change wpAny _ _ _ _ _ _ _ (World.drew _)
        refine wpAny_take (i := 0) (v := u4) rfl (by kernel_rfl) (by kernel_rfl) (by kernel_rfl) (fun _ _ _ h => h) (Or.inl ⟨by kernel_rfl, ?_⟩) ?_
        · intro w; go_simp
        refine wpAny_quiet_tail (C := fun w' => ∃ n, w' = wA.drewN n) 1 14 (by rfl) (by kernel_rfl) ⟨1, rfl⟩ ?_
        simp only [List.take_succ_cons, List.take_zero, List.drop_succ_cons, List.drop_zero]
        go_simp
        repeat (go_big_quiet_step (fail))
        refine wpQuiet_nil ?_
        intro nq
        have HBA : Hid (Below w.heap.size w (wA.drewN nq)) := HBE.out.drewN nq
        clear HBE p0 p1 p2 HNB
        generalize wA.drewN nq = wB at *
        go_wp2_with (at_builtin; refine wpList_append_file (by rfl) (.tmp 60) (.tmp 74) (by rfl) wB (T.extract 0 (T.size - lo)) 0 false HV0.out (by rfl) (by rfl) ?_; intro v5 w5 hr5 hn5 hb5; have HR5 := Lib.hid hr5; have HN5 : Hid (∀ k, v5.ownBlock = some k → w.heap.size ≤ k) := (fun k hk => Nat.le_trans HBA.out.size (hn5 k hk)); have HB5 := Lib.hid (HBA.out.trans (hb5.mono HBA.out.size)); clear hr5 hn5 hb5)
        go_roundw
        case rel => exact Or.inr ⟨by go_num, HR5, HN5, HB5⟩
        case measure => simp [intOf]
      · have HH9 := h3
        obtain ⟨HRW, HNW, HBW⟩ : Hid (RRow wr u4 [(rA, ⟨T.extract 0 (T.size - lo), 0, false⟩)]) ∧ Hid (∀ k, u4.ownBlock = some k → w.heap.size ≤ k) ∧ Hid (Below w.heap.size w wr) := ⟨h1, h2, h3⟩
        have hH : RHead wr gr σ.room (.slice (some ⟨q, 0, none⟩) 1 c2) σ.fuse := (HBW.out.block gr (lt_of_heap H0.out)).trans H0.out
        have c1 := hH.c1
        have c2' := hH.c2
        have f1 := hH.fr 1
        have hs1 := heap_set (i := 1) hH u4
        have hs2 := heap_set (i := 2) hs1 (.int .i64 (-1))
        have d2 : (wr.setCell ⟨gr, 1, none⟩ u4).cell? ⟨gr, 2, none⟩ = some (.int .i64 (fuz σ.fuse)) := by rw [cell_hp hs1]; rfl
        have f2 : (wr.setCell ⟨gr, 1, none⟩ u4).frozen? ⟨gr, 2, none⟩ = false := frozen_hp hs1 2
        have HS2 := Lib.hid hs2
        have HH := Lib.hid hH
        clear hs1 hs2 hH h1 h2 h3
        obtain ⟨A5, c5, hlv, _, _, hcc⟩ := HRW.out.lies
        obtain ⟨q5, rfl, hq5, hcc5⟩ := hcc 0 (by simp)
        dsimp only [List.length_cons, List.length_nil, Nat.zero_add] at hlv
        subst hlv
        go_wp2_with fail
        go_end0
        have hgl := lt_of_heap H0.out
        have hq5g : q5 ≠ gr := fun e => by have := HNW.out q5 rfl; omega
        have ho := (HBW.out.only (fun k => k = gr)).trans ((Only.set wr gr 1 (.slice (some ⟨q5, 0, none⟩) 1 c5)).trans (Only.set _ gr 2 (.int .i64 (-1))) (fun k hk => Or.inl hk)) (fun k hk => Or.inl hk)
        refine ⟨rfl, fun k => k = gr ∨ (Value.slice (some ⟨q5, 0, none⟩) 1 c5).ownBlock = some k, ⟨HIA.out, (fun k hk => by cases hk), _, ⟨T.extract 0 (T.size - lo), 0, false⟩, rfl, rfl, HS2.out, ?_, ?_, fun k => Iff.rfl⟩, ho.wide (fun k hk => (HO.out k).2 (Or.inl hk)), fun k hk => ?_⟩
        · refine rrow_kept HRW.out (fun k hk => ?_)
          have e : k = q5 := by injection hk with hk; exact hk.symm
          subst e
          exact (Below.heap_setCell _ _ _ _ hq5g).trans (Below.heap_setCell _ _ _ _ hq5g)
        · intro k hk e
          have e2 : k = q5 := by injection hk with hk; exact hk.symm
          exact hq5g (e2.symm.trans e)
        · rcases hk with rfl | hk
          · exact Or.inl ((HO.out _).2 (Or.inl rfl))
          · exact Or.inr (HNW.out k hk)
  obtain ⟨n9, ks9, rfl⟩ : ∃ a r, ks = a :: r := by
    cases ks with
    | nil => exact absurd hv.1.symm hl
    | cons a r => exact ⟨a, r, rfl⟩
  obtain rfl : n9 = N := hN
  obtain ⟨kb, ko, rfl, hkb, hkc⟩ := hv.2.2.2.2.1 0 (by omega)
  have hk0 : w.cell? ⟨kb, ko, none⟩ = some (.int .i64 n9) := hkc
  have hlp : decide ((0 : Int) < (l : Int)) = true := decide_eq_true (by omega)
  have hlp2 : decide (0 < l) = true := decide_eq_true (by omega)
  have hll : l ≤ c := hv.2.1
  have hE : (T.size : Int) - (lo : Int) + min (max n9 0) (lo : Int) = (z : Nat) := by omega
  have hkA : (w.alloc (Obj.cells #[Value.string rA, Value.string T, Value.int IntKind.i64 (lo : Nat), Value.bool false] 73)).cell? ⟨kb, ko, none⟩ = some (.int .i64 n9) := (HBE.out.cell (p := ⟨kb, ko, none⟩) hkb).trans hk0
  clear hzq e1 hnb hkc
  go_enter Tryz.func72, Tryz.ntmps72
  go_wp2_with fail
  go_loopw [4, 5, 6, 7, 8, 9] (fun lv iv kv _ _ _ wr => (kv = .int .i64 0 ∧ iv = .int .i64 0 ∧ w = wr ∧ Hid (lv = .slice none 0 0)) ∨ (kv = .int .i64 1 ∧ Hid (RRow wr lv [(rA, ⟨T.extract 0 z, 0, false⟩)]) ∧ Hid (∀ k, lv.ownBlock = some k → w.heap.size ≤ k) ∧ Hid (Below w.heap.size w wr))) (fun _ _ kv _ _ _ _ => 1 - (intOf kv).toNat)
  case atStart => exact Or.inl ⟨rfl, rfl, rfl, rfl⟩
  case round =>
    rcases hrel with ⟨rfl, rfl, rfl, HV0⟩ | ⟨rfl, h1, h2, h3⟩
    · have p0 : (w.alloc (Obj.cells #[Value.string rA, Value.string T, Value.int IntKind.i64 (lo : Nat), Value.bool false] 73)).cell? ⟨w.heap.size, 0, none⟩ = some (.string rA) := by rw [cell_hp HNB.out]; rfl
      have p1 : (w.alloc (Obj.cells #[Value.string rA, Value.string T, Value.int IntKind.i64 (lo : Nat), Value.bool false] 73)).cell? ⟨w.heap.size, 1, none⟩ = some (.string T) := by rw [cell_hp HNB.out]; rfl
      have p2 : (w.alloc (Obj.cells #[Value.string rA, Value.string T, Value.int IntKind.i64 (lo : Nat), Value.bool false] 73)).cell? ⟨w.heap.size, 2, none⟩ = some (.int .i64 (lo : Nat)) := by rw [cell_hp HNB.out]; rfl
      go_wp2_with fail
      generalize w.alloc (Obj.cells #[Value.string rA, Value.string T, Value.int IntKind.i64 (lo : Nat), Value.bool false] 73) = wA at *
      refine wp_region_any (by kernel_rfl) ?_
      change wpAny _ _ _ _ _ _ _ (World.drew _)
      refine wpAny_take (i := 0) (v := u4) rfl (by kernel_rfl) (by kernel_rfl) (by kernel_rfl) (fun _ _ _ h => h) (Or.inl ⟨by kernel_rfl, ?_⟩) ?_
      · intro w; go_simp
      refine wpAny_quiet_tail (C := fun w' => ∃ n, w' = wA.drewN n) 1 14 (by rfl) (by kernel_rfl) ⟨1, rfl⟩ ?_
      simp only [List.take_succ_cons, List.take_zero, List.drop_succ_cons, List.drop_zero]
      go_simp
      repeat (go_big_quiet_step (fail))
      rw [crash_if hE, Int.toNat_natCast]
      refine wpQuiet_nil ?_
      intro nq
      have HBA : Hid (Below w.heap.size w (wA.drewN nq)) := HBE.out.drewN nq
      clear HBE p0 p1 p2 HNB
      generalize wA.drewN nq = wB at *
      go_wp2_with (at_builtin; refine wpList_append_file (by rfl) (.tmp 60) (.tmp 74) (by rfl) wB (T.extract 0 z) 0 false HV0.out (by rfl) (by rfl) ?_; intro v5 w5 hr5 hn5 hb5; have HR5 := Lib.hid hr5; have HN5 : Hid (∀ k, v5.ownBlock = some k → w.heap.size ≤ k) := (fun k hk => Nat.le_trans HBA.out.size (hn5 k hk)); have HB5 := Lib.hid (HBA.out.trans (hb5.mono HBA.out.size)); clear hr5 hn5 hb5)
      go_roundw
      case rel => exact Or.inr ⟨by go_num, HR5, HN5, HB5⟩
      case measure => simp [intOf]
    · obtain ⟨HRW, HNW, HBW⟩ : Hid (RRow wr u4 [(rA, ⟨T.extract 0 z, 0, false⟩)]) ∧ Hid (∀ k, u4.ownBlock = some k → w.heap.size ≤ k) ∧ Hid (Below w.heap.size w wr) := ⟨h1, h2, h3⟩
      have hH : RHead wr gr σ.room (.slice (some ⟨q, 0, none⟩) 1 c2) σ.fuse := (HBW.out.block gr (lt_of_heap H0.out)).trans H0.out
      have c1 := hH.c1
      have c2' := hH.c2
      have f1 := hH.fr 1
      have hs1 := heap_set (i := 1) hH u4
      have hs2 := heap_set (i := 2) hs1 (.int .i64 (-1))
      have d2 : (wr.setCell ⟨gr, 1, none⟩ u4).cell? ⟨gr, 2, none⟩ = some (.int .i64 (fuz σ.fuse)) := by rw [cell_hp hs1]; rfl
      have f2 : (wr.setCell ⟨gr, 1, none⟩ u4).frozen? ⟨gr, 2, none⟩ = false := frozen_hp hs1 2
      have HS2 := Lib.hid hs2
      have HH := Lib.hid hH
      clear hs1 hs2 hH h1 h2 h3
      obtain ⟨A5, c5, hlv, _, _, hcc⟩ := HRW.out.lies
      obtain ⟨q5, rfl, hq5, hcc5⟩ := hcc 0 (by simp)
      dsimp only [List.length_cons, List.length_nil, Nat.zero_add] at hlv
      subst hlv
      go_wp2_with fail
      go_end0
      have hgl := lt_of_heap H0.out
      have hq5g : q5 ≠ gr := fun e => by have := HNW.out q5 rfl; omega
      have ho := (HBW.out.only (fun k => k = gr)).trans ((Only.set wr gr 1 (.slice (some ⟨q5, 0, none⟩) 1 c5)).trans (Only.set _ gr 2 (.int .i64 (-1))) (fun k hk => Or.inl hk)) (fun k hk => Or.inl hk)
      refine ⟨rfl, fun k => k = gr ∨ (Value.slice (some ⟨q5, 0, none⟩) 1 c5).ownBlock = some k, ⟨HIA.out, (fun k hk => by cases hk), _, ⟨T.extract 0 z, 0, false⟩, rfl, rfl, HS2.out, ?_, ?_, fun k => Iff.rfl⟩, ho.wide (fun k hk => (HO.out k).2 (Or.inl hk)), fun k hk => ?_⟩
      · refine rrow_kept HRW.out (fun k hk => ?_)
        have e : k = q5 := by injection hk with hk; exact hk.symm
        subst e
        exact (Below.heap_setCell _ _ _ _ hq5g).trans (Below.heap_setCell _ _ _ _ hq5g)
      · intro k hk e
        have e2 : k = q5 := by injection hk with hk; exact hk.symm
        exact hq5g (e2.symm.trans e)
      · rcases hk with rfl | hk
        · exact Or.inl ((HO.out _).2 (Or.inl rfl))
        · exact Or.inr (HNW.out k hk)

end Go.Proofs.YtikbokbmaihdbaaGreatDoor

namespace Go.Proofs.YtikbokbmaihdbaaGreatDoor
open Go.RowKit Go.Maps Go.ChangeShapes Go.WideShapes

set_option maxRecDepth 100000 in
set_option maxHeartbeats 2000000 in
theorem ref_spoil {O : Nat → Prop} {w : World} {gr : Nat} {σ : Dsk} (k by_ : Int) (hb : (Lit.int .u8 by_).wf = true) (hd : TheRef O w gr σ) : Calls Tryz.prog 71 #[ptr gr, .string rA, .int .i64 k, .int .u8 by_] w (Did TheRef O w gr (spoil σ rA k (UInt8.ofNat by_.toNat))) := by
  have HS := Lib.hid (fun er w' hb => TheRef.same (w' := w') (er := er) hd hb)
  have HIA := Lib.hid (hd.1.spoil rA k (UInt8.ofNat by_.toNat))
  obtain ⟨hi, hz, v, f, hfs, hfr, h, hr, hne, hO⟩ := hd
  obtain ⟨Y, rfl⟩ : ∃ Y : UInt8, by_ = (Y.toNat : Int) := by
    simp only [Lit.wf, Bool.and_eq_true, decide_eq_true_eq] at hb
    have h0 : (0 : Int) ≤ by_ := hb.1
    have h1 : by_ ≤ 255 := hb.2
    refine ⟨UInt8.ofNat by_.toNat, ?_⟩
    rw [UInt8.toNat_ofNat_of_lt' (by simp [UInt8.size]; omega)]
    omega
  have eY : UInt8.ofNat ((Y.toNat : Int)).toNat = Y := by rw [Int.toNat_natCast, UInt8.ofNat_toNat]
  rw [eY] at HIA ⊢
  have hu : used σ.fs = f.text.size := by rw [hfs]; exact used_one f
  have hft : f.text.size ≤ 4194304 := by have h1 := hi.room; have h2 := hi.most; omega
  have hlo : f.loose ≤ 4194304 := by have h1 := (hi.get (by rw [hfs]; exact get_one f)).1; omega
  have KA := rat_one h hr
  unfold spoil at HIA ⊢
  rw [hfs, get_one] at HIA ⊢
  dsimp only at HIA ⊢
  rw [upd_one, hfr] at HIA ⊢
  obtain ⟨q, c, rfl, hc⟩ := RRow.cells1 h hr
  have c1 := hc.c1
  have n0 := hc.n0
  have n1 := hc.n1
  have n2 := hc.n2
  have n3 := hc.n3
  have hc1 := hc.one
  have HBE := Lib.hid ((Below.refl _ w).alloc (Nat.le_refl _) (Obj.cells #[Value.string rA, Value.string f.text, Value.int IntKind.i64 (f.loose : Nat), Value.bool false] 73))
  by_cases hk : k < 0
  · rw [if_pos (Or.inl hk)]
    have d1 : decide (k < 0) = true := decide_eq_true hk
    clear HIA hfs hi hz hr h hne hO hu hc
    go_enter Tryz.func71, Tryz.ntmps71
    go_wp2_with (go_at_call 30; refine KA.mono ?_; rintro e w' ⟨rfl, rfl⟩)
    go_ret
    exact HS.out 2 _ HBE.out
  obtain ⟨j, rfl⟩ : ∃ j : Nat, k = (j : Int) := ⟨k.toNat, by omega⟩
  by_cases hj : f.text.size ≤ j
  · rw [if_pos (Or.inr (by omega))]
    have d2 : decide ((f.text.size : Int) ≤ (j : Int)) = true := decide_eq_true (by omega)
    clear HIA hfs hi hz hr h hne hO hu hc
    go_enter Tryz.func71, Tryz.ntmps71
    go_wp2_with (go_at_call 30; refine KA.mono ?_; rintro e w' ⟨rfl, rfl⟩)
    go_ret
    exact HS.out 2 _ HBE.out
  rw [if_neg (by omega), Int.toNat_natCast] at HIA ⊢
  have d2 : decide ((f.text.size : Int) ≤ (j : Int)) = false := decide_eq_false (by omega)
  have hjs : j < f.text.size := by omega
  have HR := Lib.hid hr
  have HO := Lib.hid hO
  have HZ := Lib.hid hz
  have H0 := Lib.hid h
  have HC := Lib.hid hc
  have hqg : q ≠ gr := hne q rfl
  have hnb := heap_alloc_new w (Obj.cells #[Value.string rA, Value.string f.text, Value.int IntKind.i64 (f.loose : Nat), Value.bool false] 73)
  obtain ⟨cap, w1, hcv, hrow, hbel, hsz⟩ := BRow.conv (w.alloc (Obj.cells #[Value.string rA, Value.string f.text, Value.int IntKind.i64 (f.loose : Nat), Value.bool false] 73)) f.text
  have hgs : (w.alloc (Obj.cells #[Value.string rA, Value.string f.text, Value.int IntKind.i64 (f.loose : Nat), Value.bool false] 73)).heap.size = w.heap.size + 1 := by simp
  have hn1 := (hbel.block w.heap.size (by omega)).trans hnb
  have hbw := HBE.out.trans (hbel.mono HBE.out.size)
  rw [hgs] at hcv hrow hbel hsz
  obtain ⟨g, hg⟩ : ∃ g, w.heap.size + 1 = g := ⟨_, rfl⟩
  obtain ⟨nb, hnbe⟩ : ∃ nb, w.heap.size = nb := ⟨_, rfl⟩
  rw [hg] at hcv hrow hbel hsz
  rw [hnbe] at hn1
  have hjl : j < f.text.data.toList.length := by simpa using hjs
  obtain ⟨X, hX⟩ : ∃ X, f.text.data.toList[j] = X := ⟨_, rfl⟩
  have hx1 := (hrow.2 j hjl).1
  have hx2 := (hrow.2 j hjl).2
  rw [hX] at hx1
  have hxy := xor_byte X Y
  obtain ⟨U, hU⟩ : ∃ U, bits .xor .u8 (X.toNat : Int) (Y.toNat : Int) = U := ⟨_, rfl⟩
  have hst := hrow.store j hjl (X ^^^ Y)
  rw [← hxy, hU] at hst
  have hbk := hst.back f.text.size cap (by simp)
  have hTT : (⟨(f.text.data.toList.set j (X ^^^ Y)).toArray⟩ : ByteArray) = turned f.text j Y := by
    unfold turned
    have e : f.text.data.toList.getD j 0 = X := by rw [List.getD, List.getElem?_eq_getElem hjl, hX]; rfl
    rw [e, ← UInt8.toNat_xor, UInt8.ofNat_toNat]
  rw [hTT] at hbk
  obtain ⟨T, hT⟩ : ∃ T, turned f.text j Y = T := ⟨_, rfl⟩
  rw [hT] at hbk HIA ⊢
  obtain ⟨w2, hw2⟩ : ∃ w2, w1.setCell ⟨g, j, none⟩ (.int .u8 U) = w2 := ⟨_, rfl⟩
  have hn2 : w2.heap[nb]? = some (Obj.cells #[Value.string rA, Value.string f.text, Value.int IntKind.i64 (f.loose : Nat), Value.bool false] 73 (0, 0)) := by
    rw [← hw2]
    exact (Below.heap_setCell _ _ _ _ (by simp only; omega)).trans hn1
  have hb2 : Below w.heap.size w w2 := by rw [← hw2]; exact hbw.setCell (by simp only; omega) _
  have hs3 := heap_set (i := 1) hn2 (.string T)
  have p1 : w2.cell? ⟨nb, 1, none⟩ = some (.string f.text) := by rw [cell_hp hn2]; rfl
  have p2 : w2.frozen? ⟨nb, 1, none⟩ = false := frozen_hp hn2 1
  rw [hw2] at hbk
  have HB2 := Lib.hid hb2
  have HS3 := Lib.hid hs3
  have HNB := Lib.hid hnbe
  clear hfs hi hz hr h hne hO hu hc hj hk hst hbw hbel hsz hn1 hn2 hnb hgs hxy hTT hT hX hrow hs3 hb2
  go_enter Tryz.func71, Tryz.ntmps71
  go_wp2_with (go_at_call 30; refine KA.mono ?_; rintro e w' ⟨rfl, rfl⟩)
  have HB3 : Hid (Below w.heap.size w (w2.setCell ⟨nb, 1, none⟩ (.string T))) := HB2.out.setCell (by have := HNB.out; simp only; omega) _
  have HS4 := HS3.out
  have hqn : q < nb := by rw [← HNB.out]; exact HC.out.lt
  have HC2 := Lib.hid (HC.out.kept (HB3.out.block gr (lt_of_heap H0.out)) (HB3.out.block q HC.out.lt) HB3.out.size)
  clear HB2 HS3 hw2 hcv hbk
  generalize w2.setCell ⟨nb, 1, none⟩ (.string T) = w3 at *
  have m0 : w3.cell? ⟨nb, 0, none⟩ = some (.string rA) := by rw [cell_hp HS4]; rfl
  have m1 : w3.cell? ⟨nb, 1, none⟩ = some (.string T) := by rw [cell_hp HS4]; rfl
  have m2 : w3.cell? ⟨nb, 2, none⟩ = some (.int .i64 (f.loose : Nat)) := by rw [cell_hp HS4]; rfl
  have m3 : w3.cell? ⟨nb, 3, none⟩ = some (.bool false) := by rw [cell_hp HS4]; rfl
  have k1 := HC2.out.c1
  have k0 := HC2.out.n0
  have k2 := HC2.out.n1
  have k3 := HC2.out.n2
  have k4 := HC2.out.n3
  have f0 := HC2.out.fz 0
  have f1 := HC2.out.fz 1
  have f2 := HC2.out.fz 2
  have f3 := HC2.out.fz 3
  clear HS4 c1 n0 n1 n2 n3 p1 p2 hx1 hx2
  go_region
  go_wp2_with fail
  go_ret
  exact ref_put (τ := ⟨σ.room, σ.fuse, [(rA, ⟨T, f.loose, false⟩)]⟩) (w2 := w3) (t := T) (lo := f.loose) HO.out H0.out HR.out (Only.refl _ _) HB3.out hqg HIA.out HZ.out rfl ⟨rfl, rfl, rfl, Nat.le_refl _, fun _ _ _ => rfl⟩

end Go.Proofs.YtikbokbmaihdbaaGreatDoor

namespace Go.Proofs.YtikbokbmaihdbaaGreatDoor
open Go.RowKit Go.Maps Go.ChangeShapes Go.WideShapes

def Turns (O : Nat → Prop) (w : World) (gr : Nat) (τ : Dsk) (e : Ending) (w' : World) : Prop := ∃ er : Nat, Did TheRef O w gr (τ, er) e w'
set_option maxRecDepth 100000 in
set_option maxHeartbeats 2000000 in
theorem Told_at {O : Nat → Prop} {w : World} {gr : Nat} {σ : Dsk} (s : SV) (h : Hid (TheRef O w gr σ)) (hs : Hid (SVok w s)) (hn : s.name = rA) (hw : s.what = 1 ∨ s.what = 3 ∨ s.what = 5 ∨ s.what = 6 ∨ s.what = 7) :
    Calls Tryz.prog 46 #[ptr gr, .agg #[.int .i64 s.what, .string rA, .string s.text, .int .i64 s.n, .int .u8 s.by_, .slice s.K s.kl s.kc]] w (Turns O w gr (onA σ s)) := by
  obtain ⟨what, name, text, n, by_, K, kl, kc, ks⟩ := s
  obtain rfl : name = rA := hn
  dsimp only at hw ⊢
  have HB : Hid (∀ o, Below w.heap.size w (w.alloc o)) := fun o => (Below.refl _ w).alloc (Nat.le_refl _) o
  have hM : Hid (∀ o, TheRef O (w.alloc o) gr σ) := fun o => h.out.stays (fun k hk => (HB.out o).block k (h.out.own k hk))
  rcases hw with rfl | rfl | rfl | rfl | rfl
  · have hst : onA σ ⟨1, rA, text, n, by_, K, kl, kc, ks⟩ = (append σ rA text).1 := rfl
    rw [hst]
    clear hst
    have K1 := Lib.hid (fun o => ref_append text (hM.out o))
    go_enter Tryz.func46, Tryz.ntmps46
    go_wp2_with fail
    refine (K1.out _).mono ?_
    intro e w' hm
    have hm2 := hm.before (HB.out _)
    obtain ⟨rfl, hm3⟩ := hm2
    have HR := Lib.hid hm3
    clear hm hm3
    go_wp2_with fail
    go_ret
    exact ⟨_, rfl, HR.out⟩
  · have hst : onA σ ⟨3, rA, text, n, by_, K, kl, kc, ks⟩ = (cut σ rA n).1 := rfl
    rw [hst]
    clear hst
    have K1 := Lib.hid (fun o => ref_cut n (hM.out o))
    go_enter Tryz.func46, Tryz.ntmps46
    go_wp2_with fail
    refine (K1.out _).mono ?_
    intro e w' hm
    have hm2 := hm.before (HB.out _)
    obtain ⟨rfl, hm3⟩ := hm2
    have HR := Lib.hid hm3
    clear hm hm3
    go_wp2_with fail
    go_ret
    exact ⟨_, rfl, HR.out⟩
  · have hst : onA σ ⟨5, rA, text, n, by_, K, kl, kc, ks⟩ = (spoil σ rA n (UInt8.ofNat by_.toNat)).1 := rfl
    rw [hst]
    clear hst
    have K1 := Lib.hid (fun o => ref_spoil n by_ hs.out.by_ (hM.out o))
    go_enter Tryz.func46, Tryz.ntmps46
    go_wp2_with fail
    refine (K1.out _).mono ?_
    intro e w' hm
    have hm2 := hm.before (HB.out _)
    obtain ⟨rfl, hm3⟩ := hm2
    have HR := Lib.hid hm3
    clear hm hm3
    go_wp2_with fail
    go_ret
    exact ⟨_, rfl, HR.out⟩
  · have hst : onA σ ⟨6, rA, text, n, by_, K, kl, kc, ks⟩ = (fuse σ n).1 := rfl
    rw [hst]
    clear hst
    have hwn := hs.out.n
    by_cases hn0 : n < 0
    · have d1 : decide (n < 0) = true := decide_eq_true hn0
      have e1 : fuse σ n = (σ, 2) := if_pos hn0
      rw [e1]
      go_enter Tryz.func46, Tryz.ntmps46
      go_wp2_with fail
      go_ret
      exact ⟨2, TheRef.same h.out (HB.out _)⟩
    · have d1 : decide (n < 0) = false := decide_eq_false hn0
      obtain ⟨j, rfl⟩ : ∃ j : Nat, n = (j : Int) := ⟨n.toNat, by omega⟩
      have e1 : fuse σ (j : Int) = (⟨σ.room, some j, σ.fs⟩, 0) := by unfold fuse; rw [if_neg hn0, Int.toNat_natCast]
      rw [e1]
      have hjm : j ≤ 9223372036854775807 := by
        simp only [Lit.wf, Bool.and_eq_true, decide_eq_true_eq] at hwn
        have h1 : (j : Int) ≤ 9223372036854775807 := hwn.2
        omega
      have hi2 : Inv ⟨σ.room, some j, σ.fs⟩ := by have h1 := h.out.1; exact ⟨h1.srt, h1.few, h1.room, h1.most, h1.loose, h1.short⟩
      obtain ⟨hi, hz, v, f, hfs, hfr, hh, hr, hne, hO⟩ := h.out
      have hhA : Hid (∀ o, RHead (w.alloc o) gr σ.room v σ.fuse) := fun o => ((HB.out o).block gr (lt_of_heap hh)).trans hh
      have hrA : Hid (∀ o, RRow (w.alloc o) v [(rA, f)]) := fun o => rrow_kept hr (fun k hk => (HB.out o).block k (hr.lt k hk).2)
      have c2 : ∀ o, (w.alloc o).cell? ⟨gr, 2, none⟩ = some (.int .i64 (fuz σ.fuse)) := fun o => (hhA.out o).c2
      have f2 : ∀ o, (w.alloc o).frozen? ⟨gr, 2, none⟩ = false := fun o => (hhA.out o).fr 2
      have HNE := Lib.hid hne
      have HO := Lib.hid hO
      have HFS := Lib.hid hfs
      have HFR := Lib.hid hfr
      have HI2 := Lib.hid hi2
      have hgr : gr < w.heap.size := lt_of_heap hh
      have HH0 := Lib.hid hh
      have HR0 := Lib.hid hr
      clear hi hz hfs hfr hh hr hne hO hM hwn e1 hi2
      go_enter Tryz.func46, Tryz.ntmps46
      go_wp2_with fail
      go_ret
      have hb9 : ∀ o, Below (w.setCell ⟨gr, 2, none⟩ (.int .i64 (j : Nat))).heap.size (w.setCell ⟨gr, 2, none⟩ (.int .i64 (j : Nat))) ((w.setCell ⟨gr, 2, none⟩ (.int .i64 (j : Nat))).alloc o) := fun o => (Below.refl _ _).alloc (Nat.le_refl _) o
      have hs9 : (w.setCell ⟨gr, 2, none⟩ (.int .i64 (j : Nat))).heap.size = w.heap.size := by simp
      refine ⟨0, TheRef.did (f' := f) (v := v) (v' := v) HO.out HI2.out (fun k hk => by injection hk with hk; omega) HFS.out HFR.out (((hb9 _).block gr (by omega)).trans (heap_set (i := 2) HH0.out (.int .i64 (j : Nat)))) ?_ HNE.out ?_ (fun k hk => Or.inl hk)⟩
      · exact rrow_kept HR0.out (fun k hk => ((hb9 _).block k (by have := (HR0.out.lt k hk).2; omega)).trans (Below.heap_setCell _ _ _ _ (HNE.out k hk)))
      · exact ((Only.set w gr 2 _).wide (fun k hk => (HO.out k).2 (Or.inl hk))).trans ((hb9 _).only O) (fun k hk => Or.inl hk)
  · have hst : onA σ ⟨7, rA, text, n, by_, K, kl, kc, ks⟩ = (crash σ ks).1 := rfl
    rw [hst]
    clear hst
    have K1 := Lib.hid (fun o => ref_crash K kl kc ks (hs.out.keep.below (HB.out o)) (hM.out o))
    go_enter Tryz.func46, Tryz.ntmps46
    go_wp2_with fail
    refine (K1.out _).mono ?_
    rintro e w' ⟨rfl, O', hd', ho, hn⟩
    have HR : Hid (∃ O', TheRef O' w' gr (crash σ ks).1 ∧ Only O w w' ∧ ∀ k, O' k → O k ∨ w.heap.size ≤ k) := ⟨O', hd', ((HB.out _).only O).trans ho (fun k hk => Or.inl hk), fun k hk => by rcases hn k hk with h1 | h1; exact Or.inl h1; exact Or.inr (Nat.le_trans (HB.out _).size h1)⟩
    clear hd' ho hn
    go_wp2_with fail
    go_ret
    exact ⟨0, rfl, HR.out⟩

theorem Quietly.before {O : Nat → Prop} {w w1 w' : World} {gr : Nat} {τ : Dsk} {e : Ending} (hb : Below w.heap.size w w1) (h : Quietly TheRef O w1 gr τ e w') : Quietly TheRef O w gr τ e w' := by
  obtain ⟨he, O', hd, ho, hn⟩ := h
  exact ⟨he, O', hd, (hb.only O).trans ho (fun k hk => Or.inl hk), fun k hk => by rcases hn k hk with h1 | h1; exact Or.inl h1; exact Or.inr (Nat.le_trans hb.size h1)⟩
set_option maxRecDepth 100000 in
set_option maxHeartbeats 2000000 in
theorem told_at {O : Nat → Prop} {w : World} {gr : Nat} {σ : Dsk} (v : SV8) (h : Hid (TheRef O w gr σ)) (hs : Hid (SV8ok w v)) : Calls Tryz.prog 16 #[ptr gr, v.val] w (Quietly TheRef O w gr (onA σ v.s)) := by
  obtain ⟨⟨what, name, text, n, by_, K, kl, kc, ks⟩, L, ll, lc, ts⟩ := v
  unfold SV8.val
  have hs := Lib.hid hs.out.s
  dsimp only at hs ⊢
  have HB : Hid (∀ o o', Below w.heap.size w ((w.alloc o).alloc o')) := fun o o' => ((Below.refl _ w).alloc (Nat.le_refl _) o).alloc (by simp) o'
  have hM : Hid (∀ o o', TheRef O ((w.alloc o).alloc o') gr σ) := fun o o' => h.out.stays (fun k hk => (HB.out o o').block k (h.out.own k hk))
  by_cases hw : what = 1 ∨ what = 3 ∨ what = 5 ∨ what = 6 ∨ what = 7
  · have hst : onA σ ⟨what, name, text, n, by_, K, kl, kc, ks⟩ = onA σ ⟨what, rA, text, n, by_, K, kl, kc, ks⟩ := rfl
    rw [hst]
    clear hst
    have hsA : SVok w ⟨what, rA, text, n, by_, K, kl, kc, ks⟩ := ⟨hs.out.what, hs.out.n, hs.out.by_, (by show rA.size ≤ _; decide), hs.out.text, hs.out.keep, hs.out.few⟩
    have HK : Hid (∀ o o', Calls Tryz.prog 46 #[ptr gr, .agg #[.int .i64 what, .string rA, .string text, .int .i64 n, .int .u8 by_, .slice K kl kc]] ((w.alloc o).alloc o') (Turns O ((w.alloc o).alloc o') gr (onA σ ⟨what, rA, text, n, by_, K, kl, kc, ks⟩))) := fun o o' =>
      Told_at ⟨what, rA, text, n, by_, K, kl, kc, ks⟩ (hM.out o o') ⟨hsA.what, hsA.n, hsA.by_, hsA.name, hsA.text, hsA.keep.below (HB.out o o'), hsA.few⟩ rfl hw
    have HE0 : ∀ e w' o o', Turns O ((w.alloc o).alloc o') gr (onA σ ⟨what, rA, text, n, by_, K, kl, kc, ks⟩) e w' → ∃ er : Nat, e = .returned (.int .i64 (er : Nat)) ∧ Hid (∃ O', TheRef O' w' gr (onA σ ⟨what, rA, text, n, by_, K, kl, kc, ks⟩) ∧ Only O w w' ∧ ∀ k, O' k → O k ∨ w.heap.size ≤ k) := by
      rintro e w' o o' ⟨er, hd⟩
      obtain ⟨he, h1⟩ := hd.before (HB.out o o')
      exact ⟨er, he, h1⟩
    have HE := Lib.hid HE0
    clear HE0
    obtain ⟨τ, hτ⟩ : ∃ τ, onA σ ⟨what, rA, text, n, by_, K, kl, kc, ks⟩ = τ := ⟨_, rfl⟩
    rw [hτ] at HK HE ⊢
    clear hM hsA hτ
    rcases hw with rfl | rfl | rfl | rfl | rfl
    · go_enter Tryz.func16, Tryz.ntmps16
      go_wp2_with fail
      refine (HK.out _ _).mono ?_
      intro e w' hm
      obtain ⟨er, rfl, HR⟩ := HE.out _ _ _ _ hm
      clear hm
      go_wp2_with fail
      go_end0
      exact ⟨rfl, HR.out⟩
    · go_enter Tryz.func16, Tryz.ntmps16
      go_wp2_with fail
      refine (HK.out _ _).mono ?_
      intro e w' hm
      obtain ⟨er, rfl, HR⟩ := HE.out _ _ _ _ hm
      clear hm
      go_wp2_with fail
      go_end0
      exact ⟨rfl, HR.out⟩
    · go_enter Tryz.func16, Tryz.ntmps16
      go_wp2_with fail
      refine (HK.out _ _).mono ?_
      intro e w' hm
      obtain ⟨er, rfl, HR⟩ := HE.out _ _ _ _ hm
      clear hm
      go_wp2_with fail
      go_end0
      exact ⟨rfl, HR.out⟩
    · go_enter Tryz.func16, Tryz.ntmps16
      go_wp2_with fail
      refine (HK.out _ _).mono ?_
      intro e w' hm
      obtain ⟨er, rfl, HR⟩ := HE.out _ _ _ _ hm
      clear hm
      go_wp2_with fail
      go_end0
      exact ⟨rfl, HR.out⟩
    · go_enter Tryz.func16, Tryz.ntmps16
      go_wp2_with fail
      refine (HK.out _ _).mono ?_
      intro e w' hm
      obtain ⟨er, rfl, HR⟩ := HE.out _ _ _ _ hm
      clear hm
      go_wp2_with fail
      go_end0
      exact ⟨rfl, HR.out⟩
  · have e1 : ¬ what = 1 := fun e => hw (Or.inl e)
    have e3 : ¬ what = 3 := fun e => hw (Or.inr (Or.inl e))
    have e5 : ¬ what = 5 := fun e => hw (Or.inr (Or.inr (Or.inl e)))
    have e6 : ¬ what = 6 := fun e => hw (Or.inr (Or.inr (Or.inr (Or.inl e))))
    have e7 : ¬ what = 7 := fun e => hw (Or.inr (Or.inr (Or.inr (Or.inr e))))
    have hst : onA σ ⟨what, name, text, n, by_, K, kl, kc, ks⟩ = σ := by simp only [onA, e1, e3, e5, e6, e7, if_false]
    rw [hst]
    have q1 : (what == 1) = false := by rw [beq_eq_false_iff_ne]; exact e1
    have q3 : (what == 3) = false := by rw [beq_eq_false_iff_ne]; exact e3
    have q5 : (what == 5) = false := by rw [beq_eq_false_iff_ne]; exact e5
    have q6 : (what == 6) = false := by rw [beq_eq_false_iff_ne]; exact e6
    have q7 : (what == 7) = false := by rw [beq_eq_false_iff_ne]; exact e7
    clear hst e1 e3 e5 e6 e7 hw
    go_enter Tryz.func16, Tryz.ntmps16
    go_wp2_with fail
    go_end0
    exact ⟨rfl, O, hM.out _ _, (HB.out _ _).only O, fun k hk => Or.inl hk⟩

end Go.Proofs.YtikbokbmaihdbaaGreatDoor
