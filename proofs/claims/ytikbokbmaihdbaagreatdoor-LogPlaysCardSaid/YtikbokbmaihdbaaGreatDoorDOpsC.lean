/-
  Layer 7: Append, Spoil, at a disk that New made.
-/
import Derived.Test.YtikbokbmaihdbaaGreatDoorDOpsB
import Derived.Laws.BitsAllLaws
import Derived.Laws.AppendOwnNone
namespace Go.Proofs.YtikbokbmaihdbaaGreatDoor
open Go.RowKit Go.Maps Go.Lib Go.ChangeShapes Go.WideShapes

theorem info5 : (Tryz.prog.info? 5).map (fun i => (i.zero, i.size, i.bytes)) = some (some (.int .u8 0), 1, 1) := by kernel_rfl
theorem owns_zero {w : World} {base : Nat} {e : TypeId} {size : Nat} {v : Value} {n : Nat} {xs : List Value} (h : w.ownsRow base e size v n xs) : w.ownsRow 0 e size v n xs := by
  refine ⟨h.1, ?_⟩
  rcases h.2 with h | ⟨g, cap, cur, h1, _, h3⟩
  · exact Or.inl h
  · exact Or.inr ⟨g, cap, cur, h1, Nat.zero_le _, h3⟩
theorem owns_val {w : World} {base : Nat} {e : TypeId} {size : Nat} {v : Value} {n : Nat} {xs : List Value} (h : w.ownsRow base e size v n xs) : ∃ A c, v = .slice A n c := by
  rcases h.2 with ⟨rfl, rfl⟩ | ⟨g, cap, cur, rfl, _⟩
  · exact ⟨none, 0, rfl⟩
  · exact ⟨_, cap, rfl⟩

/-- 'append(b, s...)': the row that comes is the one that was, or a new one. -/
theorem run_append_row (w : World) (ty : TypeId) (v : Value) (n : Nat) (xs : List Value) (hown : w.ownsRow 0 5 1 v n xs) (s : ByteArray) (hs : n + s.size ≤ 140737488355328) :
    ∃ v' w', (Builtin.append_ #[75, 9] ty #[v, .string s]).run Tryz.prog w = .ok v' w' ∧ w'.ownsRow 0 5 1 v' (n + s.size) (xs ++ strCells s) ∧ w.grownBy w' v.ownBlock ∧ ∀ k, v'.ownBlock = some k → v.ownBlock = some k ∨ w.heap.size ≤ k := by
  obtain ⟨i, hi, hz, hs1, hb1⟩ : ∃ i, Tryz.prog.info? 5 = some i ∧ i.zero = some (.int .u8 0) ∧ i.size = 1 ∧ i.bytes = 1 := by
    have h := info5
    cases hq : Tryz.prog.info? 5 with
    | none => rw [hq] at h; cases h
    | some i => rw [hq] at h; simp at h; exact ⟨i, rfl, h.1, h.2.1, h.2.2⟩
  have hm : n + s.size ≤ maxLen := by unfold maxLen; omega
  rcases hown.2 with ⟨rfl, rfl⟩ | ⟨g, cap, cur, rfl, _, hg, h1, h2, h3, h4⟩
  · have hx : xs = [] := List.eq_nil_of_length_eq_zero (by simpa using hown.1)
    subst hx
    obtain ⟨v', w', hr, ho, hgw, _⟩ := run_append_own_string w w.heap.size 75 9 ty 5 i Tryz.underlying75 Tryz.underlying9 hi hz hs1 hb1 (.slice none 0 0) 0 [] (World.ownsRow_nil _ _ _ _) s hm (by omega) (Nat.le_refl _)
    exact ⟨v', w', hr, owns_zero ho, hgw, fun k hk => Or.inr (ho.lt k hk).1⟩
  · obtain ⟨v', w', hr, ho, hgw, _⟩ := run_append_own_string w 0 75 9 ty 5 i Tryz.underlying75 Tryz.underlying9 hi hz hs1 hb1 _ n xs hown s hm (by omega) (Nat.zero_le _)
    refine ⟨v', w', hr, ho, hgw, fun k hk => ?_⟩
    by_cases hroom : n + s.size ≤ cap
    · have e := run_append_room_string w 75 9 ty 5 i Tryz.underlying75 Tryz.underlying9 hi hs1 g n cap cur hg s hroom (by omega)
      rw [hr] at e
      injection e with e _
      rw [e] at hk
      exact Or.inl hk
    · have hcell : ∀ j v, xs[j]? = some v → w.cell? ((⟨g, 0, none⟩ : Addr).add j) = some v := hown.cells (g := g) rfl
      have hl : xs.length = n * i.size := by rw [hs1]; exact hown.1
      have e := run_append_grow_string w 75 9 ty 5 i (.int .u8 0) Tryz.underlying75 Tryz.underlying9 hi hz ⟨g, 0, none⟩ n cap xs hl hcell s (by omega) (by omega) (by rw [hb1]; exact growslice_fits (by omega) (by omega))
      rw [hr] at e
      injection e with e _
      rw [e] at hk
      simp only [Value.ownBlock, Option.some.injEq] at hk
      exact Or.inr (by omega)
theorem wpList_append_row {ops : Array Oper} {rest : List Oper} {o : Oper} {a : Act} {w : World} {Q : Exit → Act → World → Prop} (hgd : o.guard = none) (sl x : Operand) (ho : o.op = .call { callee := .builtin .append, args := #[sl, x], argTypes := #[75, 9] })
    (v : Value) (n : Nat) (xs : List Value) (hown : w.ownsRow 0 5 1 v n xs) (s : ByteArray) (hs : n + s.size ≤ 140737488355328) (hv : a.eval sl = v) (hx : a.eval x = .string s)
    (h : ∀ v' w', w'.ownsRow 0 5 1 v' (n + s.size) (xs ++ strCells s) → w.grownBy w' v.ownBlock → (∀ k, v'.ownBlock = some k → v.ownBlock = some k ∨ w.heap.size ≤ k) → wpList Tryz.prog ops Q rest (a.put o.dst v') w') : wpList Tryz.prog ops Q (o :: rest) a w := by
  refine wpList_plain hgd fun K hK => ?_
  obtain ⟨v', w', hr, h2, h3, h4⟩ := run_append_row w o.type v n xs hown s hs
  unfold Oper.wp execOp
  simp only [ho, resolve, invoke, builtin, Sem.run_bind, Sem.run_pure, Result.andThen_ok, List.map_toArray, List.map_cons, List.map_nil, hv, hx, hr]
  exact hK _ _ (h v' w' h2 h3 h4)

theorem strCells_app (s t : ByteArray) : strCells (s ++ t) = strCells s ++ strCells t := by simp [strCells]
theorem xor_byte (X z : UInt8) : bits .xor .u8 (X.toNat : Int) (z.toNat : Int) = ((X ^^^ z).toNat : Int) := by
  rw [UInt8.toNat_xor]
  exact u8_xor_nat _ _ (UInt8.toNat_lt X) (UInt8.toNat_lt z)
/-- One byte of a row turned. -/
theorem row_turned {w : World} {q cap : Nat} {s : ByteArray} (h : w.ownsRow 0 5 1 (.slice (some ⟨q, 0, none⟩) s.size cap) s.size (strCells s)) (k : Nat) (b : UInt8) :
    (w.setCell ⟨q, k, none⟩ (.int .u8 (((s.data.toList.getD k 0) ^^^ b).toNat : Int))).ownsRow 0 5 1 (.slice (some ⟨q, 0, none⟩) s.size cap) (turned s k b).size (strCells (turned s k b)) := by
  have e : strCells (turned s k b) = (strCells s).set k (.int .u8 (((s.data.toList.getD k 0) ^^^ b).toNat : Int)) := by
    have e2 : UInt8.ofNat ((s.data.toList.getD k 0).toNat ^^^ b.toNat) = (s.data.toList.getD k 0) ^^^ b := by
      rw [← UInt8.toNat_xor, UInt8.ofNat_toNat]
    simp only [strCells, turned, e2, List.map_set]
  rw [e, turned_size]
  refine ⟨by rw [List.length_set]; exact h.1, ?_⟩
  rcases h.2 with ⟨h1, _⟩ | ⟨g, cap', cur, h1, h2, hg, h4, h5, h6, h7⟩
  · cases h1
  · injection h1 with h1 _ h1'
    injection h1 with h1
    injection h1 with h1
    subst h1 h1'
    refine Or.inr ⟨q, cap, _, rfl, h2, heap_set hg _, h4, h5, by rw [Array.size_setIfInBounds]; exact h6, ?_⟩
    rw [← h7, Array.toList_setIfInBounds, Nat.mul_one, List.take_set]

theorem mem_used : ∀ {fs : List (ByteArray × Fil)} {p : ByteArray × Fil}, p ∈ fs → p.2.text.size ≤ used fs
  | q :: r, p, h => by
    simp only [used, List.map_cons, List.sum_cons]
    rcases List.mem_cons.1 h with rfl | h
    · omega
    · have := mem_used h
      simp only [used] at this
      omega

section
variable {O : Nat → Prop} {w : World} {g : Nat} {σ : Dsk}

set_option maxHeartbeats 1000000 in
set_option maxRecDepth 100000 in
theorem append_any (n t : ByteArray) (hn : n.size ≤ many) (ht : t.size ≤ many) (hd : TheDisk O w g σ) : Calls Tryz.prog 39 #[ptr g, .string n, .string t] w (Did TheDisk O w g (append σ n t)) := by
  have HI := Lib.hid (hd.1.append n t)
  obtain ⟨hi, hz, b, P, V, h, hl, hO⟩ := hd
  have hn' : n.size ≤ maxLen := by unfold many at hn; unfold maxLen; omega
  unfold append at HI ⊢
  by_cases hf : σ.fuse = some 0
  · rw [if_pos hf]
    have HR := Lib.hid (did_of (er := 70) hO hi hz h hl (Only.refl O w) (fun k hk => Or.inl hk))
    have K := open_down h n hf
    go_enter Tryz.func39, Tryz.ntmps39
    go_wp2_with (go_at_call 59; refine K.mono ?_; rintro e w' ⟨rfl, rfl⟩)
    go_ret
    exact HR.out
  · rw [if_neg hf] at HI ⊢
    have K := open_at h hl n hn' hf
    cases hg : get σ.fs n with
    | none =>
      rw [hg] at K
      have HR := Lib.hid (did_of (er := 5) hO hi hz h hl (Only.refl O w) (fun k hk => Or.inl hk))
      clear HI
      go_enter Tryz.func39, Tryz.ntmps39
      go_wp2_with (go_at_call 59; refine K.mono ?_; rintro e w' ⟨rfl, rfl⟩)
      go_ret
      exact HR.out
    | some f =>
      rw [hg] at K HI
      dsimp only at HI ⊢
      have KR := room_any h hl hi.room hi.most
      have HN := Lib.hid (names_of_get hg)
      obtain ⟨R, hR⟩ : ∃ R, σ.room - used σ.fs = R := ⟨_, rfl⟩
      rw [hR] at KR
      have hroom := hi.room
      have hmost := hi.most
      unfold many at ht
      by_cases hb : σ.room < used σ.fs + t.size
      · rw [if_pos hb]
        have d1 : R < t.size := by omega
        have HD := Lib.hid (fun w1 => fun hb1 : Below w.heap.size w w1 => did_of (w := w) (w' := w1) (er := 6) hO hi hz ((hb1.block g h.lt).trans h) (hl.below hb1) (hb1.only O) (fun k hk => Or.inl hk))
        clear hl h hz hi hg hb HI hroom hmost
        go_enter Tryz.func39, Tryz.ntmps39
        go_wp2_with (first
          | (go_at_call 59; refine K.mono ?_; rintro e w' ⟨rfl, rfl⟩)
          | (go_at_call 48; refine KR.mono ?_; rintro e w1 ⟨rfl, hb1⟩; have HR := Lib.hid (HD.out w1 hb1); clear hb1))
        go_ret
        exact HR.out
      · rw [if_neg hb] at HI ⊢
        have d1 : ¬ R < t.size := by omega
        have hle : f.text.size ≤ 4194304 := by
          have h2 : f.text.size ≤ used σ.fs := mem_used (get_mem hg)
          omega
        have hts : t.size ≤ 4194304 := by omega
        have hlo : f.loose ≤ 4194304 := by have := (hi.get hg).1; omega
        have HL := Lib.hid hl
        have HH := Lib.hid h
        have HZ := Lib.hid hz
        have HG := Lib.hid hg
        have HF := Lib.hid hf
        obtain ⟨A, c, hv, _, _⟩ := (hl.file n f hg).slice
        clear hl h hz hi hg hb hroom hmost hf
        go_enter Tryz.func39, Tryz.ntmps39
        go_wp2_with (first
          | (go_at_call 59; refine K.mono ?_; rintro e w' ⟨rfl, rfl⟩)
          | (go_at_call 48; refine KR.mono ?_; rintro e w1 ⟨rfl, hb1⟩; have HB1 := Lib.hid hb1; have HH1 := Lib.hid ((hb1.block g HH.out.lt).trans HH.out); have HL1 := Lib.hid (HL.out.below hb1); clear hb1)
          | (go_at_call 56; refine (burn_at HH1.out HF.out HZ.out).mono ?_; rintro e w2 ⟨rfl, h1, ho1, hs1⟩; have HL2 := Lib.hid (HL1.out.only ho1 (fun k hk => DHead.not_lay HH1.out HL1.out hk)); have HH2 := Lib.hid h1; have HO2 := Lib.hid ho1; have HS2 := Lib.hid hs1; clear h1 ho1 hs1; have hF := HL2.out.file n f HG.out; have HF2 := Lib.hid hF; have c0 := hF.c0; clear hF; rw [hv] at c0)
          | (at_builtin; refine wpList_append_row (by rfl) _ _ (by rfl) (V n) f.text.size _ HF2.out.row t (by omega) (by exact hv.symm) (by rfl) ?_; intro v' w3 ho hgw hvk; obtain ⟨A', c', rfl⟩ := owns_val ho; have HO3 := Lib.hid ho; have HG3 := Lib.hid hgw; have HV3 := Lib.hid hvk; clear ho hgw hvk; have hp3 : w3.heap[P n]? = w2.heap[P n]? := HG3.out.block _ (lt_of_heap HF2.out.head) (fun e => HL2.out.no_p HN.out HN.out e.symm); have hh3 := hp3.trans HF2.out.head; clear hp3; have h4 := heap_set (i := 0) hh3 (.slice A' (f.text.size + t.size) c'); have c0 : w3.cell? ⟨P n, 0, none⟩ = some (V n) := (cell_hp hh3 0).trans rfl; rw [hv] at c0; have f0 := frozen_hp hh3 0; have f1 := frozen_hp hh3 1; have c1 : (w3.setCell ⟨P n, 0, none⟩ (.slice A' (f.text.size + t.size) c')).cell? ⟨P n, 1, none⟩ = some (.int .i64 (f.loose : Nat)) := (cell_hp h4 1).trans rfl; have H5 := Lib.hid (heap_set (i := 1) h4 (.int .i64 ((f.loose + t.size : Nat) : Int))); clear hh3 h4))
        go_ret
        rw [Int.natCast_add] at H5
        have s2 : w2.heap.size = w1.heap.size := HS2.out
        have s1 := HB1.out.size
        have ho5 := (Only.set w3 (P n) 0 (.slice A' (f.text.size + t.size) c')).trans (Only.set _ (P n) 1 (.int .i64 (f.loose + t.size))) (fun i hi => Or.inl hi)
        have ho3 := Only.grown HG3.out
        have hrow : File ((w3.setCell ⟨P n, 0, none⟩ (.slice A' (f.text.size + t.size) c')).setCell ⟨P n, 1, none⟩ (.int .i64 (f.loose + t.size))) (P n) (.slice A' (f.text.size + t.size) c') ⟨f.text ++ t, f.loose + t.size, f.fresh⟩ := by
          refine ⟨?_, ?_⟩
          · rw [H5.out, Int.natCast_add]; rfl
          · simp only [ByteArray.size_append, strCells_app]
            refine row_kept HO3.out (fun k hk => ?_)
            have hne : k ≠ P n := by
              rintro rfl
              rcases HV3.out _ hk with h1 | h1
              · exact HL2.out.no_p HN.out HN.out h1
              · have := lt_of_heap HF2.out.head; omega
            rw [Below.heap_setCell _ _ _ _ hne, Below.heap_setCell _ _ _ _ hne]
        have hg2 : ∀ k, OLay b P V σ.fs k → k ≠ g := fun k hk => DHead.not_lay HH2.out HL2.out hk
        have hh5 : DHead ((w3.setCell ⟨P n, 0, none⟩ (.slice A' (f.text.size + t.size) c')).setCell ⟨P n, 1, none⟩ (.int .i64 (f.loose + t.size))) g σ.room b (burn σ) := by
          have hgp : g ≠ P n := fun e => hg2 _ (Or.inr ⟨n, HN.out, Or.inl rfl⟩) e.symm
          have hgv : (V n).ownBlock ≠ some g := fun e => hg2 g (Or.inr ⟨n, HN.out, Or.inr e⟩) rfl
          unfold DHead
          rw [Below.heap_setCell _ _ _ _ hgp, Below.heap_setCell _ _ _ _ hgp]
          exact (ho3.block g (DHead.lt HH2.out) hgv).trans HH2.out
        have hoA := (HB1.out.only (fun k => k = g ∨ k = P n ∨ (V n).ownBlock = some k)).trans HO2.out (fun k hk => Or.inl (Or.inl hk))
        have hoB := hoA.trans ho3 (fun k hk => Or.inl (Or.inr (Or.inr hk)))
        have hoC := hoB.trans ho5 (fun k hk => Or.inl (Or.inr (Or.inl hk)))
        exact did_turn hO HH.out HL.out HG.out HI.out (burn_le HZ.out) hh5 hrow (fun k hk => by
          rcases HV3.out k hk with h1 | h1
          · exact Or.inl h1
          · exact Or.inr (by omega)) hoC

set_option maxHeartbeats 1000000 in
theorem spoil_any (n : ByteArray) (k y : Int) (hn : n.size ≤ many) (hy : (Lit.int .u8 y).wf = true) (hd : TheDisk O w g σ) : Calls Tryz.prog 44 #[ptr g, .string n, .int .i64 k, .int .u8 y] w (Did TheDisk O w g (spoil σ n k (UInt8.ofNat y.toNat))) := by
  obtain ⟨Y, rfl, hY⟩ : ∃ Y : UInt8, y = (Y.toNat : Int) ∧ UInt8.ofNat y.toNat = Y := by
    simp only [Lit.wf, Bool.and_eq_true, decide_eq_true_eq] at hy
    have h1 : 0 ≤ y := hy.1
    have h2 : y ≤ 255 := hy.2
    refine ⟨UInt8.ofNat y.toNat, ?_, rfl⟩
    simp only [UInt8.toNat_ofNat']
    omega
  rw [hY]
  have HI := Lib.hid (hd.1.spoil n k Y)
  obtain ⟨hi, hz, b, P, V, h, hl, hO⟩ := hd
  have hn' : n.size ≤ maxLen := by unfold many at hn; unfold maxLen; omega
  unfold spoil at HI ⊢
  have K := find_at h hl n hn'
  cases hg : get σ.fs n with
  | none =>
    rw [hg] at K
    have HR := Lib.hid (did_of (er := 5) hO hi hz h hl (Only.refl O w) (fun k hk => Or.inl hk))
    clear HI
    go_enter Tryz.func44, Tryz.ntmps44
    go_wp2_with (go_at_call 53; refine K.mono ?_; rintro e w' ⟨rfl, rfl⟩)
    go_ret
    exact HR.out
  | some f =>
    rw [hg] at K HI
    dsimp only at HI ⊢
    have HN := Lib.hid (names_of_get hg)
    have hF := hl.file n f hg
    have c0 := hF.c0
    obtain ⟨A, c, hv, hc, _⟩ := hF.slice
    rw [hv] at c0
    by_cases hb : k < 0 ∨ (f.text.size : Int) ≤ k
    · rw [if_pos hb]
      have HR := Lib.hid (did_of (er := 2) hO hi hz h hl (Only.refl O w) (fun k hk => Or.inl hk))
      clear hl h hz hi hg hF HI
      by_cases hk0 : k < 0
      · have d1 : decide (k < 0) = true := by simpa using hk0
        go_enter Tryz.func44, Tryz.ntmps44
        go_wp2_with (go_at_call 53; refine K.mono ?_; rintro e w' ⟨rfl, rfl⟩)
        go_ret
        exact HR.out
      · have d1 : decide (k < 0) = false := by simpa using hk0
        have d2 : decide ((f.text.size : Int) ≤ k) = true := by simp; omega
        go_enter Tryz.func44, Tryz.ntmps44
        go_wp2_with (go_at_call 53; refine K.mono ?_; rintro e w' ⟨rfl, rfl⟩)
        go_ret
        exact HR.out
    · rw [if_neg hb] at HI ⊢
      obtain ⟨q, rfl⟩ : ∃ q : Nat, k = q := ⟨k.toNat, by omega⟩
      have hq : q < f.text.size := by omega
      have d1 : decide ((q : Int) < 0) = false := by simp
      have d2 : ¬ f.text.size ≤ q := by omega
      rw [Int.toNat_natCast] at HI ⊢
      obtain ⟨r, rfl⟩ : ∃ r, A = some ⟨r, 0, none⟩ := by
        rcases hF.row.2 with ⟨h1, h2⟩ | ⟨r, cap, cur, h1, _⟩
        · omega
        · rw [hv] at h1
          injection h1 with h1
          exact ⟨r, h1⟩
      have hrow := hF.row
      rw [hv] at hrow
      have hql : q < f.text.data.toList.length := by simpa using hq
      obtain ⟨X, hX⟩ : ∃ X, X = f.text.data.toList.getD q 0 := ⟨_, rfl⟩
      have hcx : w.cell? ⟨r, q, none⟩ = some (.int .u8 (X.toNat : Int)) := by
        have := hrow.cells (g := r) rfl q (.int .u8 (X.toNat : Int)) (by simp only [strCells, List.getElem?_map, List.getElem?_eq_getElem hql, Option.map_some, hX, List.getD]; rfl)
        rw [add_plain] at this
        simpa using this
      obtain ⟨cur, hcur⟩ := row_block hrow (k := r) rfl
      have hfx := frozen_hp hcur q
      have hX1 := xor_byte X Y
      obtain ⟨U, hU⟩ : ∃ U, bits .xor .u8 (X.toNat : Int) (Y.toNat : Int) = U := ⟨_, rfl⟩
      have hT := row_turned hrow q Y
      rw [← hX, ← hX1, hU] at hT
      have HT := Lib.hid hT
      have hrp : r ≠ P n := fun e => hl.no_p HN.out HN.out (by rw [hv, e]; rfl)
      have hF2 : File (w.setCell ⟨r, q, none⟩ (.int .u8 U)) (P n) (V n) ⟨turned f.text q Y, f.loose, f.fresh⟩ := by
        refine ⟨(Below.heap_setCell _ _ _ _ (Ne.symm hrp)).trans hF.head, ?_⟩
        rw [hv]
        have := HT.out
        rw [turned_size] at this
        simp only [turned_size]
        exact this
      have hrg : g ≠ r := fun e => h.not_lay hl (k := r) (Or.inr ⟨n, HN.out, Or.inr (by rw [hv]; rfl)⟩) e.symm
      have HR : Hid (Did TheDisk O w g (⟨σ.room, σ.fuse, upd σ.fs n ⟨turned f.text q Y, f.loose, f.fresh⟩⟩, 0) (.returned (.int .i64 (0 : Nat))) (w.setCell ⟨r, q, none⟩ (.int .u8 U))) :=
        did_turn hO h hl hg HI.out hz ((Below.heap_setCell _ _ _ _ hrg).trans h) hF2 (fun k hk => Or.inl hk) ((Only.set w r q _).wide (fun k hk => Or.inr (Or.inr (by rw [hv, hk]; rfl))))
      clear hl h hz hi hg hF HI hrow hcur hT HT hF2 hX hX1 hb
      go_enter Tryz.func44, Tryz.ntmps44
      go_wp2_with (go_at_call 53; refine K.mono ?_; rintro e w' ⟨rfl, rfl⟩)
      go_ret
      exact HR.out
end
end Go.Proofs.YtikbokbmaihdbaaGreatDoor
