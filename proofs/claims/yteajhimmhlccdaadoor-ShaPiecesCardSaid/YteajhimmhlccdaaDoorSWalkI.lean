/-
  Contracts of layer 4: New, Len, Sum; and those of nil.
-/
import Derived.Test.YteajhimmhlccdaaDoorSWalkF
import Derived.Deep.CutBlock
namespace Go.Proofs.YteajhimmhlccdaaDoor
open Go.RowKit

set_option maxRecDepth 100000 in
theorem Add_nil (s : ByteArray) (w : World) : Calls Tryd.prog 11 #[.pointer none, .string s] w fun e w' => e = .returned (.tuple #[]) ∧ w = w' := by
  go_enter Tryd.func11, Tryd.ntmps11
  go_wp2_with fail
  (try simp only [Exit.inBlock, Exit.then])
  exact bodyPost_ret (results_none rfl _ _ _) rfl ⟨rfl, rfl⟩
theorem Len_nil (w : World) : Calls Tryd.prog 13 #[.pointer none] w fun e w' => e = .returned (.int .u64 0) ∧ w = w' := by
  go_enter Tryd.func13, Tryd.ntmps13
  go_wp2_with fail
  go_ret
  exact ⟨rfl, rfl⟩
theorem Len_any (g : Nat) (l : List UInt8) (w : World) (hH : Hid (Hash w g l)) : Calls Tryd.prog 13 #[.pointer (some ⟨g, 0, none⟩)] w fun e w' => e = .returned (.int .u64 (l.length : Nat)) ∧ w = w' := by
  have hc : w.cell? ⟨g, 73, none⟩ = some (.int .u64 (l.length : Nat)) := by obtain ⟨R, h1, _⟩ := hH.out; exact h1.count
  go_enter Tryd.func13, Tryd.ntmps13
  go_wp2_with fail
  go_ret
  exact ⟨rfl, rfl⟩
set_option maxRecDepth 100000 in
theorem Sum_nil (w : World) : Calls Tryd.prog 12 #[.pointer none] w fun e w' => e = .returned (.string ⟨#[]⟩) ∧ w = w' := by
  go_enter Tryd.func12, Tryd.ntmps12
  go_wp2_with fail
  go_ret
  exact ⟨rfl, rfl⟩

theorem wpList_build_is {P : Program} {ops : Array Oper} {rest : List Oper} {o : Oper} {a : Act} {w : World} {Q : Exit → Act → World → Prop} (hg : o.guard = none) (t : TypeId) (parts : Array (Nat × Operand)) (ho : o.op = .build t parts)
    (cells : Array Value) (hf : P.built t (parts.map fun (i, x) => (i, a.eval x)).toList = some cells) (h : wpList P ops Q rest (a.put o.dst (.agg cells)) w) : wpList P ops Q (o :: rest) a w :=
  wpList_build hg t parts ho (by rw [hf]; rfl) (by rw [hf]; exact h)
def rest0 : List UInt8 := List.replicate 64 0
def first47 : List Value := hashL H0 rest0 0
theorem first47_len : first47.length = 74 := hashL_len H0 rest0 0 rfl
theorem built47 : Tryd.prog.built 47 [(0, .bool true), (1, .agg #[.int .u32 1779033703, .int .u32 3144134277, .int .u32 1013904242, .int .u32 2773480762, .int .u32 1359893119, .int .u32 2600822924, .int .u32 528734635, .int .u32 1541459225])] = some first47.toArray := by kernel_rfl
def zero47 : List Value := .bool false :: (List.replicate 8 (.int .u32 0) ++ (List.replicate 64 (.int .u8 0) ++ [.int .u64 0]))
theorem info47 : (Tryd.prog.info? 47).map (fun i => (i.zero, i.size)) = some (some (.agg zero47.toArray), 74) := by kernel_rfl
theorem size47 : (Tryd.prog.info? 47).map (·.size) = some 74 := by kernel_rfl
theorem zero_is (w : World) : (zeroValue 47).run Tryd.prog w = .ok (.agg zero47.toArray) w := (zero_of_info info47).1 w
theorem zero47_len : zero47.length = 74 := by simp [zero47]
theorem zero47_ne : ¬ zero47.toArray = #[] := by simp [zero47]
theorem first47_ne : ¬ first47.toArray = #[] := by simp [first47, hashL]

set_option maxRecDepth 100000 in
set_option maxHeartbeats 1000000 in
theorem New_any (w : World) : Calls Tryd.prog 10 #[] w fun e w' => ∃ g, e = .returned (.pointer (some ⟨g, 0, none⟩)) ∧ w.heap.size ≤ g ∧ Hash w' g [] ∧ Below w.heap.size w w' := by
  obtain ⟨C, hC⟩ : ∃ C, first47 = C := ⟨_, rfl⟩
  have hb := built47
  have hne := first47_ne
  rw [hC] at hb hne
  have HB := Lib.hid hb
  have HC := Lib.hid hC
  clear hb hC
  go_enter Tryd.func10, Tryd.ntmps10
  go_wp2_with (refine wpList_build_is (by rfl) 47 #[(0, .const (.bool true)), (1, .tmp 3)] (by rfl) C.toArray (by simpa [Act.eval] using HB.out) ?_)
  go_ret
  have hb := heap_alloc2_new w (.cells #[.int .u32 1779033703, .int .u32 3144134277, .int .u32 1013904242, .int .u32 2773480762, .int .u32 1359893119, .int .u32 2600822924, .int .u32 528734635, .int .u32 1541459225] 44) (.cells C.toArray 47)
  refine ⟨w.heap.size + 1, rfl, by omega, ⟨rest0, HashAt.of_all rfl ?_ (fun j _ => frozen_of_row _ _ _ _ _ hb), rfl⟩, (((Below.refl _ w).alloc (Nat.le_refl _) _).alloc (by simp) _)⟩
  have := range_of_block hb
  have e1 : hashL (blks [] (([] : List UInt8).length / 64)) rest0 ([] : List UInt8).length = C := HC.out
  rw [e1]
  exact this

theorem wpList_store_blk' {P : Program} {ops : Array Oper} {rest : List Oper} {op : Oper} {a : Act} {w : World} {Q : Exit → Act → World → Prop} (hgd : op.guard = none) (ty : TypeId) (x y : Operand) (ho : op.op = .store ty x y)
    (b : Nat) (cs : List Value) (hx : a.eval x = .pointer (some ⟨b, 0, none⟩)) (hy : a.eval y = .agg cs.toArray)
    (old : Array Value) (t : TypeId) (hb : w.heap[b]? = some (.cells old t (0, 0))) (hs : old.size = cs.length) (hi : (P.info? ty).map (·.size) = some cs.length) (h1 : ∀ v ∈ cs, v.oneCell' = true) (hd : op.dst = none)
    (h : ∀ w', w'.rangeAt b 0 cs → w.grownBy w' (some b) → (∀ j, w'.frozen? ⟨b, j, none⟩ = false) → wpList P ops Q rest a w') : wpList P ops Q (op :: rest) a w :=
  wpList_store_eq hgd ty x y ho b 0 cs hx hy (there_of_block hb hs.symm) hi h1 hd (fun w' e => by
    have e' := e.out
    subst e'
    exact h _ (World.rangeAt_setCells_same w b 0 cs (there_of_block hb hs.symm)) (grownBy_setCells b cs 0 w) (fun j => by rw [World.frozen?_setCells]; exact frozen_of_row w b j old t hb))
theorem index_state (st : St) (i : Nat) (hi : i < 8) (w : World) : (Instr.index 44 (.agg (stL st).toArray) (.int .i64 (i : Int))).run Tryd.prog w = .ok (.int .u32 (st.l.getD i 0 : Nat)) w :=
  run_index_arr w 44 42 8 (stL st) i _ Tryd.underlying44 (.int .u32) Tryd.underlying42 rfl size42 hi (celk_getD' .u32 st.l i hi)

set_option maxRecDepth 100000 in
set_option maxHeartbeats 1000000 in
theorem Sum_any (g : Nat) (l : List UInt8) (hl : l.length ≤ 549755813888) (w : World) (hH : Hid (Hash w g l)) (hT : Hid (Tab w)) :
    Calls Tryd.prog 12 #[.pointer (some ⟨g, 0, none⟩)] w fun e w' => e = .returned (.string ⟨(dig l).toArray⟩) ∧ Below w.heap.size w w' := by
  obtain ⟨i0, hi, hz0, hz1, hz2⟩ := info_parts info5
  have hgl := hH.out.lt
  obtain ⟨R, h1, h2⟩ := hH.out
  have cm := h1.made
  obtain ⟨D, hD⟩ : ∃ D, hashL (blks l (l.length / 64)) R l.length = D := ⟨_, rfl⟩
  have hall := h1.all
  have hdl := hashL_len (blks l (l.length / 64)) R l.length h1.len
  have hd1 := hashL_one (blks l (l.length / 64)) R l.length
  rw [hD] at hall hdl hd1
  have HD := Lib.hid hD
  have HA := Lib.hid hall
  have HDL := Lib.hid hdl
  have HD1 := Lib.hid hd1
  have H2 := Lib.hid h2
  have HRL := Lib.hid h1.len
  obtain ⟨Z, hZ⟩ : ∃ Z, zero47 = Z := ⟨_, rfl⟩
  have hz := zero_is
  have hzl := zero47_len
  have hzn := zero47_ne
  rw [hZ] at hzn hzl
  simp only [hZ] at hz
  have HZL := Lib.hid hzl
  clear hD hall hdl hd1 h1 h2 hZ hzl
  go_enter Tryd.func12, Tryd.ntmps12
  go_upto_region 4 with (first
    | (refine wpList_load_mid (by rfl) 47 (.tmp 17) (by rfl) g 0 (by rfl) D _ HA.out Tryd.underlying47 rfl (by rw [HDL.out]; exact size47) ?_)
    | (refine wpList_store_blk' (by rfl) 47 (.tmp 3) (.tmp 18) (by rfl) w.heap.size D (by rfl) (by rfl) _ _ (heap_alloc_new w _) (by rw [HDL.out]; simpa using HZL.out) (by rw [HDL.out]; exact size47) HD1.out (by rfl) ?_; intro w1 hr1 hg1 hf1))
  have hb1 : Below w.heap.size w w1 := ((Below.refl _ w).alloc (Nat.le_refl _) _).grown hg1 (by simp) (fun k hk => by injection hk with hk; omega)
  have HH : Hid (Hash w1 w.heap.size l) := by
    refine ⟨R, HashAt.of_all HRL.out ?_ (fun j _ => hf1 j), H2.out⟩
    rw [HD.out]; exact hr1
  have c73 : w1.cell? ⟨g, 73, none⟩ = some (.int .u64 (l.length : Nat)) := by
    obtain ⟨R', h', _⟩ := hH.out
    exact (hb1.cell (p := ⟨g, 73, none⟩) hgl).trans h'.count
  have HT1 : Hid (Tab w1) := hT.out.below hb1
  have HB1 := Lib.hid hb1
  clear hr1 hg1 hf1 hb1 HD HA HDL HD1 H2 HRL hz hzn HZL cm
  obtain ⟨n, hn⟩ : ∃ n, l.length = n := ⟨_, rfl⟩
  rw [hn] at c73 hl
  have HN := Lib.hid hn
  have HPD : Hid (l ++ padding n = pad l) := by show _ = _; rw [pad, hn]
  clear hn
  go_wp2_with fail
  refine (padding_any n (by omega) _).mono ?_
  rintro e w2 ⟨rfl, hb2⟩
  have HB2 := Lib.hid (HB1.out.trans (hb2.mono HB1.out.size))
  have HH2 : Hid (Hash w2 w.heap.size l) := HH.out.below hb2 HH.out.lt
  have HT2 : Hid (Tab w2) := HT1.out.below hb2
  clear HB1 HH HT1 hb2 c73
  obtain ⟨P, hP⟩ : ∃ P : ByteArray, P = ⟨(padding n).toArray⟩ := ⟨_, rfl⟩
  have hPd : P.data.toList = padding n := by rw [hP]
  have hPs : P.size ≤ 100 := by rw [hP]; show (padding n).toArray.size ≤ 100; rw [List.size_toArray, padding_len, zer]; omega
  rw [← hP]
  have HPd : Hid (l ++ P.data.toList = pad l) := by show _ = _; rw [hPd, HPD.out]
  clear hP hPd
  go_wp2_with fail
  refine (Add_any w.heap.size l P (by rw [HN.out]; omega) _ HH2 HT2).mono ?_
  rintro e w3 ⟨rfl, hh3, hg3⟩
  rw [HPd.out] at hh3
  have hb3 : Below w.heap.size w w3 := HB2.out.grown hg3 (HB2.out.size) (fun k hk => by injection hk with hk; omega)
  obtain ⟨R3, h3, _⟩ := hh3
  obtain ⟨st, hst⟩ : ∃ st, blks (pad l) ((pad l).length / 64) = st := ⟨_, rfl⟩
  have hok : st.ok := hst ▸ blks_ok _ _
  rw [hst] at h3
  have HDG : Hid (dig l = out st) := by show _ = _; rw [dig, hst]
  have HST := Lib.hid h3.range_st
  have HB3 := Lib.hid hb3
  have hs3 := hb3.size
  clear hst h3 hb3 hg3 HB2 HH2 HT2
  go_upto_block 1 with (first
    | (at_make; refine wpList_make_own _ rfl _ _ 35 rfl w.heap.size 5 i0 (.int .u8 0) 1 Tryd.underlying35 hi hz0 hz1 .i64 .i64 _ 32 rfl rfl rfl (by rw [hz2]; omega) (by unfold maxLen; omega) hs3 ?_; intro w4 hown4 hgrow4)
    | (refine wpList_load_mid (by rfl) 44 (.tmp 26) (by rfl) w.heap.size 1 (by rfl) (stL st) _ ?l1 Tryd.underlying44 rfl size44 ?_))
  case l1 =>
    have hlt : w.heap.size < w3.heap.size := World.block_lt_of_cell? w3 _ (HST.out 0 _ rfl)
    exact fun j v hv => (hgrow4.cell_far ⟨w.heap.size, 1 + j, none⟩ hlt (by simp)).trans (HST.out j v hv)
  have hb4 : Below w.heap.size w w4 := HB3.out.grown hgrow4 hs3 (fun k hk => by cases hk)
  clear HST hgrow4 HB3 hs3
  go_loopw [4, 6, 28] (fun v _ iv wr => ∃ (i : Nat), i ≤ 8 ∧ iv = .int .i64 i ∧ wr.ownsRow w.heap.size 5 1 v ((st.l.take i).flatMap (be 4)).length (cel8 ((st.l.take i).flatMap (be 4))) ∧ Below w.heap.size w wr) (fun _ _ iv _ => 8 - (intOf iv).toNat)
  case atStart => exact ⟨0, by decide, rfl, hown4, hb4⟩
  case round =>
    clear hown4 hb4
    obtain ⟨i, hi8, rfl, hown, hbw⟩ := hrel
    have hsz := hbw.size
    by_cases hlt : i < 8
    · have hix := index_state st i hlt
      obtain ⟨x, hx⟩ : ∃ x, st.l.getD i 0 = x := ⟨_, rfl⟩
      have hx32 : x < 4294967296 := by rw [← hx]; exact getD_lt (St.l_lt hok) i
      rw [hx] at hix
      obtain ⟨L, hL⟩ : ∃ L, (st.l.take i).flatMap (be 4) = L := ⟨_, rfl⟩
      have HL : Hid ((st.l.take (i + 1)).flatMap (be 4) = L ++ be 4 x) := by
        show _ = _
        rw [List.take_succ_eq_append_getElem (by exact hlt), List.flatMap_append, hL, ← hx]
        simp [List.getD_eq_getElem?_getD, List.getElem?_eq_getElem (show i < st.l.length from hlt)]
        rfl
      have hLl : L.length ≤ 32 := by
        rw [← hL]
        have : ∀ (M : List Nat), (M.flatMap (be 4)).length = 4 * M.length := by
          intro M
          induction M with
          | nil => rfl
          | cons m M ih => rw [List.flatMap_cons, List.length_append, ih, be_len, List.length_cons]; omega
        rw [this, List.length_take]
        omega
      rw [hL] at hown
      clear hx hL
      go_wp2_with fail
      refine (lay_any 4 x (by decide) _ w.heap.size hsz _ L hown (by omega)).mono ?_
      rintro e w5 ⟨v', rfl, ho5, hb5⟩
      rw [← HL.out] at ho5
      have hb6 := hbw.trans hb5
      clear hown hbw hb5
      go_wp2_with fail
      go_roundw
      case rel => exact ⟨i + 1, by omega, by go_num, ho5, hb6⟩
      case measure => simp [intOf]; omega
    · have e : i = 8 := by omega
      subst e
      have HO : Hid ((st.l.take 8).flatMap (be 4) = dig l) := by show _ = _; rw [HDG.out]; rfl
      rw [HO.out] at hown
      obtain ⟨a', cap, rfl, hcv⟩ := conv_owned hown rfl (by rw [dig_len]; decide)
      clear hown
      go_wp2_with fail
      go_ret
      exact ⟨rfl, hbw⟩
end Go.Proofs.YteajhimmhlccdaaDoor
