/-
  Layer 7: slices.Clone of bytes; Copy.
-/
import Derived.Test.YtaiifelkbajaoaaDCreate
import Derived.Test.YtaiifelkbajaoaaDClone
namespace Go.Proofs.Ytaiifelkbajaoaa
open Go.RowKit Go.Maps Go.Lib Go.ChangeShapes Go.WideShapes

theorem srt_ext {a b : List (ByteArray × Fil)} (ha : Srt a) (hb : Srt b) (h : ∀ n, get a n = get b n) : a = b := by
  have nd : ∀ {l : List (ByteArray × Fil)}, Srt l → l.Nodup := fun hl => hl.imp (fun {p q} hpq e => by subst e; exact bl_irrefl _ hpq)
  refine List.Perm.eq_of_pairwise (le := fun (p q : ByteArray × Fil) => bl p.1 q.1) (by intro p q _ _ h1 h2; exact absurd (bl_trans h1 h2) (bl_irrefl _)) ha hb ((List.perm_ext_iff_of_nodup (nd ha) (nd hb)).2 fun p => ?_)
  constructor
  · intro hp
    have := get_of_mem ha hp
    rw [h] at this
    exact get_mem this
  · intro hp
    have := get_of_mem hb hp
    rw [← h] at this
    exact get_mem this
theorem ownsRow_up {w : World} {B base : Nat} {e : TypeId} {size : Nat} {v : Value} {n : Nat} {xs : List Value} (h : w.ownsRow base e size v n xs) (hB : B ≤ base) : w.ownsRow B e size v n xs := by
  refine ⟨h.1, ?_⟩
  rcases h.2 with h | ⟨g, cap, cur, h1, h2, h3⟩
  · exact Or.inl h
  · exact Or.inr ⟨g, cap, cur, h1, Nat.le_trans hB h2, h3⟩
/-- The map's store, at the end of a round. -/
theorem store_done {w2 wf : World} {b : Nat} {P : ByteArray → Nat} {V : ByteArray → Value} {fs : List (ByteArray × Fil)} {n : ByteArray} {f : Fil} {p : Nat} {v : Value} (hg : get fs n = none) (hl : Lay w2 b P V fs) (hfew : fs.length ≤ 16) (hn : n.size ≤ maxLen)
    (hb : Below w2.heap.size w2 wf) (hp : w2.heap.size ≤ p) (hF : wf.heap[p]? = some (.cells #[v, .int .i64 (f.loose : Nat), .bool f.fresh] 63 (0, 0))) (hrow : wf.ownsRow w2.heap.size 5 1 v f.text.size (strCells f.text)) :
    ∃ w3, (Instr.mapUpdate mpt (.map (some b)) (.string n) (ptr p)).run Try.prog wf = .ok () w3 ∧ Lay w3 b (put1 P n p) (put1 V n v) (ins n f fs) ∧ wf.grownBy w3 (some b) := by
  have hlf := hl.below hb
  have hle : (kvOf P fs).length < maxLen := by rw [len_kvOf]; unfold maxLen; omega
  obtain ⟨w3, hrun, hm, ht⟩ := hlf.map.store Try.underlying9 Try.underlying52 hle n hn (ptr p)
  refine ⟨w3, hrun, ?_, ht.grown⟩
  have hkv : get (kvOf P fs) n = none := by rw [get_kvOf, hg]; rfl
  have hkp : kput (kvOf P fs) n (ptr p) = ins n (ptr p) (kvOf P fs) := by unfold kput; rw [hkv]; rfl
  rw [hkp] at hm
  have hot := Only.grown ht.grown
  have hlb := hl.map.lt
  have hpb : p ≠ b := by omega
  have hvlt : ∀ k, v.ownBlock = some k → w2.heap.size ≤ k := fun k hk => (hrow.lt k hk).1
  have hF3 : File w3 p v f := ⟨(hot.block p (lt_of_heap hF) (fun e => by injection e with e; exact hpb e.symm)).trans hF, row_kept (owns_zero hrow) (fun k hk => hot.block k (hrow.lt k hk).2 (fun e => by injection e with e; have := hvlt k hk; omega))⟩
  exact hl.new (w' := w3) hg hF3 hp hvlt hm (fun k hk hkb => (hot.block k (Nat.lt_of_lt_of_le (hl.lt hk) hb.size) (fun e => by injection e with e; exact hkb e.symm)).trans (hb.block k (hl.lt hk)))

theorem copy_nil (w : World) : Calls Try.prog 24 #[.pointer none] w fun e w' => e = .returned (.pointer none) ∧ w = w' := by
  go_enter Try.func24, Try.ntmps24
  go_wp2_with (go_at_call 25; refine (unmade_nil _).mono ?_; rintro e w' ⟨rfl, rfl⟩)
  go_ret
  exact ⟨rfl, rfl⟩

/-- What the loop knows of the copy. -/
structure Half (w wr : World) (fs : List (ByteArray × Fil)) (rest : List ByteArray) (P : ByteArray → Nat) (V : ByteArray → Value) (ds : List (ByteArray × Fil)) : Prop where
  lay : Lay wr w.heap.size P V ds
  mine : ∀ k, OLay w.heap.size P V ds k → k = w.heap.size ∨ w.heap.size + 2 ≤ k
  part : ∀ n, n ∈ rest → get ds n = none
  other : ∀ n, n ∉ rest → get ds n = get fs n
  len : ds.length + rest.length = fs.length
  below : Below w.heap.size w wr
  big : w.heap.size + 2 ≤ wr.heap.size
theorem Half.step {w w2 w3 wf : World} {fs ds : List (ByteArray × Fil)} {rest : List ByteArray} {P : ByteArray → Nat} {V : ByteArray → Value} {n : ByteArray} {f : Fil} {p : Nat} {v : Value} (h : Half w w2 fs rest P V ds) (hd : rest.Nodup) (hn : n ∈ rest) (hg : get fs n = some f) (hb : Below w2.heap.size w2 wf)
    (hl : Lay w3 w.heap.size (put1 P n p) (put1 V n v) (ins n f ds)) (ht : wf.grownBy w3 (some w.heap.size)) (hp : w2.heap.size ≤ p) (hv : ∀ k, v.ownBlock = some k → w2.heap.size ≤ k) : Half w w3 fs (but rest n) (put1 P n p) (put1 V n v) (ins n f ds) := by
  have hbig := h.big
  refine ⟨hl, fun k hk => ?_, fun m hm => ?_, fun m hm => ?_, ?_, ?_, Nat.le_trans hbig (Nat.le_trans hb.size ht.size)⟩
  · rcases OLay.new (B := w2.heap.size) hp hv hk with h1 | h1
    · exact h.mine k h1
    · exact Or.inr (by omega)
  · rw [get_ins_other (mem_but.1 hm).2]
    exact h.part m (mem_but.1 hm).1
  · by_cases e : m = n
    · subst e
      rw [get_ins_same h.lay.srt (h.part m hn), hg]
    · rw [get_ins_other e]
      exact h.other m (fun h2 => hm (mem_but.2 ⟨h2, e⟩))
  · have := len_but hd hn
    have := h.len
    rw [len_ins]
    omega
  · exact (h.below.trans (hb.mono h.below.size)).grown ht (by have := h.below.size; have := hb.size; omega) (fun k hk => by injection hk with hk; omega)

set_option maxHeartbeats 4000000 in
set_option maxRecDepth 100000 in
theorem copy_any {O : Nat → Prop} {w : World} {g : Nat} {σ : Dsk} (hd : TheDisk O w g σ) : Calls Try.prog 24 #[ptr g] w (Made TheDisk w (fun v => v) ⟨σ.room, none, σ.fs⟩) := by
  obtain ⟨hi, hz, b, P, V, h, hl, hO⟩ := hd
  have c2 := h.c2
  have HI := Lib.hid hi
  have HH := Lib.hid h
  have HL := Lib.hid hl
  have hln := hl.map.size (K := 9) Try.underlying52 3
  rw [len_kvOf] at hln
  have hmk := run_makeMap_hint σ.fs.length w
  have hb0 : Below w.heap.size w (w.alloc (.map #[] 0)) := (Below.refl _ _).alloc (Nat.le_refl _) _
  have HM0 : Hid (SMap Try.prog 9 (w.alloc (.map #[] 0)) b (kvOf P σ.fs)) := hl.map.below hb0
  have c2' : (w.alloc (.map #[] 0)).cell? ⟨g, 2, none⟩ = some (.map (some b)) := (hb0.cell (p := ⟨g, 2, none⟩) h.lt).trans c2
  have hz0 : (w.alloc (.map #[] 0)).heap.size = w.heap.size + 1 := by simp
  have HZ0 := Lib.hid hz0
  have HB0 := Lib.hid hb0
  have HN0 : Hid (SMap Try.prog 9 (w.alloc (.map #[] 0)) w.heap.size []) := SMap.made Try.prog 9 w
  clear hi hz h hl hO hb0 hz0
  obtain ⟨w0, hw0⟩ : ∃ w0, w0 = w.alloc (.map #[] 0) := ⟨_, rfl⟩
  rw [← hw0] at hmk c2' HM0 HZ0 HB0 HN0
  clear hw0
  go_enter Try.func24, Try.ntmps24
  go_wp2_with (first
    | (go_at_call 25; refine (unmade_at HH.out).mono ?_; rintro e w' ⟨rfl, rfl⟩)
    | (at_range; refine wpList_smap_range Try.underlying9 Try.underlying52 rfl _ rfl rfl HM0.out ?_; intro w1 cnt1 hrg1 hg1 hs1; rw [names_kvOf, HZ0.out] at hrg1; rw [HZ0.out]; have HR1 := Lib.hid hrg1; have HG1 := Lib.hid hg1; have HS1 := Lib.hid hs1; clear hrg1 hg1 hs1))
  go_frame
  clear hmk c2' c2 hln
  have HF1 : Hid (Half w w1 σ.fs (names σ.fs) (fun _ => 0) (fun _ => .pointer none) []) := by
    have hz := HZ0.out
    refine ⟨⟨HN0.out.kept (HG1.out.block _ (by omega) (by simp)), (fun n f hf => by cases hf), (fun n hn => by cases hn), (fun n hn => by cases hn)⟩, fun k hk => ?_, fun n hn => rfl, fun n hn => ?_, by simp [names], HB0.out.grown HG1.out (by omega) (fun k hk => by cases hk), by have := HS1.out; omega⟩
    · rcases hk with rfl | ⟨n, hn, _⟩
      · exact Or.inl rfl
      · cases hn
    · rw [get_none.2 hn]; rfl
  clear HN0 HM0 HB0 HZ0 HG1 HS1
  go_loopw [] (fun wr => ∃ (rest : List ByteArray) (cnt : Nat) (P2 : ByteArray → Nat) (V2 : ByteArray → Value) (ds : List (ByteArray × Fil)), Hid (SRng Try.prog 9 wr b (w.heap.size + 1) (kvOf P σ.fs) rest cnt) ∧ Hid (Half w wr σ.fs rest P2 V2 ds)) (fun wr => wr.rangeLeft b (w.heap.size + 1))
  case atStart => exact ⟨names σ.fs, cnt1, _, _, [], HR1, HF1⟩
  case round =>
    clear HF1 HR1
    obtain ⟨rest, cnt, P2, V2, ds, HR, HF⟩ := hrel
    go_wp2_with (at_next; refine wpList_smap_next Try.underlying9 rfl _ rfl rfl HR.out ?_ ?_)
    · intro hnil
      subst hnil
      have c1 : wr.cell? ⟨g, 1, none⟩ = some (.int .i64 (σ.room : Nat)) := (HF.out.below.cell (p := ⟨g, 1, none⟩) HH.out.lt).trans HH.out.c1
      go_wp2_with fail
      go_ret
      have he : ds = σ.fs := srt_ext HF.out.lay.srt HL.out.srt (fun n => HF.out.other n (fun h2 => by cases h2))
      subst he
      have hbel : Below w.heap.size w (wr.alloc (.cells #[.bool true, .int .i64 (σ.room : Nat), .map (some w.heap.size), .bool false, .int .i64 0] 54)) := HF.out.below.alloc HF.out.below.size _
      refine ⟨wr.heap.size, _, rfl, ⟨⟨HI.out.srt, HI.out.few, HI.out.room, HI.out.most, HI.out.loose, HI.out.short⟩, (fun k hk => by cases hk), w.heap.size, P2, V2, heap_alloc_new _ _, HF.out.lay.below ((Below.refl _ _).alloc (Nat.le_refl _) _), fun k => Iff.rfl⟩, ?_, hbel⟩
      rintro k (rfl | hk)
      · exact HF.out.below.size
      · rcases HF.out.mine k hk with h1 | h1 <;> omega
    · intro n v w2 cnt2 hn hgv hrg2 hlt hg2 hs2 hen
      have HB2 : Hid (Below w.heap.size w w2) := HF.out.below.grown hg2 HF.out.below.size (fun k hk => by injection hk with hk; omega)
      rw [get_kvOf] at hgv
      obtain ⟨f, hf⟩ : ∃ f, get σ.fs n = some f := by
        cases hq : get σ.fs n with
        | none => rw [hq] at hgv; cases hgv
        | some f => exact ⟨f, rfl⟩
      obtain rfl : v = ptr (P n) := by rw [hf] at hgv; cases hgv; rfl
      have HF2 : Hid (Half w w2 σ.fs rest P2 V2 ds) := by
        have ho := Only.grown hg2
        have hb := HF.out.big
        refine ⟨HF.out.lay.kept (fun k hk => ho.block k (HF.out.lay.lt hk) (fun e => by injection e with e; rcases HF.out.mine k hk with h1 | h1 <;> omega)), HF.out.mine, HF.out.part, HF.out.other, HF.out.len, HB2.out, by omega⟩
      have hF := (HL.out.below HB2.out).file n f hf
      have HFL := Lib.hid hF
      have hsz : f.text.size ≤ 4194304 := by
        have h1 := mem_used (get_mem hf)
        have h2 := HI.out.room
        have h3 := HI.out.most
        simp only at h1
        omega
      have hnn : n.size ≤ maxLen := by
        have h1 := HI.out.short (n, f) (get_mem hf)
        simp only at h1
        unfold maxLen
        omega
      have HGD : Hid (get ds n = none) := HF2.out.part n hn
      have HDL : Hid (ds.length ≤ 16) := by
        have h1 := HF2.out.len
        have h2 := HI.out.few
        show ds.length ≤ 16
        omega
      have HGF := Lib.hid hf
      have HRN := Lib.hid hn
      have HLT := Lib.hid hlt
      have HR2 := Lib.hid hrg2
      have HND := Lib.hid HR.out.nodup
      have HLE := Lib.hid HR.out.left
      clear hgv hrg2 hlt hg2 hs2 hn hf HF HR hF
      go_wp2_with fail
      clear hen
      refine wp_region_any (by kernel_rfl) ?_
      change wpAny _ _ _ _ _ _ _ (World.drew _)
      have hbd : Below w2.heap.size w2 w2.drew := (Below.refl _ _).drew
      have HF3 : Hid (Half w w2.drew σ.fs rest P2 V2 ds) := ⟨HF2.out.lay.below hbd, HF2.out.mine, HF2.out.part, HF2.out.other, HF2.out.len, HB2.out.trans (hbd.mono HB2.out.size), HF2.out.big⟩
      have HFL3 : Hid (File w2.drew (P n) (V n) f) := HFL.out.kept rfl (fun k hk => rfl)
      have HR3 : Hid (SRng Try.prog 9 w2.drew b (w.heap.size + 1) (kvOf P σ.fs) (but rest n) cnt2) := HR2.out.below hbd
      clear hbd HF2 HFL HR2 HB2
      generalize w2.drew = w3 at *
      clear w2
      refine wpAny_take (i := 0) (v := .map (some w.heap.size)) rfl (by kernel_rfl) (by kernel_rfl) (by kernel_rfl) (fun _ _ _ h => h) (Or.inl ⟨by kernel_rfl, ?_⟩) ?_
      · intro w; go_simp
      refine wpAny_take (i := 1) (v := .string n) rfl (by kernel_rfl) (by kernel_rfl) (by kernel_rfl) (fun _ _ _ h => h) (Or.inl ⟨by kernel_rfl, ?_⟩) ?_
      · intro w; go_simp
      refine wpAny_take (i := 2) (v := ptr (P n)) rfl (by kernel_rfl) (by kernel_rfl) (by kernel_rfl) (fun _ _ _ h => h) (Or.inl ⟨by kernel_rfl, ?_⟩) ?_
      · intro w; go_simp
      refine wpAny_take (i := 3) (v := ptr (P n)) rfl (by kernel_rfl) (by kernel_rfl) (by kernel_rfl) (fun _ _ _ h => h) (Or.inl ⟨by kernel_rfl, ?_⟩) ?_
      · intro w; go_simp
      refine wpAny_take (i := 4) (v := .pointer (some ⟨P n, 0, none⟩)) rfl (by kernel_rfl) (by kernel_rfl) (by kernel_rfl) (fun _ _ _ h => h) (Or.inl ⟨by kernel_rfl, ?_⟩) ?_
      · intro w; go_simp
      refine wpAny_take (i := 7) (v := ptr (P n)) rfl (by kernel_rfl) (by kernel_rfl) (by kernel_rfl) (fun _ _ _ h => h) (Or.inl ⟨by kernel_rfl, ?_⟩) ?_
      · intro w; go_simp
      refine wpAny_take (i := 8) (v := ptr (P n)) rfl (by kernel_rfl) (by kernel_rfl) (by kernel_rfl) (fun _ _ _ h => h) (Or.inl ⟨by kernel_rfl, ?_⟩) ?_
      · intro w; go_simp
      refine wpAny_take (i := 9) (v := .pointer (some ⟨P n, 1, none⟩)) rfl (by kernel_rfl) (by kernel_rfl) (by kernel_rfl) (fun _ _ _ h => h) (Or.inl ⟨by kernel_rfl, ?_⟩) ?_
      · intro w; go_simp
      refine wpAny_take (i := 11) (v := ptr (P n)) rfl (by kernel_rfl) (by kernel_rfl) (by kernel_rfl) (fun _ _ _ h => h) (Or.inl ⟨by kernel_rfl, ?_⟩) ?_
      · intro w; go_simp
      refine wpAny_take (i := 12) (v := ptr (P n)) rfl (by kernel_rfl) (by kernel_rfl) (by kernel_rfl) (fun _ _ _ h => h) (Or.inl ⟨by kernel_rfl, ?_⟩) ?_
      · intro w; go_simp
      refine wpAny_take (i := 13) (v := .pointer (some ⟨P n, 2, none⟩)) rfl (by kernel_rfl) (by kernel_rfl) (by kernel_rfl) (fun _ _ _ h => h) (Or.inl ⟨by kernel_rfl, ?_⟩) ?_
      · intro w; go_simp
      have HB3 := Lib.hid (Below.refl w3.heap.size w3)
      refine wpAny_ready (rs := [5, 10, 14]) (by kernel_rfl) (by simp) ?_
      refine AllReady.cons rfl (fun K hK => ?_) (AllReady.cons rfl (fun K hK => ?_) (AllReady.cons rfl (fun K hK => ?_) AllReady.nil))
      · have cc : w3.cell? ⟨P n, 0, none⟩ = _ := (HB3.out.cell (p := ⟨P n, 0, none⟩) (lt_of_heap HFL3.out.head)).trans HFL3.out.c0
        go_simp
        clear cc
        refine hK _ _ ?_
        clear hK K
        refine wpAny_ready (rs := [6, 10, 14]) (by kernel_rfl) (by simp) ?_
        refine AllReady.cons rfl (fun K hK => ?_) (AllReady.cons rfl (fun K hK => ?_) (AllReady.cons rfl (fun K hK => ?_) AllReady.nil))
        · go_simp
          refine (bclone_any (row_kept HFL3.out.row (fun k hk => HB3.out.block k (lt_of_heap (row_block HFL3.out.row hk).choose_spec))) hsz).mono ?_
          rintro e x2 ⟨v', rfl, hv', hb⟩
          obtain ⟨A', c', rfl⟩ := owns_val hv'
          have HV := Lib.hid (ownsRow_up hv' HB3.out.size)
          have HB2 := Lib.hid (HB3.out.trans (hb.mono HB3.out.size))
          clear hv' hb
          refine hK _ _ ?_
          clear hK K
          refine wpAny_ready (rs := [10, 14]) (by kernel_rfl) (by simp) ?_
          refine AllReady.cons rfl (fun K hK => ?_) (AllReady.cons rfl (fun K hK => ?_) AllReady.nil)
          · have cc : x2.cell? ⟨P n, 1, none⟩ = _ := (HB2.out.cell (p := ⟨P n, 1, none⟩) (lt_of_heap HFL3.out.head)).trans HFL3.out.c1
            go_simp
            clear cc
            refine hK _ _ ?_
            clear hK K
            refine wpAny_ready (rs := [14]) (by kernel_rfl) (by simp) ?_
            refine AllReady.cons rfl (fun K hK => ?_) AllReady.nil
            · have cc : x2.cell? ⟨P n, 2, none⟩ = _ := (HB2.out.cell (p := ⟨P n, 2, none⟩) (lt_of_heap HFL3.out.head)).trans HFL3.out.c2
              go_simp
              clear cc
              refine hK _ _ ?_
              clear hK K
              refine wpAny_take (i := 15) (v := .agg #[.slice A' f.text.size c', .int .i64 (f.loose : Nat), .bool f.fresh]) rfl (by kernel_rfl) (by kernel_rfl) (by kernel_rfl) (fun _ _ _ h => h) (Or.inl ⟨by kernel_rfl, ?_⟩) ?_
              · intro w; go_simp
              refine wpAny_ready (rs := [16]) (by kernel_rfl) (by simp) ?_
              refine AllReady.cons rfl (fun K hK => ?_) AllReady.nil
              go_simp
              refine hK _ _ ?_
              clear hK K
              have HBE := Lib.hid (HB2.out.alloc HB2.out.size (.cells #[.slice A' f.text.size c', .int .i64 (f.loose : Nat), .bool f.fresh] 63))
              obtain ⟨wE, hrun, hlE, hgE⟩ := store_done (p := x2.heap.size) (f := f) HGD.out HF3.out.lay HDL.out hnn HBE.out HB2.out.size (heap_alloc_new x2 (.cells #[.slice A' f.text.size c', .int .i64 (f.loose : Nat), .bool f.fresh] 63)) (HV.out.alloc (.cells #[.slice A' f.text.size c', .int .i64 (f.loose : Nat), .bool f.fresh] 63))
              have HE : Hid (Half w wE σ.fs (but rest n) (put1 P2 n x2.heap.size) (put1 V2 n (.slice A' f.text.size c')) (ins n f ds)) := HF3.out.step HND.out HRN.out HGF.out HBE.out hlE hgE HB2.out.size (fun k hk => (HV.out.lt k hk).1)
              have HRE : Hid (SRng Try.prog 9 wE b (w.heap.size + 1) (kvOf P σ.fs) (but rest n) cnt2) := (HR3.out.below HBE.out).kept hgE (fun e => by injection e with e; have := HL.out.map.lt; omega) (fun e => by injection e with e; omega)
              clear hlE hgE
              refine wpAny_ready (rs := [17]) (by kernel_rfl) (by simp) ?_
              refine AllReady.cons rfl (fun K hK => ?_) AllReady.nil
              go_simp
              refine hK _ _ ?_
              clear hK K hrun
              refine wpAny_done (by kernel_rfl) ?_ _
              go_wp2_with fail
              go_roundw
              case rel => exact ⟨but rest n, cnt2, _, _, _, HRE, HE⟩
              case measure => rw [HRE.out.left, HLE.out]; exact HLT.out
          · have cc : x2.cell? ⟨P n, 2, none⟩ = _ := (HB2.out.cell (p := ⟨P n, 2, none⟩) (lt_of_heap HFL3.out.head)).trans HFL3.out.c2
            go_simp
            clear cc
            refine hK _ _ ?_
            clear hK K
            refine wpAny_ready (rs := [10]) (by kernel_rfl) (by simp) ?_
            refine AllReady.cons rfl (fun K hK => ?_) AllReady.nil
            · have cc : x2.cell? ⟨P n, 1, none⟩ = _ := (HB2.out.cell (p := ⟨P n, 1, none⟩) (lt_of_heap HFL3.out.head)).trans HFL3.out.c1
              go_simp
              clear cc
              refine hK _ _ ?_
              clear hK K
              refine wpAny_take (i := 15) (v := .agg #[.slice A' f.text.size c', .int .i64 (f.loose : Nat), .bool f.fresh]) rfl (by kernel_rfl) (by kernel_rfl) (by kernel_rfl) (fun _ _ _ h => h) (Or.inl ⟨by kernel_rfl, ?_⟩) ?_
              · intro w; go_simp
              refine wpAny_ready (rs := [16]) (by kernel_rfl) (by simp) ?_
              refine AllReady.cons rfl (fun K hK => ?_) AllReady.nil
              go_simp
              refine hK _ _ ?_
              clear hK K
              have HBE := Lib.hid (HB2.out.alloc HB2.out.size (.cells #[.slice A' f.text.size c', .int .i64 (f.loose : Nat), .bool f.fresh] 63))
              obtain ⟨wE, hrun, hlE, hgE⟩ := store_done (p := x2.heap.size) (f := f) HGD.out HF3.out.lay HDL.out hnn HBE.out HB2.out.size (heap_alloc_new x2 (.cells #[.slice A' f.text.size c', .int .i64 (f.loose : Nat), .bool f.fresh] 63)) (HV.out.alloc (.cells #[.slice A' f.text.size c', .int .i64 (f.loose : Nat), .bool f.fresh] 63))
              have HE : Hid (Half w wE σ.fs (but rest n) (put1 P2 n x2.heap.size) (put1 V2 n (.slice A' f.text.size c')) (ins n f ds)) := HF3.out.step HND.out HRN.out HGF.out HBE.out hlE hgE HB2.out.size (fun k hk => (HV.out.lt k hk).1)
              have HRE : Hid (SRng Try.prog 9 wE b (w.heap.size + 1) (kvOf P σ.fs) (but rest n) cnt2) := (HR3.out.below HBE.out).kept hgE (fun e => by injection e with e; have := HL.out.map.lt; omega) (fun e => by injection e with e; omega)
              clear hlE hgE
              refine wpAny_ready (rs := [17]) (by kernel_rfl) (by simp) ?_
              refine AllReady.cons rfl (fun K hK => ?_) AllReady.nil
              go_simp
              refine hK _ _ ?_
              clear hK K hrun
              refine wpAny_done (by kernel_rfl) ?_ _
              go_wp2_with fail
              go_roundw
              case rel => exact ⟨but rest n, cnt2, _, _, _, HRE, HE⟩
              case measure => rw [HRE.out.left, HLE.out]; exact HLT.out
        · have cc : w3.cell? ⟨P n, 1, none⟩ = _ := (HB3.out.cell (p := ⟨P n, 1, none⟩) (lt_of_heap HFL3.out.head)).trans HFL3.out.c1
          go_simp
          clear cc
          refine hK _ _ ?_
          clear hK K
          refine wpAny_ready (rs := [6, 14]) (by kernel_rfl) (by simp) ?_
          refine AllReady.cons rfl (fun K hK => ?_) (AllReady.cons rfl (fun K hK => ?_) AllReady.nil)
          · go_simp
            refine (bclone_any (row_kept HFL3.out.row (fun k hk => HB3.out.block k (lt_of_heap (row_block HFL3.out.row hk).choose_spec))) hsz).mono ?_
            rintro e x8 ⟨v', rfl, hv', hb⟩
            obtain ⟨A', c', rfl⟩ := owns_val hv'
            have HV := Lib.hid (ownsRow_up hv' HB3.out.size)
            have HB8 := Lib.hid (HB3.out.trans (hb.mono HB3.out.size))
            clear hv' hb
            refine hK _ _ ?_
            clear hK K
            refine wpAny_ready (rs := [14]) (by kernel_rfl) (by simp) ?_
            refine AllReady.cons rfl (fun K hK => ?_) AllReady.nil
            · have cc : x8.cell? ⟨P n, 2, none⟩ = _ := (HB8.out.cell (p := ⟨P n, 2, none⟩) (lt_of_heap HFL3.out.head)).trans HFL3.out.c2
              go_simp
              clear cc
              refine hK _ _ ?_
              clear hK K
              refine wpAny_take (i := 15) (v := .agg #[.slice A' f.text.size c', .int .i64 (f.loose : Nat), .bool f.fresh]) rfl (by kernel_rfl) (by kernel_rfl) (by kernel_rfl) (fun _ _ _ h => h) (Or.inl ⟨by kernel_rfl, ?_⟩) ?_
              · intro w; go_simp
              refine wpAny_ready (rs := [16]) (by kernel_rfl) (by simp) ?_
              refine AllReady.cons rfl (fun K hK => ?_) AllReady.nil
              go_simp
              refine hK _ _ ?_
              clear hK K
              have HBE := Lib.hid (HB8.out.alloc HB8.out.size (.cells #[.slice A' f.text.size c', .int .i64 (f.loose : Nat), .bool f.fresh] 63))
              obtain ⟨wE, hrun, hlE, hgE⟩ := store_done (p := x8.heap.size) (f := f) HGD.out HF3.out.lay HDL.out hnn HBE.out HB8.out.size (heap_alloc_new x8 (.cells #[.slice A' f.text.size c', .int .i64 (f.loose : Nat), .bool f.fresh] 63)) (HV.out.alloc (.cells #[.slice A' f.text.size c', .int .i64 (f.loose : Nat), .bool f.fresh] 63))
              have HE : Hid (Half w wE σ.fs (but rest n) (put1 P2 n x8.heap.size) (put1 V2 n (.slice A' f.text.size c')) (ins n f ds)) := HF3.out.step HND.out HRN.out HGF.out HBE.out hlE hgE HB8.out.size (fun k hk => (HV.out.lt k hk).1)
              have HRE : Hid (SRng Try.prog 9 wE b (w.heap.size + 1) (kvOf P σ.fs) (but rest n) cnt2) := (HR3.out.below HBE.out).kept hgE (fun e => by injection e with e; have := HL.out.map.lt; omega) (fun e => by injection e with e; omega)
              clear hlE hgE
              refine wpAny_ready (rs := [17]) (by kernel_rfl) (by simp) ?_
              refine AllReady.cons rfl (fun K hK => ?_) AllReady.nil
              go_simp
              refine hK _ _ ?_
              clear hK K hrun
              refine wpAny_done (by kernel_rfl) ?_ _
              go_wp2_with fail
              go_roundw
              case rel => exact ⟨but rest n, cnt2, _, _, _, HRE, HE⟩
              case measure => rw [HRE.out.left, HLE.out]; exact HLT.out
          · have cc : w3.cell? ⟨P n, 2, none⟩ = _ := (HB3.out.cell (p := ⟨P n, 2, none⟩) (lt_of_heap HFL3.out.head)).trans HFL3.out.c2
            go_simp
            clear cc
            refine hK _ _ ?_
            clear hK K
            refine wpAny_ready (rs := [6]) (by kernel_rfl) (by simp) ?_
            refine AllReady.cons rfl (fun K hK => ?_) AllReady.nil
            · go_simp
              refine (bclone_any (row_kept HFL3.out.row (fun k hk => HB3.out.block k (lt_of_heap (row_block HFL3.out.row hk).choose_spec))) hsz).mono ?_
              rintro e x11 ⟨v', rfl, hv', hb⟩
              obtain ⟨A', c', rfl⟩ := owns_val hv'
              have HV := Lib.hid (ownsRow_up hv' HB3.out.size)
              have HB11 := Lib.hid (HB3.out.trans (hb.mono HB3.out.size))
              clear hv' hb
              refine hK _ _ ?_
              clear hK K
              refine wpAny_take (i := 15) (v := .agg #[.slice A' f.text.size c', .int .i64 (f.loose : Nat), .bool f.fresh]) rfl (by kernel_rfl) (by kernel_rfl) (by kernel_rfl) (fun _ _ _ h => h) (Or.inl ⟨by kernel_rfl, ?_⟩) ?_
              · intro w; go_simp
              refine wpAny_ready (rs := [16]) (by kernel_rfl) (by simp) ?_
              refine AllReady.cons rfl (fun K hK => ?_) AllReady.nil
              go_simp
              refine hK _ _ ?_
              clear hK K
              have HBE := Lib.hid (HB11.out.alloc HB11.out.size (.cells #[.slice A' f.text.size c', .int .i64 (f.loose : Nat), .bool f.fresh] 63))
              obtain ⟨wE, hrun, hlE, hgE⟩ := store_done (p := x11.heap.size) (f := f) HGD.out HF3.out.lay HDL.out hnn HBE.out HB11.out.size (heap_alloc_new x11 (.cells #[.slice A' f.text.size c', .int .i64 (f.loose : Nat), .bool f.fresh] 63)) (HV.out.alloc (.cells #[.slice A' f.text.size c', .int .i64 (f.loose : Nat), .bool f.fresh] 63))
              have HE : Hid (Half w wE σ.fs (but rest n) (put1 P2 n x11.heap.size) (put1 V2 n (.slice A' f.text.size c')) (ins n f ds)) := HF3.out.step HND.out HRN.out HGF.out HBE.out hlE hgE HB11.out.size (fun k hk => (HV.out.lt k hk).1)
              have HRE : Hid (SRng Try.prog 9 wE b (w.heap.size + 1) (kvOf P σ.fs) (but rest n) cnt2) := (HR3.out.below HBE.out).kept hgE (fun e => by injection e with e; have := HL.out.map.lt; omega) (fun e => by injection e with e; omega)
              clear hlE hgE
              refine wpAny_ready (rs := [17]) (by kernel_rfl) (by simp) ?_
              refine AllReady.cons rfl (fun K hK => ?_) AllReady.nil
              go_simp
              refine hK _ _ ?_
              clear hK K hrun
              refine wpAny_done (by kernel_rfl) ?_ _
              go_wp2_with fail
              go_roundw
              case rel => exact ⟨but rest n, cnt2, _, _, _, HRE, HE⟩
              case measure => rw [HRE.out.left, HLE.out]; exact HLT.out
        · have cc : w3.cell? ⟨P n, 2, none⟩ = _ := (HB3.out.cell (p := ⟨P n, 2, none⟩) (lt_of_heap HFL3.out.head)).trans HFL3.out.c2
          go_simp
          clear cc
          refine hK _ _ ?_
          clear hK K
          refine wpAny_ready (rs := [6, 10]) (by kernel_rfl) (by simp) ?_
          refine AllReady.cons rfl (fun K hK => ?_) (AllReady.cons rfl (fun K hK => ?_) AllReady.nil)
          · go_simp
            refine (bclone_any (row_kept HFL3.out.row (fun k hk => HB3.out.block k (lt_of_heap (row_block HFL3.out.row hk).choose_spec))) hsz).mono ?_
            rintro e x13 ⟨v', rfl, hv', hb⟩
            obtain ⟨A', c', rfl⟩ := owns_val hv'
            have HV := Lib.hid (ownsRow_up hv' HB3.out.size)
            have HB13 := Lib.hid (HB3.out.trans (hb.mono HB3.out.size))
            clear hv' hb
            refine hK _ _ ?_
            clear hK K
            refine wpAny_ready (rs := [10]) (by kernel_rfl) (by simp) ?_
            refine AllReady.cons rfl (fun K hK => ?_) AllReady.nil
            · have cc : x13.cell? ⟨P n, 1, none⟩ = _ := (HB13.out.cell (p := ⟨P n, 1, none⟩) (lt_of_heap HFL3.out.head)).trans HFL3.out.c1
              go_simp
              clear cc
              refine hK _ _ ?_
              clear hK K
              refine wpAny_take (i := 15) (v := .agg #[.slice A' f.text.size c', .int .i64 (f.loose : Nat), .bool f.fresh]) rfl (by kernel_rfl) (by kernel_rfl) (by kernel_rfl) (fun _ _ _ h => h) (Or.inl ⟨by kernel_rfl, ?_⟩) ?_
              · intro w; go_simp
              refine wpAny_ready (rs := [16]) (by kernel_rfl) (by simp) ?_
              refine AllReady.cons rfl (fun K hK => ?_) AllReady.nil
              go_simp
              refine hK _ _ ?_
              clear hK K
              have HBE := Lib.hid (HB13.out.alloc HB13.out.size (.cells #[.slice A' f.text.size c', .int .i64 (f.loose : Nat), .bool f.fresh] 63))
              obtain ⟨wE, hrun, hlE, hgE⟩ := store_done (p := x13.heap.size) (f := f) HGD.out HF3.out.lay HDL.out hnn HBE.out HB13.out.size (heap_alloc_new x13 (.cells #[.slice A' f.text.size c', .int .i64 (f.loose : Nat), .bool f.fresh] 63)) (HV.out.alloc (.cells #[.slice A' f.text.size c', .int .i64 (f.loose : Nat), .bool f.fresh] 63))
              have HE : Hid (Half w wE σ.fs (but rest n) (put1 P2 n x13.heap.size) (put1 V2 n (.slice A' f.text.size c')) (ins n f ds)) := HF3.out.step HND.out HRN.out HGF.out HBE.out hlE hgE HB13.out.size (fun k hk => (HV.out.lt k hk).1)
              have HRE : Hid (SRng Try.prog 9 wE b (w.heap.size + 1) (kvOf P σ.fs) (but rest n) cnt2) := (HR3.out.below HBE.out).kept hgE (fun e => by injection e with e; have := HL.out.map.lt; omega) (fun e => by injection e with e; omega)
              clear hlE hgE
              refine wpAny_ready (rs := [17]) (by kernel_rfl) (by simp) ?_
              refine AllReady.cons rfl (fun K hK => ?_) AllReady.nil
              go_simp
              refine hK _ _ ?_
              clear hK K hrun
              refine wpAny_done (by kernel_rfl) ?_ _
              go_wp2_with fail
              go_roundw
              case rel => exact ⟨but rest n, cnt2, _, _, _, HRE, HE⟩
              case measure => rw [HRE.out.left, HLE.out]; exact HLT.out
          · have cc : w3.cell? ⟨P n, 1, none⟩ = _ := (HB3.out.cell (p := ⟨P n, 1, none⟩) (lt_of_heap HFL3.out.head)).trans HFL3.out.c1
            go_simp
            clear cc
            refine hK _ _ ?_
            clear hK K
            refine wpAny_ready (rs := [6]) (by kernel_rfl) (by simp) ?_
            refine AllReady.cons rfl (fun K hK => ?_) AllReady.nil
            · go_simp
              refine (bclone_any (row_kept HFL3.out.row (fun k hk => HB3.out.block k (lt_of_heap (row_block HFL3.out.row hk).choose_spec))) hsz).mono ?_
              rintro e x16 ⟨v', rfl, hv', hb⟩
              obtain ⟨A', c', rfl⟩ := owns_val hv'
              have HV := Lib.hid (ownsRow_up hv' HB3.out.size)
              have HB16 := Lib.hid (HB3.out.trans (hb.mono HB3.out.size))
              clear hv' hb
              refine hK _ _ ?_
              clear hK K
              refine wpAny_take (i := 15) (v := .agg #[.slice A' f.text.size c', .int .i64 (f.loose : Nat), .bool f.fresh]) rfl (by kernel_rfl) (by kernel_rfl) (by kernel_rfl) (fun _ _ _ h => h) (Or.inl ⟨by kernel_rfl, ?_⟩) ?_
              · intro w; go_simp
              refine wpAny_ready (rs := [16]) (by kernel_rfl) (by simp) ?_
              refine AllReady.cons rfl (fun K hK => ?_) AllReady.nil
              go_simp
              refine hK _ _ ?_
              clear hK K
              have HBE := Lib.hid (HB16.out.alloc HB16.out.size (.cells #[.slice A' f.text.size c', .int .i64 (f.loose : Nat), .bool f.fresh] 63))
              obtain ⟨wE, hrun, hlE, hgE⟩ := store_done (p := x16.heap.size) (f := f) HGD.out HF3.out.lay HDL.out hnn HBE.out HB16.out.size (heap_alloc_new x16 (.cells #[.slice A' f.text.size c', .int .i64 (f.loose : Nat), .bool f.fresh] 63)) (HV.out.alloc (.cells #[.slice A' f.text.size c', .int .i64 (f.loose : Nat), .bool f.fresh] 63))
              have HE : Hid (Half w wE σ.fs (but rest n) (put1 P2 n x16.heap.size) (put1 V2 n (.slice A' f.text.size c')) (ins n f ds)) := HF3.out.step HND.out HRN.out HGF.out HBE.out hlE hgE HB16.out.size (fun k hk => (HV.out.lt k hk).1)
              have HRE : Hid (SRng Try.prog 9 wE b (w.heap.size + 1) (kvOf P σ.fs) (but rest n) cnt2) := (HR3.out.below HBE.out).kept hgE (fun e => by injection e with e; have := HL.out.map.lt; omega) (fun e => by injection e with e; omega)
              clear hlE hgE
              refine wpAny_ready (rs := [17]) (by kernel_rfl) (by simp) ?_
              refine AllReady.cons rfl (fun K hK => ?_) AllReady.nil
              go_simp
              refine hK _ _ ?_
              clear hK K hrun
              refine wpAny_done (by kernel_rfl) ?_ _
              go_wp2_with fail
              go_roundw
              case rel => exact ⟨but rest n, cnt2, _, _, _, HRE, HE⟩
              case measure => rw [HRE.out.left, HLE.out]; exact HLT.out
      · have cc : w3.cell? ⟨P n, 1, none⟩ = _ := (HB3.out.cell (p := ⟨P n, 1, none⟩) (lt_of_heap HFL3.out.head)).trans HFL3.out.c1
        go_simp
        clear cc
        refine hK _ _ ?_
        clear hK K
        refine wpAny_ready (rs := [5, 14]) (by kernel_rfl) (by simp) ?_
        refine AllReady.cons rfl (fun K hK => ?_) (AllReady.cons rfl (fun K hK => ?_) AllReady.nil)
        · have cc : w3.cell? ⟨P n, 0, none⟩ = _ := (HB3.out.cell (p := ⟨P n, 0, none⟩) (lt_of_heap HFL3.out.head)).trans HFL3.out.c0
          go_simp
          clear cc
          refine hK _ _ ?_
          clear hK K
          refine wpAny_ready (rs := [6, 14]) (by kernel_rfl) (by simp) ?_
          refine AllReady.cons rfl (fun K hK => ?_) (AllReady.cons rfl (fun K hK => ?_) AllReady.nil)
          · go_simp
            refine (bclone_any (row_kept HFL3.out.row (fun k hk => HB3.out.block k (lt_of_heap (row_block HFL3.out.row hk).choose_spec))) hsz).mono ?_
            rintro e x19 ⟨v', rfl, hv', hb⟩
            obtain ⟨A', c', rfl⟩ := owns_val hv'
            have HV := Lib.hid (ownsRow_up hv' HB3.out.size)
            have HB19 := Lib.hid (HB3.out.trans (hb.mono HB3.out.size))
            clear hv' hb
            refine hK _ _ ?_
            clear hK K
            refine wpAny_ready (rs := [14]) (by kernel_rfl) (by simp) ?_
            refine AllReady.cons rfl (fun K hK => ?_) AllReady.nil
            · have cc : x19.cell? ⟨P n, 2, none⟩ = _ := (HB19.out.cell (p := ⟨P n, 2, none⟩) (lt_of_heap HFL3.out.head)).trans HFL3.out.c2
              go_simp
              clear cc
              refine hK _ _ ?_
              clear hK K
              refine wpAny_take (i := 15) (v := .agg #[.slice A' f.text.size c', .int .i64 (f.loose : Nat), .bool f.fresh]) rfl (by kernel_rfl) (by kernel_rfl) (by kernel_rfl) (fun _ _ _ h => h) (Or.inl ⟨by kernel_rfl, ?_⟩) ?_
              · intro w; go_simp
              refine wpAny_ready (rs := [16]) (by kernel_rfl) (by simp) ?_
              refine AllReady.cons rfl (fun K hK => ?_) AllReady.nil
              go_simp
              refine hK _ _ ?_
              clear hK K
              have HBE := Lib.hid (HB19.out.alloc HB19.out.size (.cells #[.slice A' f.text.size c', .int .i64 (f.loose : Nat), .bool f.fresh] 63))
              obtain ⟨wE, hrun, hlE, hgE⟩ := store_done (p := x19.heap.size) (f := f) HGD.out HF3.out.lay HDL.out hnn HBE.out HB19.out.size (heap_alloc_new x19 (.cells #[.slice A' f.text.size c', .int .i64 (f.loose : Nat), .bool f.fresh] 63)) (HV.out.alloc (.cells #[.slice A' f.text.size c', .int .i64 (f.loose : Nat), .bool f.fresh] 63))
              have HE : Hid (Half w wE σ.fs (but rest n) (put1 P2 n x19.heap.size) (put1 V2 n (.slice A' f.text.size c')) (ins n f ds)) := HF3.out.step HND.out HRN.out HGF.out HBE.out hlE hgE HB19.out.size (fun k hk => (HV.out.lt k hk).1)
              have HRE : Hid (SRng Try.prog 9 wE b (w.heap.size + 1) (kvOf P σ.fs) (but rest n) cnt2) := (HR3.out.below HBE.out).kept hgE (fun e => by injection e with e; have := HL.out.map.lt; omega) (fun e => by injection e with e; omega)
              clear hlE hgE
              refine wpAny_ready (rs := [17]) (by kernel_rfl) (by simp) ?_
              refine AllReady.cons rfl (fun K hK => ?_) AllReady.nil
              go_simp
              refine hK _ _ ?_
              clear hK K hrun
              refine wpAny_done (by kernel_rfl) ?_ _
              go_wp2_with fail
              go_roundw
              case rel => exact ⟨but rest n, cnt2, _, _, _, HRE, HE⟩
              case measure => rw [HRE.out.left, HLE.out]; exact HLT.out
          · have cc : w3.cell? ⟨P n, 2, none⟩ = _ := (HB3.out.cell (p := ⟨P n, 2, none⟩) (lt_of_heap HFL3.out.head)).trans HFL3.out.c2
            go_simp
            clear cc
            refine hK _ _ ?_
            clear hK K
            refine wpAny_ready (rs := [6]) (by kernel_rfl) (by simp) ?_
            refine AllReady.cons rfl (fun K hK => ?_) AllReady.nil
            · go_simp
              refine (bclone_any (row_kept HFL3.out.row (fun k hk => HB3.out.block k (lt_of_heap (row_block HFL3.out.row hk).choose_spec))) hsz).mono ?_
              rintro e x22 ⟨v', rfl, hv', hb⟩
              obtain ⟨A', c', rfl⟩ := owns_val hv'
              have HV := Lib.hid (ownsRow_up hv' HB3.out.size)
              have HB22 := Lib.hid (HB3.out.trans (hb.mono HB3.out.size))
              clear hv' hb
              refine hK _ _ ?_
              clear hK K
              refine wpAny_take (i := 15) (v := .agg #[.slice A' f.text.size c', .int .i64 (f.loose : Nat), .bool f.fresh]) rfl (by kernel_rfl) (by kernel_rfl) (by kernel_rfl) (fun _ _ _ h => h) (Or.inl ⟨by kernel_rfl, ?_⟩) ?_
              · intro w; go_simp
              refine wpAny_ready (rs := [16]) (by kernel_rfl) (by simp) ?_
              refine AllReady.cons rfl (fun K hK => ?_) AllReady.nil
              go_simp
              refine hK _ _ ?_
              clear hK K
              have HBE := Lib.hid (HB22.out.alloc HB22.out.size (.cells #[.slice A' f.text.size c', .int .i64 (f.loose : Nat), .bool f.fresh] 63))
              obtain ⟨wE, hrun, hlE, hgE⟩ := store_done (p := x22.heap.size) (f := f) HGD.out HF3.out.lay HDL.out hnn HBE.out HB22.out.size (heap_alloc_new x22 (.cells #[.slice A' f.text.size c', .int .i64 (f.loose : Nat), .bool f.fresh] 63)) (HV.out.alloc (.cells #[.slice A' f.text.size c', .int .i64 (f.loose : Nat), .bool f.fresh] 63))
              have HE : Hid (Half w wE σ.fs (but rest n) (put1 P2 n x22.heap.size) (put1 V2 n (.slice A' f.text.size c')) (ins n f ds)) := HF3.out.step HND.out HRN.out HGF.out HBE.out hlE hgE HB22.out.size (fun k hk => (HV.out.lt k hk).1)
              have HRE : Hid (SRng Try.prog 9 wE b (w.heap.size + 1) (kvOf P σ.fs) (but rest n) cnt2) := (HR3.out.below HBE.out).kept hgE (fun e => by injection e with e; have := HL.out.map.lt; omega) (fun e => by injection e with e; omega)
              clear hlE hgE
              refine wpAny_ready (rs := [17]) (by kernel_rfl) (by simp) ?_
              refine AllReady.cons rfl (fun K hK => ?_) AllReady.nil
              go_simp
              refine hK _ _ ?_
              clear hK K hrun
              refine wpAny_done (by kernel_rfl) ?_ _
              go_wp2_with fail
              go_roundw
              case rel => exact ⟨but rest n, cnt2, _, _, _, HRE, HE⟩
              case measure => rw [HRE.out.left, HLE.out]; exact HLT.out
        · have cc : w3.cell? ⟨P n, 2, none⟩ = _ := (HB3.out.cell (p := ⟨P n, 2, none⟩) (lt_of_heap HFL3.out.head)).trans HFL3.out.c2
          go_simp
          clear cc
          refine hK _ _ ?_
          clear hK K
          refine wpAny_ready (rs := [5]) (by kernel_rfl) (by simp) ?_
          refine AllReady.cons rfl (fun K hK => ?_) AllReady.nil
          · have cc : w3.cell? ⟨P n, 0, none⟩ = _ := (HB3.out.cell (p := ⟨P n, 0, none⟩) (lt_of_heap HFL3.out.head)).trans HFL3.out.c0
            go_simp
            clear cc
            refine hK _ _ ?_
            clear hK K
            refine wpAny_ready (rs := [6]) (by kernel_rfl) (by simp) ?_
            refine AllReady.cons rfl (fun K hK => ?_) AllReady.nil
            · go_simp
              refine (bclone_any (row_kept HFL3.out.row (fun k hk => HB3.out.block k (lt_of_heap (row_block HFL3.out.row hk).choose_spec))) hsz).mono ?_
              rintro e x25 ⟨v', rfl, hv', hb⟩
              obtain ⟨A', c', rfl⟩ := owns_val hv'
              have HV := Lib.hid (ownsRow_up hv' HB3.out.size)
              have HB25 := Lib.hid (HB3.out.trans (hb.mono HB3.out.size))
              clear hv' hb
              refine hK _ _ ?_
              clear hK K
              refine wpAny_take (i := 15) (v := .agg #[.slice A' f.text.size c', .int .i64 (f.loose : Nat), .bool f.fresh]) rfl (by kernel_rfl) (by kernel_rfl) (by kernel_rfl) (fun _ _ _ h => h) (Or.inl ⟨by kernel_rfl, ?_⟩) ?_
              · intro w; go_simp
              refine wpAny_ready (rs := [16]) (by kernel_rfl) (by simp) ?_
              refine AllReady.cons rfl (fun K hK => ?_) AllReady.nil
              go_simp
              refine hK _ _ ?_
              clear hK K
              have HBE := Lib.hid (HB25.out.alloc HB25.out.size (.cells #[.slice A' f.text.size c', .int .i64 (f.loose : Nat), .bool f.fresh] 63))
              obtain ⟨wE, hrun, hlE, hgE⟩ := store_done (p := x25.heap.size) (f := f) HGD.out HF3.out.lay HDL.out hnn HBE.out HB25.out.size (heap_alloc_new x25 (.cells #[.slice A' f.text.size c', .int .i64 (f.loose : Nat), .bool f.fresh] 63)) (HV.out.alloc (.cells #[.slice A' f.text.size c', .int .i64 (f.loose : Nat), .bool f.fresh] 63))
              have HE : Hid (Half w wE σ.fs (but rest n) (put1 P2 n x25.heap.size) (put1 V2 n (.slice A' f.text.size c')) (ins n f ds)) := HF3.out.step HND.out HRN.out HGF.out HBE.out hlE hgE HB25.out.size (fun k hk => (HV.out.lt k hk).1)
              have HRE : Hid (SRng Try.prog 9 wE b (w.heap.size + 1) (kvOf P σ.fs) (but rest n) cnt2) := (HR3.out.below HBE.out).kept hgE (fun e => by injection e with e; have := HL.out.map.lt; omega) (fun e => by injection e with e; omega)
              clear hlE hgE
              refine wpAny_ready (rs := [17]) (by kernel_rfl) (by simp) ?_
              refine AllReady.cons rfl (fun K hK => ?_) AllReady.nil
              go_simp
              refine hK _ _ ?_
              clear hK K hrun
              refine wpAny_done (by kernel_rfl) ?_ _
              go_wp2_with fail
              go_roundw
              case rel => exact ⟨but rest n, cnt2, _, _, _, HRE, HE⟩
              case measure => rw [HRE.out.left, HLE.out]; exact HLT.out
      · have cc : w3.cell? ⟨P n, 2, none⟩ = _ := (HB3.out.cell (p := ⟨P n, 2, none⟩) (lt_of_heap HFL3.out.head)).trans HFL3.out.c2
        go_simp
        clear cc
        refine hK _ _ ?_
        clear hK K
        refine wpAny_ready (rs := [5, 10]) (by kernel_rfl) (by simp) ?_
        refine AllReady.cons rfl (fun K hK => ?_) (AllReady.cons rfl (fun K hK => ?_) AllReady.nil)
        · have cc : w3.cell? ⟨P n, 0, none⟩ = _ := (HB3.out.cell (p := ⟨P n, 0, none⟩) (lt_of_heap HFL3.out.head)).trans HFL3.out.c0
          go_simp
          clear cc
          refine hK _ _ ?_
          clear hK K
          refine wpAny_ready (rs := [6, 10]) (by kernel_rfl) (by simp) ?_
          refine AllReady.cons rfl (fun K hK => ?_) (AllReady.cons rfl (fun K hK => ?_) AllReady.nil)
          · go_simp
            refine (bclone_any (row_kept HFL3.out.row (fun k hk => HB3.out.block k (lt_of_heap (row_block HFL3.out.row hk).choose_spec))) hsz).mono ?_
            rintro e x28 ⟨v', rfl, hv', hb⟩
            obtain ⟨A', c', rfl⟩ := owns_val hv'
            have HV := Lib.hid (ownsRow_up hv' HB3.out.size)
            have HB28 := Lib.hid (HB3.out.trans (hb.mono HB3.out.size))
            clear hv' hb
            refine hK _ _ ?_
            clear hK K
            refine wpAny_ready (rs := [10]) (by kernel_rfl) (by simp) ?_
            refine AllReady.cons rfl (fun K hK => ?_) AllReady.nil
            · have cc : x28.cell? ⟨P n, 1, none⟩ = _ := (HB28.out.cell (p := ⟨P n, 1, none⟩) (lt_of_heap HFL3.out.head)).trans HFL3.out.c1
              go_simp
              clear cc
              refine hK _ _ ?_
              clear hK K
              refine wpAny_take (i := 15) (v := .agg #[.slice A' f.text.size c', .int .i64 (f.loose : Nat), .bool f.fresh]) rfl (by kernel_rfl) (by kernel_rfl) (by kernel_rfl) (fun _ _ _ h => h) (Or.inl ⟨by kernel_rfl, ?_⟩) ?_
              · intro w; go_simp
              refine wpAny_ready (rs := [16]) (by kernel_rfl) (by simp) ?_
              refine AllReady.cons rfl (fun K hK => ?_) AllReady.nil
              go_simp
              refine hK _ _ ?_
              clear hK K
              have HBE := Lib.hid (HB28.out.alloc HB28.out.size (.cells #[.slice A' f.text.size c', .int .i64 (f.loose : Nat), .bool f.fresh] 63))
              obtain ⟨wE, hrun, hlE, hgE⟩ := store_done (p := x28.heap.size) (f := f) HGD.out HF3.out.lay HDL.out hnn HBE.out HB28.out.size (heap_alloc_new x28 (.cells #[.slice A' f.text.size c', .int .i64 (f.loose : Nat), .bool f.fresh] 63)) (HV.out.alloc (.cells #[.slice A' f.text.size c', .int .i64 (f.loose : Nat), .bool f.fresh] 63))
              have HE : Hid (Half w wE σ.fs (but rest n) (put1 P2 n x28.heap.size) (put1 V2 n (.slice A' f.text.size c')) (ins n f ds)) := HF3.out.step HND.out HRN.out HGF.out HBE.out hlE hgE HB28.out.size (fun k hk => (HV.out.lt k hk).1)
              have HRE : Hid (SRng Try.prog 9 wE b (w.heap.size + 1) (kvOf P σ.fs) (but rest n) cnt2) := (HR3.out.below HBE.out).kept hgE (fun e => by injection e with e; have := HL.out.map.lt; omega) (fun e => by injection e with e; omega)
              clear hlE hgE
              refine wpAny_ready (rs := [17]) (by kernel_rfl) (by simp) ?_
              refine AllReady.cons rfl (fun K hK => ?_) AllReady.nil
              go_simp
              refine hK _ _ ?_
              clear hK K hrun
              refine wpAny_done (by kernel_rfl) ?_ _
              go_wp2_with fail
              go_roundw
              case rel => exact ⟨but rest n, cnt2, _, _, _, HRE, HE⟩
              case measure => rw [HRE.out.left, HLE.out]; exact HLT.out
          · have cc : w3.cell? ⟨P n, 1, none⟩ = _ := (HB3.out.cell (p := ⟨P n, 1, none⟩) (lt_of_heap HFL3.out.head)).trans HFL3.out.c1
            go_simp
            clear cc
            refine hK _ _ ?_
            clear hK K
            refine wpAny_ready (rs := [6]) (by kernel_rfl) (by simp) ?_
            refine AllReady.cons rfl (fun K hK => ?_) AllReady.nil
            · go_simp
              refine (bclone_any (row_kept HFL3.out.row (fun k hk => HB3.out.block k (lt_of_heap (row_block HFL3.out.row hk).choose_spec))) hsz).mono ?_
              rintro e x31 ⟨v', rfl, hv', hb⟩
              obtain ⟨A', c', rfl⟩ := owns_val hv'
              have HV := Lib.hid (ownsRow_up hv' HB3.out.size)
              have HB31 := Lib.hid (HB3.out.trans (hb.mono HB3.out.size))
              clear hv' hb
              refine hK _ _ ?_
              clear hK K
              refine wpAny_take (i := 15) (v := .agg #[.slice A' f.text.size c', .int .i64 (f.loose : Nat), .bool f.fresh]) rfl (by kernel_rfl) (by kernel_rfl) (by kernel_rfl) (fun _ _ _ h => h) (Or.inl ⟨by kernel_rfl, ?_⟩) ?_
              · intro w; go_simp
              refine wpAny_ready (rs := [16]) (by kernel_rfl) (by simp) ?_
              refine AllReady.cons rfl (fun K hK => ?_) AllReady.nil
              go_simp
              refine hK _ _ ?_
              clear hK K
              have HBE := Lib.hid (HB31.out.alloc HB31.out.size (.cells #[.slice A' f.text.size c', .int .i64 (f.loose : Nat), .bool f.fresh] 63))
              obtain ⟨wE, hrun, hlE, hgE⟩ := store_done (p := x31.heap.size) (f := f) HGD.out HF3.out.lay HDL.out hnn HBE.out HB31.out.size (heap_alloc_new x31 (.cells #[.slice A' f.text.size c', .int .i64 (f.loose : Nat), .bool f.fresh] 63)) (HV.out.alloc (.cells #[.slice A' f.text.size c', .int .i64 (f.loose : Nat), .bool f.fresh] 63))
              have HE : Hid (Half w wE σ.fs (but rest n) (put1 P2 n x31.heap.size) (put1 V2 n (.slice A' f.text.size c')) (ins n f ds)) := HF3.out.step HND.out HRN.out HGF.out HBE.out hlE hgE HB31.out.size (fun k hk => (HV.out.lt k hk).1)
              have HRE : Hid (SRng Try.prog 9 wE b (w.heap.size + 1) (kvOf P σ.fs) (but rest n) cnt2) := (HR3.out.below HBE.out).kept hgE (fun e => by injection e with e; have := HL.out.map.lt; omega) (fun e => by injection e with e; omega)
              clear hlE hgE
              refine wpAny_ready (rs := [17]) (by kernel_rfl) (by simp) ?_
              refine AllReady.cons rfl (fun K hK => ?_) AllReady.nil
              go_simp
              refine hK _ _ ?_
              clear hK K hrun
              refine wpAny_done (by kernel_rfl) ?_ _
              go_wp2_with fail
              go_roundw
              case rel => exact ⟨but rest n, cnt2, _, _, _, HRE, HE⟩
              case measure => rw [HRE.out.left, HLE.out]; exact HLT.out
        · have cc : w3.cell? ⟨P n, 1, none⟩ = _ := (HB3.out.cell (p := ⟨P n, 1, none⟩) (lt_of_heap HFL3.out.head)).trans HFL3.out.c1
          go_simp
          clear cc
          refine hK _ _ ?_
          clear hK K
          refine wpAny_ready (rs := [5]) (by kernel_rfl) (by simp) ?_
          refine AllReady.cons rfl (fun K hK => ?_) AllReady.nil
          · have cc : w3.cell? ⟨P n, 0, none⟩ = _ := (HB3.out.cell (p := ⟨P n, 0, none⟩) (lt_of_heap HFL3.out.head)).trans HFL3.out.c0
            go_simp
            clear cc
            refine hK _ _ ?_
            clear hK K
            refine wpAny_ready (rs := [6]) (by kernel_rfl) (by simp) ?_
            refine AllReady.cons rfl (fun K hK => ?_) AllReady.nil
            · go_simp
              refine (bclone_any (row_kept HFL3.out.row (fun k hk => HB3.out.block k (lt_of_heap (row_block HFL3.out.row hk).choose_spec))) hsz).mono ?_
              rintro e x34 ⟨v', rfl, hv', hb⟩
              obtain ⟨A', c', rfl⟩ := owns_val hv'
              have HV := Lib.hid (ownsRow_up hv' HB3.out.size)
              have HB34 := Lib.hid (HB3.out.trans (hb.mono HB3.out.size))
              clear hv' hb
              refine hK _ _ ?_
              clear hK K
              refine wpAny_take (i := 15) (v := .agg #[.slice A' f.text.size c', .int .i64 (f.loose : Nat), .bool f.fresh]) rfl (by kernel_rfl) (by kernel_rfl) (by kernel_rfl) (fun _ _ _ h => h) (Or.inl ⟨by kernel_rfl, ?_⟩) ?_
              · intro w; go_simp
              refine wpAny_ready (rs := [16]) (by kernel_rfl) (by simp) ?_
              refine AllReady.cons rfl (fun K hK => ?_) AllReady.nil
              go_simp
              refine hK _ _ ?_
              clear hK K
              have HBE := Lib.hid (HB34.out.alloc HB34.out.size (.cells #[.slice A' f.text.size c', .int .i64 (f.loose : Nat), .bool f.fresh] 63))
              obtain ⟨wE, hrun, hlE, hgE⟩ := store_done (p := x34.heap.size) (f := f) HGD.out HF3.out.lay HDL.out hnn HBE.out HB34.out.size (heap_alloc_new x34 (.cells #[.slice A' f.text.size c', .int .i64 (f.loose : Nat), .bool f.fresh] 63)) (HV.out.alloc (.cells #[.slice A' f.text.size c', .int .i64 (f.loose : Nat), .bool f.fresh] 63))
              have HE : Hid (Half w wE σ.fs (but rest n) (put1 P2 n x34.heap.size) (put1 V2 n (.slice A' f.text.size c')) (ins n f ds)) := HF3.out.step HND.out HRN.out HGF.out HBE.out hlE hgE HB34.out.size (fun k hk => (HV.out.lt k hk).1)
              have HRE : Hid (SRng Try.prog 9 wE b (w.heap.size + 1) (kvOf P σ.fs) (but rest n) cnt2) := (HR3.out.below HBE.out).kept hgE (fun e => by injection e with e; have := HL.out.map.lt; omega) (fun e => by injection e with e; omega)
              clear hlE hgE
              refine wpAny_ready (rs := [17]) (by kernel_rfl) (by simp) ?_
              refine AllReady.cons rfl (fun K hK => ?_) AllReady.nil
              go_simp
              refine hK _ _ ?_
              clear hK K hrun
              refine wpAny_done (by kernel_rfl) ?_ _
              go_wp2_with fail
              go_roundw
              case rel => exact ⟨but rest n, cnt2, _, _, _, HRE, HE⟩
              case measure => rw [HRE.out.left, HLE.out]; exact HLT.out

end Go.Proofs.Ytaiifelkbajaoaa
