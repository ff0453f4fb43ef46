/-
  Layer 8: Append and Sync: what both want.
  Layer 8: Sync, over any disk.
-/
import Derived.Test.YtikbokbmaihdbaaGreatDoorLOpen
import Derived.Test.YtikbokbmaihdbaaGreatDoorBuild
import Derived.Test.YtikbokbmaihdbaaGreatDoorSQTail
import Derived.Shelf.Strings.BuilderF
import Derived.Deep.RegionWith
import Derived.BigQuiet
namespace Go.Proofs.YtikbokbmaihdbaaGreatDoor
open Go.RowKit Go.ChangeShapes Go.WideShapes

theorem builder_kept {T e : TypeId} {B b : Nat} {bs : List Value} {w w' : World} (h : Lib.IsBuilderF T e B b bs w) (hk : ∀ k, B ≤ k → k < w.heap.size → w'.heap[k]? = w.heap[k]?) : Lib.IsBuilderF T e B b bs w' := by
  have go : ∀ p, Lib.BuilderAtF T e B b p bs w → Lib.BuilderAtF T e B b p bs w' := by
    rintro p ⟨hB, v, hb, ⟨h1, hown⟩, hne⟩
    refine ⟨hB, v, (hk b hB (lt_of_heap hb)).trans hb, ⟨h1, ?_⟩, hne⟩
    rcases hown with h2 | ⟨g, cap, cur, fz, hv, hbg, hg, r⟩
    · exact Or.inl h2
    · exact Or.inr ⟨g, cap, cur, fz, hv, hbg, (hk g hbg (lt_of_heap hg)).trans hg, r⟩
  rcases h with h | h
  · exact Or.inl (go _ h)
  · exact Or.inr (go _ h)
theorem builder_below {T e : TypeId} {B b : Nat} {bs : List Value} {w w' : World} (h : Lib.IsBuilder T e B b bs w) (hb : Below w.heap.size w w') : Lib.IsBuilder T e B b bs w' := by
  have go : ∀ p, Lib.BuilderAt T e B b p bs w → Lib.BuilderAt T e B b p bs w' := by
    rintro p ⟨hB, v, hbk, hown, hne⟩
    exact ⟨hB, v, (hb.block b (lt_of_heap hbk)).trans hbk, owns_below hown hb, hne⟩
  rcases h with h | h
  · exact Or.inl (go _ h)
  · exact Or.inr (go _ h)
theorem lwrite_at (B b : Nat) (L : List UInt8) (s : ByteArray) (w : World) (h : Hid (Lib.IsBuilder 77 5 B b (Lib.byteCells L) w)) (hlen : L.length + s.size ≤ 140737488355328) (hBw : B ≤ w.heap.size) (M : List UInt8) (hM : Hid (M = L ++ s.data.toList)) :
    Calls Tryz.prog 37 #[.pointer (some ⟨b, 0, none⟩), .string s] w fun e w' => e = .returned (.tuple #[.int .i64 s.size, .nilIface]) ∧ (Lib.IsBuilder 77 5 B b (Lib.byteCells M) w' ∧ Below B w w') := by
  refine (Tryz.WriteString B b (Lib.byteCells L) s w h.out (by rw [Lib.byteCells_length]; exact hlen) hBw).mono ?_
  rintro e w' ⟨rfl, h1, h2⟩
  rw [hM.out, Lib.byteCells_append, ← Lib.strCells_eq]
  exact ⟨rfl, .inr h1, h2⟩
theorem lstring_at (B b : Nat) (L : List UInt8) (X : ByteArray) (w : World) (h : Hid (Lib.IsBuilderF 77 5 B b (Lib.byteCells L) w)) (hBw : B ≤ w.heap.size) (hX : Hid (str L = X)) :
    Calls Tryz.prog 40 #[.pointer (some ⟨b, 0, none⟩)] w fun e w' => e = .returned (.string X) ∧ (Lib.IsBuilderF 77 5 B b (Lib.byteCells L) w' ∧ Below B w w') := by
  rw [← hX.out]
  exact Any.Builder_String_any_f Tryz.lays169 Tryz.Builder_Extra_169 B b L w h.out hBw
theorem lblen_at (B b : Nat) (L : List UInt8) (k : Nat) (w : World) (h : Hid (Lib.IsBuilderF 77 5 B b (Lib.byteCells L) w)) (hk : L.length = k) :
    Calls Tryz.prog 41 #[.pointer (some ⟨b, 0, none⟩)] w fun e w' => e = .returned (.int .i64 (k : Nat)) ∧ ∃ n, w' = w.drewN n := by
  refine (Any.Builder_Len_f Tryz.lays170 B b (Lib.byteCells L) w h.out).mono ?_
  rintro e w' ⟨rfl, rfl⟩
  rw [Lib.byteCells_length, hk]
  exact ⟨rfl, 0, rfl⟩
theorem frs_take_snoc (rs : List ByteArray) (i : Nat) (h : i < rs.length) : frs (rs.take (i + 1)) = frs (rs.take i) ++ fr rs[i].data.toList := by
  rw [List.take_succ_eq_append_getElem h, frs_append]
  simp [frs]
theorem frs_take_le (rs : List ByteArray) (i : Nat) : (frs (rs.take i)).length ≤ (frs rs).length := by
  conv => rhs; rw [← List.take_append_drop i rs]
  rw [frs_append, List.length_append]
  omega
theorem frs_elem (rs : List ByteArray) (i : Nat) (h : i < rs.length) : (frs (rs.take i)).length + (8 + rs[i].size) ≤ (frs rs).length := by
  have h1 := frs_take_le rs (i + 1)
  rw [frs_take_snoc rs i h, List.length_append, fr_len] at h1
  have e : rs[i].data.toList.length = rs[i].size := by simp
  omega
theorem short_all {rs : List ByteArray} (h : (frs rs).length ≤ 1048576) : ∀ r ∈ rs, r.size ≤ 1048576 := by
  intro r hr
  obtain ⟨i, hi, rfl⟩ := List.mem_iff_getElem.1 hr
  have := frs_elem rs i hi
  omega
theorem count_le : ∀ (rs : List ByteArray), 8 * rs.length ≤ (frs rs).length
  | [] => Nat.zero_le _
  | t :: rs => by
    have h := count_le rs
    have e : frs (t :: rs) = fr t.data.toList ++ frs rs := rfl
    rw [e, List.length_append, fr_len, List.length_cons]
    omega

theorem put_end {D : Disks} (hD : DoorB D) {O O1 Q : Nat → Prop} {w w1 w2 : World} {x g : Nat} {n : ByteArray} {τ : Dsk} {l : Lg} {er : Nat} (hQ : ∀ k, Q k ↔ k = x) (hx : ∀ k, O k → ¬ Q k) (hlt : x < w.heap.size) (hd1 : D O1 w1 g τ) (ho1 : Only O w w1) (hn1 : ∀ k, O1 k → O k ∨ w.heap.size ≤ k)
    (hf : Only (fun k => k = x) w1 w2) (hh : LHead w2 x g n (llen l) l.recs.length l.sure l.broken) (hn : n.size ≤ many) (hs : (frs l.recs).length ≤ 2199023255552) : Put D TheLog O Q w x g n (τ, l, er) (.returned (.int .i64 (er : Nat))) w2 := by
  have hnx : ∀ k, O1 k → k ≠ x := fun k hk e => by
    subst e
    rcases hn1 k hk with h | h
    · exact hx k h ((hQ k).2 rfl)
    · omega
  refine ⟨rfl, O1, fun k => k = x, hD.stays hd1 (fun k hk => hf.block k (hD.own hd1 k hk) (hnx k hk)), ⟨hn, hs, hh, fun k => Iff.rfl⟩, ?_, hn1, fun k hk => Or.inl ((hQ k).2 hk), hnx⟩
  exact ⟨hf.os.trans ho1.os, hf.tape.trans ho1.tape, hf.output.trans ho1.output, Nat.le_trans ho1.size hf.size, fun k hk hne => (hf.block k (Nat.lt_of_lt_of_le hk ho1.size) (fun e => hne (Or.inr ((hQ k).2 e)))).trans (ho1.block k hk (fun h => hne (Or.inl h)))⟩

theorem lsync_eq {σ τ : Dsk} {n : ByteArray} {recs : List ByteArray} {su er : Nat} (h : sync σ n = (τ, er)) : lsync σ n ⟨recs, su, false⟩ = (τ, if er = 0 then ⟨recs, recs.length, false⟩ else ⟨recs, su, true⟩, er) := by
  unfold lsync
  rw [if_neg (by simp), h]
theorem lappend_eq {σ τ : Dsk} {n : ByteArray} {recs rs : List ByteArray} {su er : Nat} (hs : ∀ r ∈ rs, r.size ≤ 1048576) (hne : rs ≠ []) (h : append σ n (str (frs rs)) = (τ, er)) :
    lappend σ n ⟨recs, su, false⟩ rs = (τ, if er = 0 then ⟨recs ++ rs, su, false⟩ else if er = 6 then ⟨recs, su, false⟩ else ⟨recs, su, true⟩, er) := by
  unfold lappend
  rw [if_neg (by simp), if_neg (by rw [short_any hs]; simp), if_neg hne, h]
theorem sync_six {σ : Dsk} {n : ByteArray} : (sync σ n).2 ≠ 6 := by
  unfold sync
  repeat' split
  all_goals first | exact (show (70 : Nat) ≠ 6 by decide) | exact (show (5 : Nat) ≠ 6 by decide) | exact (show (0 : Nat) ≠ 6 by decide)

end Go.Proofs.YtikbokbmaihdbaaGreatDoor

namespace Go.Proofs.YtikbokbmaihdbaaGreatDoor
open Go.RowKit Go.ChangeShapes Go.WideShapes

set_option maxRecDepth 100000 in
set_option maxHeartbeats 2000000 in
theorem lg_sync {D : Disks} (hD : DoorB D) {O Q : Nat → Prop} {w : World} {x g : Nat} {σ : Dsk} {n : ByteArray} {l : Lg} (hd : D O w g σ) (hl : TheLog Q w x g n l) (hx : ∀ k, O k → ¬ Q k) : Calls Tryz.prog 12 #[ptr x] w (Put D TheLog O Q w x g n (lsync σ n l)) := by
  obtain ⟨hn, hsz, hh, hQ⟩ := hl
  obtain ⟨recs, su, br⟩ := l
  have hlt := hh.lt
  have KR := lready_at hh
  have PE := Lib.hid (fun O1 w1 w2 τ l er => put_end (w1 := w1) (w2 := w2) (O1 := O1) (n := n) (g := g) (τ := τ) (l := l) (er := er) hD hQ hx hlt)
  cases br with
  | true =>
    have e1 : lsync σ n ⟨recs, su, true⟩ = (σ, ⟨recs, su, true⟩, 3) := if_pos rfl
    rw [e1]
    go_enter Tryz.func12, Tryz.ntmps12
    go_wp2_with (go_at_call 35; refine KR.mono ?_; rintro e w' ⟨rfl, rfl⟩)
    go_ret
    exact PE.out O w w σ ⟨recs, su, true⟩ 3 hd (Only.refl _ _) (fun k hk => Or.inl hk) (Only.refl _ _) hh hn hsz
  | false =>
    have c0 := hh.c0
    have c1 := hh.c1
    obtain ⟨τ, er, hτ⟩ : ∃ τ er, sync σ n = (τ, er) := ⟨_, _, rfl⟩
    have h6 : er ≠ 6 := by have h := sync_six (σ := σ) (n := n); rw [hτ] at h; exact h
    have KS : Hid (∀ W, Below w.heap.size w W → Calls Tryz.prog 28 #[ptr g, .string n] W (Did D O W g (τ, er))) := fun W hW => by rw [← hτ]; exact hD.sync n (hD.below hd hW) hn
    have HE := Lib.hid (lsync_eq (recs := recs) (su := su) hτ)
    obtain ⟨sz, hszz⟩ : ∃ sz, llen ⟨recs, su, false⟩ = sz := ⟨_, rfl⟩
    obtain ⟨ct, hct⟩ : ∃ ct, recs.length = ct := ⟨_, rfl⟩
    have HSZ := Lib.hid hszz
    have HCT := Lib.hid hct
    have HH : Hid (LHead w x g n sz ct su false) := by have h := hh; rw [← hszz, ← hct]; exact h
    have HN := Lib.hid hn
    have HSS := Lib.hid hsz
    clear hszz hct hh hsz hn hτ
    go_enter Tryz.func12, Tryz.ntmps12
    go_wp2_with (go_at_call 35; refine KR.mono ?_; rintro e w' ⟨rfl, rfl⟩)
    refine wp_region_any (by kernel_rfl) ?_
    change wpAny _ _ _ _ _ _ _ (World.drew _)
    refine wpAny_take (i := 0) (v := ptr x) rfl (by kernel_rfl) (by kernel_rfl) (by kernel_rfl) (fun _ _ _ h => h) (Or.inl ⟨by kernel_rfl, ?_⟩) ?_
    · intro w; go_simp
    refine wpAny_quiet_tail (C := fun w' => ∃ n, w' = w.drewN n) 1 9 (by rfl) (by kernel_rfl) ⟨1, rfl⟩ ?_
    simp only [List.take_succ_cons, List.take_zero, List.drop_succ_cons, List.drop_zero]
    go_simp
    repeat (go_big_quiet_step (fail))
    refine wpQuiet_nil ?_
    intro p
    have HB1 := Lib.hid ((Below.refl w.heap.size w).drewN p)
    go_wp2_with fail
    refine (KS.out _ HB1.out).mono ?_
    rintro e w1 ⟨rfl, O1, hd1, ho1, hn1⟩
    have HD1 := Lib.hid hd1
    have HO1 := Lib.hid ((HB1.out.only O).trans ho1 (fun k hk => Or.inl hk))
    have HN1 : Hid (∀ k, O1 k → O k ∨ w.heap.size ≤ k) := fun k hk => by rcases hn1 k hk with h | h; exact Or.inl h; exact Or.inr (Nat.le_trans HB1.out.size h)
    have HH1 : Hid (LHead w1 x g n sz ct su false) := HH.out.kept (HO1.out.block x hlt (fun h => hx x h ((hQ x).2 rfl)))
    clear hd1 ho1 hn1 KS
    go_wp2_with fail
    refine (lheed_at HH1.out er).mono ?_
    rintro e w2 ⟨rfl, hh2, ho2, hs2⟩
    have HH2 := Lib.hid hh2
    have HO2 := Lib.hid ho2
    clear hh2 ho2 hs2
    by_cases h0 : er = 0
    · subst h0
      have e1 : heeded 0 false = false := rfl
      rw [e1] at HH2
      rw [if_pos rfl] at HE
      have d3 := HH2.out.c3
      have d4 := HH2.out.c4
      have f4 := HH2.out.fr 4
      have hs4 := heap_set (i := 4) HH2.out (.int .i64 (ct : Nat))
      go_wp2_with fail
      go_ret
      rw [HE.out]
      refine PE.out O1 w1 _ τ ⟨recs, recs.length, false⟩ 0 HD1.out HO1.out HN1.out (HO2.out.trans (Only.set w2 x 4 _) (fun k hk => Or.inl hk)) ?_ HN.out HSS.out
      have e2 : llen ⟨recs, recs.length, false⟩ = sz := HSZ.out
      rw [e2]
      show LHead _ x g n sz recs.length recs.length false
      rw [HCT.out]
      exact hs4
    · have q : ((er : Int) == 0) = false := by rw [beq_eq_false_iff_ne]; omega
      have e1 : heeded er false = true := if_neg (by omega)
      rw [e1] at HH2
      rw [if_neg h0] at HE
      go_wp2_with fail
      go_ret
      rw [HE.out]
      refine PE.out O1 w1 _ τ ⟨recs, su, true⟩ er HD1.out HO1.out HN1.out HO2.out ?_ HN.out HSS.out
      have h := HH2.out
      rw [← HSZ.out, ← HCT.out] at h
      exact h

end Go.Proofs.YtikbokbmaihdbaaGreatDoor
