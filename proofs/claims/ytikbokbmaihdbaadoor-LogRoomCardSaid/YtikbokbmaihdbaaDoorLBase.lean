/-
  Layer 8: Append and Sync: what both want.
-/
import Derived.Test.YtikbokbmaihdbaaDoorLOpen
import Derived.Test.YtikbokbmaihdbaaDoorBuild
import Derived.Test.YtikbokbmaihdbaaDoorSQTail
import Derived.Shelf.Strings.BuilderF
import Derived.Deep.RegionWith
import Derived.BigQuiet
namespace Go.Proofs.YtikbokbmaihdbaaDoor
open Go.RowKit Go.ChangeShapes Go.WideShapes

theorem builder_kept {T e : TypeId} {B b : Nat} {bs : List Value} {w w' : World} (h : Lib.IsBuilderF T e B b bs w) (hk : ∀ k, B ≤ k → k < w.heap.size → w'.heap[k]? = w.heap[k]?) : Lib.IsBuilderF T e B b bs w' := by
  have go : ∀ p, Lib.BuilderAtF T e B b p bs w → Lib.BuilderAtF T e B b p bs w' := by
    rintro p ⟨hB, v, hb, ⟨h1, hown⟩, hne⟩
    refine ⟨hB, v, (hk b hB (lt_of_heap hb)).trans hb, ⟨h1, ?_⟩, hne⟩
    rcases hown with h2 | ⟨g, cap, cur, fz, hv, hbg, hg, r⟩
    · exact Or.inl h2
    · exact Or.inr ⟨g, cap, cur, fz, hv, hbg, (hk g hbg (lt_of_heap hg)).trans hg, r⟩
  rcases h with h | h
  · exact Or.inl (go _ h)
  · exact Or.inr (go _ h)
theorem builder_below {T e : TypeId} {B b : Nat} {bs : List Value} {w w' : World} (h : Lib.IsBuilder T e B b bs w) (hb : Below w.heap.size w w') : Lib.IsBuilder T e B b bs w' := by
  have go : ∀ p, Lib.BuilderAt T e B b p bs w → Lib.BuilderAt T e B b p bs w' := by
    rintro p ⟨hB, v, hbk, hown, hne⟩
    exact ⟨hB, v, (hb.block b (lt_of_heap hbk)).trans hbk, owns_below hown hb, hne⟩
  rcases h with h | h
  · exact Or.inl (go _ h)
  · exact Or.inr (go _ h)
theorem lwrite_at (B b : Nat) (L : List UInt8) (s : ByteArray) (w : World) (h : Hid (Lib.IsBuilder 65 5 B b (Lib.byteCells L) w)) (hlen : L.length + s.size ≤ 140737488355328) (hBw : B ≤ w.heap.size) (M : List UInt8) (hM : Hid (M = L ++ s.data.toList)) :
    Calls Tryd.prog 31 #[.pointer (some ⟨b, 0, none⟩), .string s] w fun e w' => e = .returned (.tuple #[.int .i64 s.size, .nilIface]) ∧ (Lib.IsBuilder 65 5 B b (Lib.byteCells M) w' ∧ Below B w w') := by
  refine (Tryd.WriteString B b (Lib.byteCells L) s w h.out (by rw [Lib.byteCells_length]; exact hlen) hBw).mono ?_
  rintro e w' ⟨rfl, h1, h2⟩
  rw [hM.out, Lib.byteCells_append, ← Lib.strCells_eq]
  exact ⟨rfl, .inr h1, h2⟩
theorem lstring_at (B b : Nat) (L : List UInt8) (X : ByteArray) (w : World) (h : Hid (Lib.IsBuilderF 65 5 B b (Lib.byteCells L) w)) (hBw : B ≤ w.heap.size) (hX : Hid (str L = X)) :
    Calls Tryd.prog 33 #[.pointer (some ⟨b, 0, none⟩)] w fun e w' => e = .returned (.string X) ∧ (Lib.IsBuilderF 65 5 B b (Lib.byteCells L) w' ∧ Below B w w') := by
  rw [← hX.out]
  exact Any.Builder_String_any_f Tryd.lays169 Tryd.Builder_Extra_169 B b L w h.out hBw
theorem lblen_at (B b : Nat) (L : List UInt8) (k : Nat) (w : World) (h : Hid (Lib.IsBuilderF 65 5 B b (Lib.byteCells L) w)) (hk : L.length = k) :
    Calls Tryd.prog 34 #[.pointer (some ⟨b, 0, none⟩)] w fun e w' => e = .returned (.int .i64 (k : Nat)) ∧ ∃ n, w' = w.drewN n := by
  refine (Any.Builder_Len_f Tryd.lays170 B b (Lib.byteCells L) w h.out).mono ?_
  rintro e w' ⟨rfl, rfl⟩
  rw [Lib.byteCells_length, hk]
  exact ⟨rfl, 0, rfl⟩
theorem frs_take_snoc (rs : List ByteArray) (i : Nat) (h : i < rs.length) : frs (rs.take (i + 1)) = frs (rs.take i) ++ fr rs[i].data.toList := by
  rw [List.take_succ_eq_append_getElem h, frs_append]
  simp [frs]
theorem frs_take_le (rs : List ByteArray) (i : Nat) : (frs (rs.take i)).length ≤ (frs rs).length := by
  conv => rhs; rw [← List.take_append_drop i rs]
  rw [frs_append, List.length_append]
  omega
theorem frs_elem (rs : List ByteArray) (i : Nat) (h : i < rs.length) : (frs (rs.take i)).length + (8 + rs[i].size) ≤ (frs rs).length := by
  have h1 := frs_take_le rs (i + 1)
  rw [frs_take_snoc rs i h, List.length_append, fr_len] at h1
  have e : rs[i].data.toList.length = rs[i].size := by simp
  omega
theorem short_all {rs : List ByteArray} (h : (frs rs).length ≤ 1048576) : ∀ r ∈ rs, r.size ≤ 1048576 := by
  intro r hr
  obtain ⟨i, hi, rfl⟩ := List.mem_iff_getElem.1 hr
  have := frs_elem rs i hi
  omega
theorem count_le : ∀ (rs : List ByteArray), 8 * rs.length ≤ (frs rs).length
  | [] => Nat.zero_le _
  | t :: rs => by
    have h := count_le rs
    have e : frs (t :: rs) = fr t.data.toList ++ frs rs := rfl
    rw [e, List.length_append, fr_len, List.length_cons]
    omega

theorem put_end {D : Disks} (hD : DoorB D) {O O1 Q : Nat → Prop} {w w1 w2 : World} {x g : Nat} {n : ByteArray} {τ : Dsk} {l : Lg} {er : Nat} (hQ : ∀ k, Q k ↔ k = x) (hx : ∀ k, O k → ¬ Q k) (hlt : x < w.heap.size) (hd1 : D O1 w1 g τ) (ho1 : Only O w w1) (hn1 : ∀ k, O1 k → O k ∨ w.heap.size ≤ k)
    (hf : Only (fun k => k = x) w1 w2) (hh : LHead w2 x g n (llen l) l.recs.length l.sure l.broken) (hn : n.size ≤ many) (hs : (frs l.recs).length ≤ 2199023255552) : Put D TheLog O Q w x g n (τ, l, er) (.returned (.int .i64 (er : Nat))) w2 := by
  have hnx : ∀ k, O1 k → k ≠ x := fun k hk e => by
    subst e
    rcases hn1 k hk with h | h
    · exact hx k h ((hQ k).2 rfl)
    · omega
  refine ⟨rfl, O1, fun k => k = x, hD.stays hd1 (fun k hk => hf.block k (hD.own hd1 k hk) (hnx k hk)), ⟨hn, hs, hh, fun k => Iff.rfl⟩, ?_, hn1, fun k hk => Or.inl ((hQ k).2 hk), hnx⟩
  exact ⟨hf.os.trans ho1.os, hf.tape.trans ho1.tape, hf.output.trans ho1.output, Nat.le_trans ho1.size hf.size, fun k hk hne => (hf.block k (Nat.lt_of_lt_of_le hk ho1.size) (fun e => hne (Or.inr ((hQ k).2 e)))).trans (ho1.block k hk (fun h => hne (Or.inl h)))⟩

theorem lsync_eq {σ τ : Dsk} {n : ByteArray} {recs : List ByteArray} {su er : Nat} (h : sync σ n = (τ, er)) : lsync σ n ⟨recs, su, false⟩ = (τ, if er = 0 then ⟨recs, recs.length, false⟩ else ⟨recs, su, true⟩, er) := by
  unfold lsync
  rw [if_neg (by simp), h]
theorem lappend_eq {σ τ : Dsk} {n : ByteArray} {recs rs : List ByteArray} {su er : Nat} (hs : ∀ r ∈ rs, r.size ≤ 1048576) (hne : rs ≠ []) (h : append σ n (str (frs rs)) = (τ, er)) :
    lappend σ n ⟨recs, su, false⟩ rs = (τ, if er = 0 then ⟨recs ++ rs, su, false⟩ else if er = 6 then ⟨recs, su, false⟩ else ⟨recs, su, true⟩, er) := by
  unfold lappend
  rw [if_neg (by simp), if_neg (by rw [short_any hs]; simp), if_neg hne, h]
theorem sync_six {σ : Dsk} {n : ByteArray} : (sync σ n).2 ≠ 6 := by
  unfold sync
  repeat' split
  all_goals first | exact (show (70 : Nat) ≠ 6 by decide) | exact (show (5 : Nat) ≠ 6 by decide) | exact (show (0 : Nat) ≠ 6 by decide)

end Go.Proofs.YtikbokbmaihdbaaDoor
