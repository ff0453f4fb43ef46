/-
  Layer 7: what Crash's loop knows, and each way that a round goes.
-/
import Derived.Test.YtikbokbmaihdbaaGreatDoorDNames
import Derived.Test.YtikbokbmaihdbaaGreatDoorLWorks
namespace Go.Proofs.YtikbokbmaihdbaaGreatDoor
open Go.RowKit Go.Maps Go.Lib Go.ChangeShapes Go.WideShapes

section
variable {d r : List (ByteArray × Fil)} {n : ByteArray} {f : Fil} (h : Srt (d ++ (n, f) :: r))
include h
theorem mid_get : get (d ++ (n, f) :: r) n = some f := get_of_mem (p := (n, f)) h (List.mem_append.2 (Or.inr List.mem_cons_self))
theorem mid_left {p : ByteArray × Fil} (hp : p ∈ d) : p.1 ≠ n := bl_ne ((List.pairwise_append.1 h).2.2 p hp (n, f) List.mem_cons_self)
theorem mid_right {p : ByteArray × Fil} (hp : p ∈ r) : p.1 ≠ n := fun e => bl_ne ((List.pairwise_cons.1 (List.pairwise_append.1 h).2.1).1 p hp) e.symm
theorem mid_del : del (d ++ (n, f) :: r) n = d ++ r := by
  simp only [del, List.filter_append, List.filter_cons]
  rw [if_neg (by simp)]
  congr 1
  · exact List.filter_eq_self.2 (fun p hp => by simpa using mid_left h hp)
  · exact List.filter_eq_self.2 (fun p hp => by simpa using mid_right h hp)
theorem mid_upd (f' : Fil) : upd (d ++ (n, f) :: r) n f' = d ++ (n, f') :: r := by
  simp only [upd, List.map_append, List.map_cons, if_true]
  congr 1
  · conv => rhs; rw [← List.map_id d]
    exact List.map_congr_left (fun p hp => by rw [if_neg (mid_left h hp)]; rfl)
  · congr 1
    conv => rhs; rw [← List.map_id r]
    exact List.map_congr_left (fun p hp => by rw [if_neg (mid_right h hp)]; rfl)
end

/-- At world wr, i names have been met. -/
structure Crs (w wr : World) (b : Nat) (P : ByteArray → Nat) (V : ByteArray → Value) (fs : List (ByteArray × Fil)) (ks : List Int) (A : Option Addr) (i : Nat) (K : Option Addr) (l c : Nat) (js : List Int) (ds : List (ByteArray × Fil)) (V2 : ByteArray → Value) : Prop where
  lay : Lay wr b P V2 (ds ++ fs.drop i)
  eq : crs fs ks = ds ++ crs (fs.drop i) js
  own : ∀ n, (V2 n).ownBlock = (V n).ownBlock
  sub : ∀ m ∈ names (ds ++ fs.drop i), m ∈ names fs
  keep : SliceView wr .i64 K l c js
  free : ∀ a, K = some a → ¬ OLay b P V fs a.block
  row : Strs wr A (names fs).length (names fs)
  only : Only (OLay b P V fs) w wr

section
variable {w wr : World} {b : Nat} {P : ByteArray → Nat} {V : ByteArray → Value} {fs : List (ByteArray × Fil)} {ks : List Int} {A : Option Addr} {i : Nat} {K : Option Addr} {l c : Nat} {js : List Int} {ds : List (ByteArray × Fil)} {V2 : ByteArray → Value}
theorem Crs.below (h : Crs w wr b P V fs ks A i K l c js ds V2) {w2 : World} (hb : Below wr.heap.size wr w2) : Crs w w2 b P V fs ks A i K l c js ds V2 :=
  ⟨h.lay.below hb, h.eq, h.own, h.sub, h.keep.below hb, h.free, h.row.below hb, h.only.trans (hb.only (OLay b P V fs)) (fun _ hk => Or.inl hk)⟩
theorem OLay.sub (h : Crs w wr b P V fs ks A i K l c js ds V2) {k : Nat} (hk : OLay b P V2 (ds ++ fs.drop i) k) : OLay b P V fs k := by
  rcases hk with rfl | ⟨n, hn, hk⟩
  · exact Or.inl rfl
  · rw [h.own] at hk
    exact Or.inr ⟨n, h.sub n hn, hk⟩
/-- What stays, where blocks of the disk turn. -/
theorem view_only {O : Nat → Prop} {w w2 : World} {K : Option Addr} {l c : Nat} {js : List Int} (h : SliceView w .i64 K l c js) (ho : Only O w w2) (hf : ∀ a, K = some a → ¬ O a.block) : SliceView w2 .i64 K l c js := by
  obtain ⟨h1, h2, h3, h4, h5, h6⟩ := h
  refine ⟨h1, h2, h3, h4, fun t ht => ?_, h6⟩
  obtain ⟨q, off, e, hl, hc⟩ := h5 t ht
  refine ⟨q, off, e, Nat.lt_of_lt_of_le hl ho.size, ?_⟩
  rw [World.cell?_of_block (w := w) (w' := w2) (ho.block q hl (hf _ e))]
  exact hc
theorem strs_only {O : Nat → Prop} {w w2 : World} {A : Option Addr} {n : Nat} {ss : List ByteArray} (h : Strs w A n ss) (ho : Only O w w2) (hf : ∀ a, A = some a → ¬ O a.block) : Strs w2 A n ss := by
  refine ⟨h.len, fun i hi => ?_⟩
  obtain ⟨q, off, e, hl, hc⟩ := h.cell i hi
  refine ⟨q, off, e, Nat.lt_of_lt_of_le hl ho.size, ?_⟩
  rw [World.cell?_of_block (w := w) (w' := w2) (ho.block q hl (hf _ e))]
  exact hc
theorem view_tail {w : World} {q off : Nat} {l c : Nat} {k : Int} {t : List Int} (h : SliceView w .i64 (some ⟨q, off, none⟩) l c (k :: t)) : w.cell? ⟨q, off, none⟩ = some (.int .i64 k) ∧ SliceView w .i64 (some ⟨q, off + 1, none⟩) (l - 1) (c - 1) t := by
  obtain ⟨h1, h2, h3, h4, h5, h6⟩ := h
  have hl : l = t.length + 1 := by rw [← h1]; rfl
  refine ⟨?_, by omega, by omega, by omega, (fun e => by cases e), fun j hj => ?_, fun z hz => h6 z (List.mem_cons_of_mem _ hz)⟩
  · obtain ⟨q', off', e, _, hc⟩ := h5 0 (by omega)
    cases e
    simpa using hc
  · obtain ⟨q', off', e, hq, hc⟩ := h5 (j + 1) (by omega)
    cases e
    refine ⟨q, off + 1, rfl, hq, ?_⟩
    rw [show off + 1 + j = off + (j + 1) by omega, hc]
    simp [List.getD]
theorem view_tail2 {w : World} {q off : Nat} {l c : Nat} {k : Int} {t : List Int} (h : SliceView w .i64 (some ⟨q, off, none⟩) l c (k :: t)) : SliceView w .i64 (if c = 1 then some ⟨q, off, none⟩ else some ⟨q, off + 1, none⟩) (l - 1) (c - 1) t := by
  have h2 := (view_tail h).2
  split
  · obtain ⟨g1, g2, g3, _, _, g6⟩ := h2
    exact ⟨g1, g2, g3, (fun e => by cases e), fun j hj => by omega, g6⟩
  · exact h2
theorem free_tail {O : Nat → Prop} {q off c : Nat} (h : ∀ a : Addr, some (⟨q, off, none⟩ : Addr) = some a → ¬ O a.block) : ∀ a : Addr, (if c = 1 then some (⟨q, off, none⟩ : Addr) else some ⟨q, off + 1, none⟩) = some a → ¬ O a.block := by
  intro a ha
  split at ha
  · exact h a ha
  · cases ha
    exact h ⟨q, off, none⟩ rfl

variable (h : Crs w wr b P V fs ks A i K l c js ds V2) {n : ByteArray} {f : Fil} (hd : fs.drop i = (n, f) :: fs.drop (i + 1))
include h hd
theorem Crs.srt : Srt (ds ++ (n, f) :: fs.drop (i + 1)) := by
  have := h.lay.srt
  rw [hd] at this
  exact this
theorem Crs.got : get (ds ++ fs.drop i) n = some f := by
  rw [hd]
  exact mid_get (h.srt hd)
theorem Crs.file : File wr (P n) (V2 n) f := h.lay.file n f (h.got hd)
theorem Crs.mem : n ∈ names (ds ++ fs.drop i) := names_of_get (h.got hd)
/-- It stays as it was. -/
theorem Crs.calm (h0 : f.loose = 0) (h1 : f.fresh = false) : Crs w wr b P V fs ks A (i + 1) K l c js (ds ++ [(n, f)]) V2 := by
  have e : ds ++ fs.drop i = (ds ++ [(n, f)]) ++ fs.drop (i + 1) := by rw [hd, List.append_assoc]; rfl
  refine ⟨by rw [← e]; exact h.lay, ?_, h.own, by rw [← e]; exact h.sub, h.keep, h.free, h.row, h.only⟩
  rw [h.eq, hd, crs, if_pos ⟨h0, h1⟩, List.append_assoc]
  rfl
/-- It goes. -/
theorem Crs.gone {w2 : World} {K' : Option Addr} {l' c' : Nat} (hne : ¬ (f.loose = 0 ∧ f.fresh = false)) (hf : f.fresh = true) (hk : js.headD (-1) < 0) (hkeep : SliceView wr .i64 K' l' c' js.tail) (hfree : ∀ a, K' = some a → ¬ OLay b P V fs a.block) (hA : ∀ a, A = some a → ¬ OLay b P V fs a.block)
    (hm : SMap Tryz.prog 9 w2 b (del (kvOf P (ds ++ fs.drop i)) n)) (ho : Only (fun k => some b = some k) wr w2) : Crs w w2 b P V fs ks A (i + 1) K' l' c' js.tail ds V2 := by
  have hO : ∀ k, some b = some k → OLay b P V fs k := fun k hk => by injection hk with hk; exact Or.inl hk.symm
  have hl := h.lay.gone hm (fun k hk hkb => ho.block k (h.lay.lt hk) (fun e => by injection e with e; exact hkb e.symm))
  have e : del (ds ++ fs.drop i) n = ds ++ fs.drop (i + 1) := by rw [hd]; exact mid_del (h.srt hd)
  rw [e] at hl
  refine ⟨hl, ?_, h.own, fun m hm2 => h.sub m ?_, view_only hkeep ho (fun a ha ho2 => hfree a ha (hO _ ho2)), hfree, strs_only h.row ho (fun a ha ho2 => hA a ha (hO _ ho2)), h.only.trans ho (fun k hk => Or.inl (hO k hk))⟩
  · rw [h.eq, hd, crs, if_neg hne, if_pos ⟨hf, hk⟩]
  · rw [← e] at hm2
    exact names_del_mem hm2
/-- It is cut. -/
theorem Crs.cut {w2 : World} {K' : Option Addr} {l' c' : Nat} {q : Nat} (hne : ¬ (f.loose = 0 ∧ f.fresh = false)) (hnk : ¬ (f.fresh = true ∧ js.headD (-1) < 0)) (hq : q = f.text.size - f.loose + min (js.headD (-1)).toNat f.loose) (hkeep : SliceView wr .i64 K' l' c' js.tail) (hfree : ∀ a, K' = some a → ¬ OLay b P V fs a.block) (hA : ∀ a, A = some a → ¬ OLay b P V fs a.block)
    (hF : File w2 (P n) (cutV (V2 n) q) ⟨f.text.extract 0 q, 0, false⟩) (ho : Only (fun k => k = P n) wr w2) : Crs w w2 b P V fs ks A (i + 1) K' l' c' js.tail (ds ++ [(n, kept f (js.headD (-1)))]) (put1 V2 n (cutV (V2 n) q)) := by
  have hn := h.mem hd
  have hO : ∀ k, k = P n → OLay b P V fs k := fun k hk => Or.inr ⟨n, h.sub n hn, Or.inl hk⟩
  have hl := h.lay.turn (f' := ⟨f.text.extract 0 q, 0, false⟩) (h.got hd) hF (fun k hk => by rw [cutV_own] at hk; exact Or.inl hk) (fun k hk h1 _ => ho.block k (h.lay.lt hk) h1)
  have ek : (⟨f.text.extract 0 q, 0, false⟩ : Fil) = kept f (js.headD (-1)) := by unfold kept; rw [hq]
  have e : upd (ds ++ fs.drop i) n ⟨f.text.extract 0 q, 0, false⟩ = (ds ++ [(n, kept f (js.headD (-1)))]) ++ fs.drop (i + 1) := by
    rw [hd, mid_upd (h.srt hd), ek, List.append_assoc]; rfl
  have e3 : names ((ds ++ [(n, kept f (js.headD (-1)))]) ++ fs.drop (i + 1)) = names (ds ++ fs.drop i) := by rw [← e, names_upd]
  rw [e] at hl
  refine ⟨hl, ?_, fun m => ?_, fun m hm => h.sub m (by rw [← e3]; exact hm), view_only hkeep ho (fun a ha ho2 => hfree a ha (hO _ ho2)), hfree, strs_only h.row ho (fun a ha ho2 => hA a ha (hO _ ho2)), h.only.trans ho (fun k hk => Or.inl (hO k hk))⟩
  · rw [h.eq, hd, crs, if_neg hne, if_neg hnk, List.append_assoc]
    rfl
  · by_cases em : m = n
    · subst em; rw [put1_same, cutV_own]; exact h.own m
    · rw [put1_other _ _ em]; exact h.own m
end

end Go.Proofs.YtikbokbmaihdbaaGreatDoor
