/-
  Layer 7, plain mathematics: a disk's files by rising names, and what each call makes of them.
-/
import Derived.Test.YtikbokbmaihdbaaDoorAssoc
namespace Go.Proofs.YtikbokbmaihdbaaDoor

/-- A file; a disk: its room, how many calls its fuse leaves (none: no fuse), its files by rising names. -/
structure Fil where
  text : ByteArray
  loose : Nat
  fresh : Bool
structure Dsk where
  room : Nat
  fuse : Option Nat
  fs : List (ByteArray × Fil)

def used (fs : List (ByteArray × Fil)) : Nat := (fs.map fun p => p.2.text.size).sum
theorem used_upd : ∀ {fs : List (ByteArray × Fil)} {n : ByteArray} {f g : Fil}, Srt fs → get fs n = some g → used (upd fs n f) + g.text.size = used fs + f.text.size
  | p :: r, n, f, g, hs, h => by
    have hs' := List.pairwise_cons.1 hs
    simp only [used, upd, List.map_cons, List.sum_cons, get] at h ⊢
    by_cases e : p.1 = n
    · rw [if_pos e] at h ⊢
      cases h
      have hr : r.map (fun q => if q.1 = n then (n, f) else q) = r := by
        conv => rhs; rw [← List.map_id r]
        apply List.map_congr_left
        intro q hq
        rw [if_neg (fun e2 => bl_ne (hs'.1 q hq) (e.trans e2.symm))]; rfl
      rw [hr]
      simp only
      omega
    · rw [if_neg e] at h ⊢
      have ih := used_upd (f := f) hs'.2 h
      simp only [used, upd] at ih
      omega

theorem used_del (fs : List (ByteArray × Fil)) (n : ByteArray) : used (del fs n) ≤ used fs := by
  induction fs with
  | nil => simp [del, used]
  | cons p r ih =>
    simp only [del, used, List.filter_cons] at ih ⊢
    split
    · simp only [List.map_cons, List.sum_cons]; omega
    · simp only [List.map_cons, List.sum_cons]; omega
theorem used_ins (n : ByteArray) (f : Fil) : ∀ fs : List (ByteArray × Fil), used (ins n f fs) = used fs + f.text.size
  | [] => by simp [ins, used]
  | q :: r => by
    unfold ins
    have ih := used_ins n f r
    simp only [used] at ih ⊢
    split
    · simp only [List.map_cons, List.sum_cons, ih]; omega
    · simp only [List.map_cons, List.sum_cons]; omega

/-- A crash: file by file. -/
def kept (f : Fil) (k : Int) : Fil := ⟨f.text.extract 0 (f.text.size - f.loose + min k.toNat f.loose), 0, false⟩
def crs : List (ByteArray × Fil) → List Int → List (ByteArray × Fil)
  | [], _ => []
  | (n, f) :: r, ks =>
    if f.loose = 0 ∧ f.fresh = false then (n, f) :: crs r ks
    else if f.fresh = true ∧ ks.headD (-1) < 0 then crs r ks.tail
    else (n, kept f (ks.headD (-1))) :: crs r ks.tail

theorem crs_sub : ∀ (fs : List (ByteArray × Fil)) (ks : List Int), List.Sublist (names (crs fs ks)) (names fs)
  | [], _ => by simp [crs, names]
  | (n, f) :: r, ks => by
    unfold crs
    split
    · simpa [names] using crs_sub r ks
    · split
      · exact List.Sublist.cons _ (crs_sub r ks.tail)
      · simpa [names] using crs_sub r ks.tail
theorem srt_crs {fs : List (ByteArray × Fil)} (h : Srt fs) (ks : List Int) : Srt (crs fs ks) := by
  rw [srt_names] at h ⊢
  exact h.sublist (crs_sub fs ks)
theorem len_crs (fs : List (ByteArray × Fil)) (ks : List Int) : (crs fs ks).length ≤ fs.length := by
  have := (crs_sub fs ks).length_le
  simpa [names] using this
theorem kept_size (f : Fil) (k : Int) (h : f.loose ≤ f.text.size) : f.text.size - f.loose ≤ (kept f k).text.size ∧ (kept f k).text.size ≤ f.text.size := by
  simp only [kept, ByteArray.size_extract]
  omega
theorem used_crs : ∀ (fs : List (ByteArray × Fil)) (ks : List Int), used (crs fs ks) ≤ used fs
  | [], _ => by simp [crs]
  | (n, f) :: r, ks => by
    unfold crs
    have h1 := used_crs r ks
    have h2 := used_crs r ks.tail
    simp only [used] at h1 h2 ⊢
    split
    · simp only [List.map_cons, List.sum_cons]; omega
    · split
      · simp only [List.map_cons, List.sum_cons]; omega
      · have : (kept f (ks.headD (-1))).text.size ≤ f.text.size := by simp only [kept, ByteArray.size_extract]; omega
        simp only [List.map_cons, List.sum_cons]; omega
theorem calm_crs : ∀ (fs : List (ByteArray × Fil)) (ks : List Int), ∀ p ∈ crs fs ks, p.2.loose = 0 ∧ p.2.fresh = false
  | [], _, p, hp => by simp [crs] at hp
  | (n, f) :: r, ks, p, hp => by
    unfold crs at hp
    split at hp
    · rename_i h
      rcases List.mem_cons.1 hp with rfl | hp
      · exact h
      · exact calm_crs r ks p hp
    · split at hp
      · exact calm_crs r ks.tail p hp
      · rcases List.mem_cons.1 hp with rfl | hp
        · exact ⟨rfl, rfl⟩
        · exact calm_crs r ks.tail p hp
theorem crs_calm : ∀ (fs : List (ByteArray × Fil)) (ks : List Int), (∀ p ∈ fs, p.2.loose = 0 ∧ p.2.fresh = false) → crs fs ks = fs
  | [], _, _ => rfl
  | (n, f) :: r, ks, h => by
    have h1 := h (n, f) List.mem_cons_self
    rw [crs, if_pos h1, crs_calm r ks (fun p hp => h p (List.mem_cons_of_mem _ hp))]
/-- What a crash leaves of a file. -/
theorem get_crs : ∀ {fs : List (ByteArray × Fil)} {n : ByteArray} {f : Fil}, Srt fs → get fs n = some f → f.loose ≤ f.text.size → ∀ ks : List Int,
    (get (crs fs ks) n = none ∧ f.fresh = true) ∨ ∃ g, get (crs fs ks) n = some g ∧ g.loose = 0 ∧ ∃ m, f.text.size - f.loose ≤ m ∧ m ≤ f.text.size ∧ g.text = f.text.extract 0 m
  | (q, h) :: r, n, f, hs, hg, hl, ks => by
    have hs' := List.pairwise_cons.1 hs
    have hout : q = n → ∀ ks', get (crs r ks') n = none := fun e ks' => by
      rw [get_none]
      intro hm
      obtain ⟨p, hp, e2⟩ := List.mem_map.1 ((crs_sub r ks').subset hm)
      exact bl_ne (hs'.1 p hp) (e.trans e2.symm)
    simp only [get] at hg
    by_cases e : q = n
    · rw [if_pos e] at hg
      cases hg
      unfold crs
      split
      · rename_i hc
        right
        refine ⟨h, by simp only [get, if_pos e], hc.1, h.text.size, by omega, Nat.le_refl _, ?_⟩
        simp
      · split
        · rename_i hc
          exact Or.inl ⟨hout e _, hc.1⟩
        · right
          exact ⟨kept h (ks.headD (-1)), by simp only [get, if_pos e], rfl, h.text.size - h.loose + min (ks.headD (-1)).toNat h.loose, by omega, by omega, rfl⟩
    · rw [if_neg e] at hg
      unfold crs
      split
      · simp only [get, if_neg e]
        exact get_crs hs'.2 hg hl ks
      · split
        · exact get_crs hs'.2 hg hl ks.tail
        · simp only [get, if_neg e]
          exact get_crs hs'.2 hg hl ks.tail

end Go.Proofs.YtikbokbmaihdbaaDoor
