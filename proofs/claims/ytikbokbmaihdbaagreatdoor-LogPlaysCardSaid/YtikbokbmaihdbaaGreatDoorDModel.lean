/-
  Lists of names with what stands at each, rising by names.
  Layer 7, plain mathematics: a disk's files by rising names, and what each call makes of them.
  Layer 7: what each call makes of a disk; what holds of every disk.
-/
import Derived.Test.YtikbokbmaihdbaaGreatDoorProg
namespace Go.Proofs.YtikbokbmaihdbaaGreatDoor

def bl (a b : ByteArray) : Prop := a.data.toList < b.data.toList
instance (a b : ByteArray) : Decidable (bl a b) := inferInstanceAs (Decidable (a.data.toList < b.data.toList))
theorem bl_irrefl (a : ByteArray) : ¬ bl a a := List.lt_irrefl _
theorem bl_trans {a b c : ByteArray} (h : bl a b) (k : bl b c) : bl a c := List.lt_trans h k
theorem bl_ne {a b : ByteArray} (h : bl a b) : a ≠ b := fun e => bl_irrefl b (by rw [e] at h; exact h)
theorem bl_other {a b : ByteArray} (h : ¬ bl a b) (hn : a ≠ b) : bl b a := by
  by_cases k : bl b a
  · exact k
  · exact absurd (by
      have e : a.data.toList = b.data.toList := List.le_antisymm k h
      exact ByteArray.ext (Array.toList_inj.1 e)) hn

def get {α : Type} : List (ByteArray × α) → ByteArray → Option α
  | [], _ => none
  | p :: r, n => if p.1 = n then some p.2 else get r n
def upd {α : Type} (fs : List (ByteArray × α)) (n : ByteArray) (f : α) : List (ByteArray × α) := fs.map fun p => if p.1 = n then (n, f) else p
def del {α : Type} (fs : List (ByteArray × α)) (n : ByteArray) : List (ByteArray × α) := fs.filter fun p => decide (p.1 ≠ n)
def ins {α : Type} (n : ByteArray) (f : α) : List (ByteArray × α) → List (ByteArray × α)
  | [] => [(n, f)]
  | p :: r => if bl p.1 n then p :: ins n f r else (n, f) :: p :: r
def names {α : Type} (fs : List (ByteArray × α)) : List ByteArray := fs.map (·.1)
def Srt {α : Type} (fs : List (ByteArray × α)) : Prop := fs.Pairwise fun p q => bl p.1 q.1

section
variable {α : Type}
theorem get_mem : ∀ {fs : List (ByteArray × α)} {n : ByteArray} {f : α}, get fs n = some f → (n, f) ∈ fs
  | p :: r, n, f, h => by
    unfold get at h
    split at h
    · rename_i e
      simp only [Option.some.injEq] at h
      subst e h
      exact List.mem_cons_self
    · exact List.mem_cons_of_mem _ (get_mem h)
theorem get_none {fs : List (ByteArray × α)} {n : ByteArray} : get fs n = none ↔ n ∉ names fs := by
  induction fs with
  | nil => simp [get, names]
  | cons p r ih =>
    unfold get
    split
    · rename_i e
      simp [names, e]
    · rename_i e
      rw [ih]
      simp only [names, List.map_cons, List.mem_cons, not_or]
      exact ⟨fun h => ⟨fun e2 => e e2.symm, h⟩, fun h => h.2⟩
theorem get_of_mem : ∀ {fs : List (ByteArray × α)}, Srt fs → ∀ {p : ByteArray × α}, p ∈ fs → get fs p.1 = some p.2
  | q :: r, hs, p, hp => by
    unfold get
    rcases List.mem_cons.1 hp with rfl | h
    · rw [if_pos rfl]
    · have := (List.pairwise_cons.1 hs).1 p h
      rw [if_neg (bl_ne this)]
      exact get_of_mem (List.pairwise_cons.1 hs).2 h

theorem names_upd (fs : List (ByteArray × α)) (n : ByteArray) (f : α) : names (upd fs n f) = names fs := by
  simp only [names, upd, List.map_map]
  apply List.map_congr_left
  intro p _
  simp only [Function.comp]
  split
  · rename_i e; exact e.symm
  · rfl
theorem len_upd (fs : List (ByteArray × α)) (n : ByteArray) (f : α) : (upd fs n f).length = fs.length := by simp [upd]
theorem srt_names {fs : List (ByteArray × α)} : Srt fs ↔ (names fs).Pairwise bl := by simp only [Srt, names, List.pairwise_map]
theorem srt_upd {fs : List (ByteArray × α)} (h : Srt fs) (n : ByteArray) (f : α) : Srt (upd fs n f) := by
  rw [srt_names, names_upd, ← srt_names]; exact h
theorem get_upd_other {fs : List (ByteArray × α)} {n m : ByteArray} (f : α) (h : m ≠ n) : get (upd fs n f) m = get fs m := by
  induction fs with
  | nil => rfl
  | cons p r ih =>
    simp only [upd, List.map_cons, get] at ih ⊢
    by_cases e : p.1 = n
    · rw [if_pos e, if_neg (fun e2 => h e2.symm), ih, if_neg (fun e2 => h (e2.symm.trans e))]
    · rw [if_neg e, ih]
theorem get_upd_same {fs : List (ByteArray × α)} {n : ByteArray} {f g : α} (h : get fs n = some g) : get (upd fs n f) n = some f := by
  induction fs with
  | nil => cases h
  | cons p r ih =>
    simp only [upd, List.map_cons, get] at ih h ⊢
    by_cases e : p.1 = n
    · rw [if_pos e, if_pos rfl]
    · rw [if_neg e] at h ⊢
      rw [if_neg e]
      exact ih h
theorem mem_upd {fs : List (ByteArray × α)} {n : ByteArray} {f : α} {p : ByteArray × α} (h : p ∈ upd fs n f) : p = (n, f) ∨ p ∈ fs := by
  obtain ⟨q, hq, e⟩ := List.mem_map.1 h
  split at e
  · exact Or.inl e.symm
  · exact Or.inr (e ▸ hq)
theorem srt_del {fs : List (ByteArray × α)} (h : Srt fs) (n : ByteArray) : Srt (del fs n) := List.Pairwise.filter _ h
theorem len_del (fs : List (ByteArray × α)) (n : ByteArray) : (del fs n).length ≤ fs.length := List.length_filter_le _ _
theorem mem_del {fs : List (ByteArray × α)} {n : ByteArray} {p : ByteArray × α} (h : p ∈ del fs n) : p ∈ fs := (List.mem_filter.1 h).1
theorem get_del_other {fs : List (ByteArray × α)} {n m : ByteArray} (h : m ≠ n) : get (del fs n) m = get fs m := by
  induction fs with
  | nil => rfl
  | cons p r ih =>
    simp only [del, List.filter_cons, get] at ih ⊢
    by_cases e : p.1 = n
    · rw [if_neg (by simp [e]), ih, if_neg (fun e2 => h (e2.symm.trans e))]
    · rw [if_pos (by simp [e])]
      simp only [get]
      rw [ih]
theorem get_del_same (fs : List (ByteArray × α)) (n : ByteArray) : get (del fs n) n = none := by
  rw [get_none]
  intro h
  obtain ⟨p, hp, e⟩ := List.mem_map.1 h
  have := (List.mem_filter.1 hp).2
  simp [e] at this
theorem len_del_one : ∀ {fs : List (ByteArray × α)} {n : ByteArray} {f : α}, Srt fs → get fs n = some f → (del fs n).length + 1 = fs.length
  | p :: r, n, f, hs, h => by
    have hs' := List.pairwise_cons.1 hs
    simp only [del, List.filter_cons, get] at h ⊢
    by_cases e : p.1 = n
    · rw [if_neg (by simp [e])]
      have : r.filter (fun q => decide (q.1 ≠ n)) = r := by
        rw [List.filter_eq_self]
        intro q hq
        have := bl_ne (hs'.1 q hq)
        rw [e] at this
        simpa using this.symm
      rw [this]; rfl
    · rw [if_neg e] at h
      rw [if_pos (by simp [e])]
      have ih := len_del_one hs'.2 h
      simp only [del] at ih
      simp only [List.length_cons]
      omega

theorem mem_ins {n : ByteArray} {f : α} : ∀ {fs : List (ByteArray × α)} {p : ByteArray × α}, p ∈ ins n f fs ↔ p = (n, f) ∨ p ∈ fs
  | [], p => by simp [ins]
  | q :: r, p => by
    unfold ins
    split
    · simp only [List.mem_cons, mem_ins (fs := r)]
      exact ⟨fun h => by rcases h with h | h | h <;> simp [h], fun h => by rcases h with h | h | h <;> simp [h]⟩
    · simp only [List.mem_cons]
theorem len_ins (n : ByteArray) (f : α) : ∀ fs : List (ByteArray × α), (ins n f fs).length = fs.length + 1
  | [] => rfl
  | q :: r => by
    unfold ins
    split
    · simp only [List.length_cons, len_ins n f r]
    · rfl
theorem srt_ins {n : ByteArray} {f : α} : ∀ {fs : List (ByteArray × α)}, Srt fs → get fs n = none → Srt (ins n f fs)
  | [], _, _ => by simp [ins, Srt]
  | q :: r, hs, hg => by
    have hs' := List.pairwise_cons.1 hs
    unfold get at hg
    split at hg
    · cases hg
    · rename_i hne
      unfold ins
      split
      · rename_i hb
        refine List.pairwise_cons.2 ⟨fun p hp => ?_, srt_ins hs'.2 hg⟩
        rcases mem_ins.1 hp with rfl | h
        · exact hb
        · exact hs'.1 p h
      · rename_i hb
        have hqn := bl_other hb hne
        refine List.pairwise_cons.2 ⟨fun p hp => ?_, hs⟩
        rcases List.mem_cons.1 hp with rfl | h
        · exact hqn
        · exact bl_trans hqn (hs'.1 p h)
theorem get_ins_same {n : ByteArray} {f : α} {fs : List (ByteArray × α)} (hs : Srt fs) (hg : get fs n = none) : get (ins n f fs) n = some f :=
  get_of_mem (p := (n, f)) (srt_ins hs hg) (mem_ins.2 (Or.inl rfl))
theorem get_ins_other {n m : ByteArray} {f : α} (h : m ≠ n) : ∀ fs : List (ByteArray × α), get (ins n f fs) m = get fs m
  | [] => by simp [ins, get, Ne.symm h]
  | q :: r => by
    unfold ins
    split
    · simp only [get, get_ins_other h r]
    · simp only [get, if_neg (Ne.symm h)]

end

end Go.Proofs.YtikbokbmaihdbaaGreatDoor

namespace Go.Proofs.YtikbokbmaihdbaaGreatDoor

/-- A file; a disk: its room, how many calls its fuse leaves (none: no fuse), its files by rising names. -/
structure Fil where
  text : ByteArray
  loose : Nat
  fresh : Bool
structure Dsk where
  room : Nat
  fuse : Option Nat
  fs : List (ByteArray × Fil)

def used (fs : List (ByteArray × Fil)) : Nat := (fs.map fun p => p.2.text.size).sum
theorem used_upd : ∀ {fs : List (ByteArray × Fil)} {n : ByteArray} {f g : Fil}, Srt fs → get fs n = some g → used (upd fs n f) + g.text.size = used fs + f.text.size
  | p :: r, n, f, g, hs, h => by
    have hs' := List.pairwise_cons.1 hs
    simp only [used, upd, List.map_cons, List.sum_cons, get] at h ⊢
    by_cases e : p.1 = n
    · rw [if_pos e] at h ⊢
      cases h
      have hr : r.map (fun q => if q.1 = n then (n, f) else q) = r := by
        conv => rhs; rw [← List.map_id r]
        apply List.map_congr_left
        intro q hq
        rw [if_neg (fun e2 => bl_ne (hs'.1 q hq) (e.trans e2.symm))]; rfl
      rw [hr]
      simp only
      omega
    · rw [if_neg e] at h ⊢
      have ih := used_upd (f := f) hs'.2 h
      simp only [used, upd] at ih
      omega

theorem used_del (fs : List (ByteArray × Fil)) (n : ByteArray) : used (del fs n) ≤ used fs := by
  induction fs with
  | nil => simp [del, used]
  | cons p r ih =>
    simp only [del, used, List.filter_cons] at ih ⊢
    split
    · simp only [List.map_cons, List.sum_cons]; omega
    · simp only [List.map_cons, List.sum_cons]; omega
theorem used_ins (n : ByteArray) (f : Fil) : ∀ fs : List (ByteArray × Fil), used (ins n f fs) = used fs + f.text.size
  | [] => by simp [ins, used]
  | q :: r => by
    unfold ins
    have ih := used_ins n f r
    simp only [used] at ih ⊢
    split
    · simp only [List.map_cons, List.sum_cons, ih]; omega
    · simp only [List.map_cons, List.sum_cons]; omega

/-- A crash: file by file. -/
def kept (f : Fil) (k : Int) : Fil := ⟨f.text.extract 0 (f.text.size - f.loose + min k.toNat f.loose), 0, false⟩
def crs : List (ByteArray × Fil) → List Int → List (ByteArray × Fil)
  | [], _ => []
  | (n, f) :: r, ks =>
    if f.loose = 0 ∧ f.fresh = false then (n, f) :: crs r ks
    else if f.fresh = true ∧ ks.headD (-1) < 0 then crs r ks.tail
    else (n, kept f (ks.headD (-1))) :: crs r ks.tail

theorem crs_sub : ∀ (fs : List (ByteArray × Fil)) (ks : List Int), List.Sublist (names (crs fs ks)) (names fs)
  | [], _ => by simp [crs, names]
  | (n, f) :: r, ks => by
    unfold crs
    split
    · simpa [names] using crs_sub r ks
    · split
      · exact List.Sublist.cons _ (crs_sub r ks.tail)
      · simpa [names] using crs_sub r ks.tail
theorem srt_crs {fs : List (ByteArray × Fil)} (h : Srt fs) (ks : List Int) : Srt (crs fs ks) := by
  rw [srt_names] at h ⊢
  exact h.sublist (crs_sub fs ks)
theorem len_crs (fs : List (ByteArray × Fil)) (ks : List Int) : (crs fs ks).length ≤ fs.length := by
  have := (crs_sub fs ks).length_le
  simpa [names] using this
theorem kept_size (f : Fil) (k : Int) (h : f.loose ≤ f.text.size) : f.text.size - f.loose ≤ (kept f k).text.size ∧ (kept f k).text.size ≤ f.text.size := by
  simp only [kept, ByteArray.size_extract]
  omega
theorem used_crs : ∀ (fs : List (ByteArray × Fil)) (ks : List Int), used (crs fs ks) ≤ used fs
  | [], _ => by simp [crs]
  | (n, f) :: r, ks => by
    unfold crs
    have h1 := used_crs r ks
    have h2 := used_crs r ks.tail
    simp only [used] at h1 h2 ⊢
    split
    · simp only [List.map_cons, List.sum_cons]; omega
    · split
      · simp only [List.map_cons, List.sum_cons]; omega
      · have : (kept f (ks.headD (-1))).text.size ≤ f.text.size := by simp only [kept, ByteArray.size_extract]; omega
        simp only [List.map_cons, List.sum_cons]; omega
theorem calm_crs : ∀ (fs : List (ByteArray × Fil)) (ks : List Int), ∀ p ∈ crs fs ks, p.2.loose = 0 ∧ p.2.fresh = false
  | [], _, p, hp => by simp [crs] at hp
  | (n, f) :: r, ks, p, hp => by
    unfold crs at hp
    split at hp
    · rename_i h
      rcases List.mem_cons.1 hp with rfl | hp
      · exact h
      · exact calm_crs r ks p hp
    · split at hp
      · exact calm_crs r ks.tail p hp
      · rcases List.mem_cons.1 hp with rfl | hp
        · exact ⟨rfl, rfl⟩
        · exact calm_crs r ks.tail p hp
theorem crs_calm : ∀ (fs : List (ByteArray × Fil)) (ks : List Int), (∀ p ∈ fs, p.2.loose = 0 ∧ p.2.fresh = false) → crs fs ks = fs
  | [], _, _ => rfl
  | (n, f) :: r, ks, h => by
    have h1 := h (n, f) List.mem_cons_self
    rw [crs, if_pos h1, crs_calm r ks (fun p hp => h p (List.mem_cons_of_mem _ hp))]
/-- What a crash leaves of a file. -/
theorem get_crs : ∀ {fs : List (ByteArray × Fil)} {n : ByteArray} {f : Fil}, Srt fs → get fs n = some f → f.loose ≤ f.text.size → ∀ ks : List Int,
    (get (crs fs ks) n = none ∧ f.fresh = true) ∨ ∃ g, get (crs fs ks) n = some g ∧ g.loose = 0 ∧ ∃ m, f.text.size - f.loose ≤ m ∧ m ≤ f.text.size ∧ g.text = f.text.extract 0 m
  | (q, h) :: r, n, f, hs, hg, hl, ks => by
    have hs' := List.pairwise_cons.1 hs
    have hout : q = n → ∀ ks', get (crs r ks') n = none := fun e ks' => by
      rw [get_none]
      intro hm
      obtain ⟨p, hp, e2⟩ := List.mem_map.1 ((crs_sub r ks').subset hm)
      exact bl_ne (hs'.1 p hp) (e.trans e2.symm)
    simp only [get] at hg
    by_cases e : q = n
    · rw [if_pos e] at hg
      cases hg
      unfold crs
      split
      · rename_i hc
        right
        refine ⟨h, by simp only [get, if_pos e], hc.1, h.text.size, by omega, Nat.le_refl _, ?_⟩
        simp
      · split
        · rename_i hc
          exact Or.inl ⟨hout e _, hc.1⟩
        · right
          exact ⟨kept h (ks.headD (-1)), by simp only [get, if_pos e], rfl, h.text.size - h.loose + min (ks.headD (-1)).toNat h.loose, by omega, by omega, rfl⟩
    · rw [if_neg e] at hg
      unfold crs
      split
      · simp only [get, if_neg e]
        exact get_crs hs'.2 hg hl ks
      · split
        · exact get_crs hs'.2 hg hl ks.tail
        · simp only [get, if_neg e]
          exact get_crs hs'.2 hg hl ks.tail

end Go.Proofs.YtikbokbmaihdbaaGreatDoor

namespace Go.Proofs.YtikbokbmaihdbaaGreatDoor

def mayB (n : ByteArray) : Bool := decide (1 ≤ n.size) && decide (n.size ≤ 40) && n.data.toList.all fun c => (decide (97 ≤ c.toNat) && decide (c.toNat ≤ 122)) || (decide (48 ≤ c.toNat) && decide (c.toNat ≤ 57)) || decide (c.toNat = 45)
theorem mayB_size {n : ByteArray} (h : mayB n = true) : n.size ≤ 40 := by
  simp only [mayB, Bool.and_eq_true, decide_eq_true_eq] at h
  exact h.1.2
def burn (σ : Dsk) : Option Nat := σ.fuse.map (· - 1)

def create (σ : Dsk) (n : ByteArray) : Dsk × Nat :=
  if mayB n = false then (σ, 2) else if σ.fuse = some 0 then (σ, 70) else if (get σ.fs n).isSome then (σ, 7) else if 16 ≤ σ.fs.length then (σ, 6)
  else (⟨σ.room, burn σ, ins n ⟨⟨#[]⟩, 0, true⟩ σ.fs⟩, 0)
def append (σ : Dsk) (n t : ByteArray) : Dsk × Nat :=
  if σ.fuse = some 0 then (σ, 70) else match get σ.fs n with
    | none => (σ, 5)
    | some f => if σ.room < used σ.fs + t.size then (σ, 6) else (⟨σ.room, burn σ, upd σ.fs n ⟨f.text ++ t, f.loose + t.size, f.fresh⟩⟩, 0)
def sync (σ : Dsk) (n : ByteArray) : Dsk × Nat :=
  if σ.fuse = some 0 then (σ, 70) else match get σ.fs n with
    | none => (σ, 5)
    | some f => (⟨σ.room, burn σ, upd σ.fs n ⟨f.text, 0, false⟩⟩, 0)
def cut (σ : Dsk) (n : ByteArray) (k : Int) : Dsk × Nat :=
  if σ.fuse = some 0 then (σ, 70) else match get σ.fs n with
    | none => (σ, 5)
    | some f => if k < 0 ∨ (f.text.size : Int) < k then (σ, 2) else (⟨σ.room, burn σ, upd σ.fs n ⟨f.text.extract 0 k.toNat, 0, false⟩⟩, 0)
def remove (σ : Dsk) (n : ByteArray) : Dsk × Nat :=
  if σ.fuse = some 0 then (σ, 70) else match get σ.fs n with
    | none => (σ, 5)
    | some _ => (⟨σ.room, burn σ, del σ.fs n⟩, 0)
/-- One byte turned. -/
def turned (s : ByteArray) (k : Nat) (b : UInt8) : ByteArray := ⟨(s.data.toList.set k (UInt8.ofNat ((s.data.toList.getD k 0).toNat ^^^ b.toNat))).toArray⟩
theorem turned_size (s : ByteArray) (k : Nat) (b : UInt8) : (turned s k b).size = s.size := by
  show (s.data.toList.set k _).toArray.size = s.data.size
  rw [List.size_toArray, List.length_set, Array.length_toList]
def spoil (σ : Dsk) (n : ByteArray) (k : Int) (b : UInt8) : Dsk × Nat :=
  match get σ.fs n with
    | none => (σ, 5)
    | some f => if k < 0 ∨ (f.text.size : Int) ≤ k then (σ, 2) else (⟨σ.room, σ.fuse, upd σ.fs n ⟨turned f.text k.toNat b, f.loose, f.fresh⟩⟩, 0)
def fuse (σ : Dsk) (k : Int) : Dsk × Nat := if k < 0 then (σ, 2) else (⟨σ.room, some k.toNat, σ.fs⟩, 0)
def crash (σ : Dsk) (ks : List Int) : Dsk × Nat := (⟨σ.room, none, crs σ.fs ks⟩, 0)

/-- A step of a script. -/
structure Stp where
  what : Int
  name : ByteArray
  text : ByteArray
  n : Int
  by_ : UInt8
  keep : List Int
def stp (σ : Dsk) (p : Stp) : Dsk × Nat :=
  if p.what = 0 then create σ p.name else if p.what = 1 then append σ p.name p.text else if p.what = 2 then sync σ p.name else if p.what = 3 then cut σ p.name p.n
  else if p.what = 4 then remove σ p.name else if p.what = 5 then spoil σ p.name p.n p.by_ else if p.what = 6 then fuse σ p.n else if p.what = 7 then crash σ p.keep else (σ, 0)

structure Inv (σ : Dsk) : Prop where
  srt : Srt σ.fs
  few : σ.fs.length ≤ 16
  room : used σ.fs ≤ σ.room
  most : σ.room ≤ 4194304
  loose : ∀ p ∈ σ.fs, p.2.loose ≤ p.2.text.size ∧ (p.2.fresh = true → p.2.loose = p.2.text.size)
  short : ∀ p ∈ σ.fs, p.1.size ≤ 40

theorem Inv.get {σ : Dsk} (h : Inv σ) {n : ByteArray} {f : Fil} (hg : get σ.fs n = some f) : f.loose ≤ f.text.size ∧ (f.fresh = true → f.loose = f.text.size) := h.loose _ (get_mem hg)
theorem Inv.upd {σ : Dsk} (h : Inv σ) {n : ByteArray} {f g : Fil} (hg : Proofs.YtikbokbmaihdbaaGreatDoor.get σ.fs n = some f) (z : Option Nat) (hr : used σ.fs + g.text.size ≤ σ.room + f.text.size) (hl : g.loose ≤ g.text.size) (hf : g.fresh = true → g.loose = g.text.size) :
    Inv ⟨σ.room, z, Proofs.YtikbokbmaihdbaaGreatDoor.upd σ.fs n g⟩ := by
  refine ⟨srt_upd h.srt n g, by simp only [len_upd]; exact h.few, ?_, h.most, fun p hp => ?_, fun p hp => ?_⟩
  · have := used_upd (f := g) h.srt hg
    simp only
    omega
  · rcases mem_upd hp with rfl | hp
    · exact ⟨hl, hf⟩
    · exact h.loose p hp
  · rcases mem_upd hp with rfl | hp
    · exact h.short (n, f) (get_mem hg)
    · exact h.short p hp

theorem Inv.create {σ : Dsk} (h : Inv σ) (n : ByteArray) : Inv (create σ n).1 := by
  unfold Proofs.YtikbokbmaihdbaaGreatDoor.create
  split
  · exact h
  · rename_i hmay
    split
    · exact h
    · split
      · exact h
      · rename_i hg
        split
        · exact h
        · rename_i hf
          have hg' : Proofs.YtikbokbmaihdbaaGreatDoor.get σ.fs n = none := by simpa using hg
          refine ⟨srt_ins h.srt hg', by simp only [len_ins]; omega, ?_, h.most, fun p hp => ?_, fun p hp => ?_⟩
          · simp only [used_ins]; exact h.room
          · rcases mem_ins.1 hp with rfl | hp
            · exact ⟨Nat.le_refl _, fun _ => rfl⟩
            · exact h.loose p hp
          · rcases mem_ins.1 hp with rfl | hp
            · exact mayB_size (by simpa using hmay)
            · exact h.short p hp
theorem Inv.append {σ : Dsk} (h : Inv σ) (n t : ByteArray) : Inv (append σ n t).1 := by
  unfold Proofs.YtikbokbmaihdbaaGreatDoor.append
  split
  · exact h
  · split
    · exact h
    · rename_i f hg
      split
      · exact h
      · have hl := h.get hg
        refine h.upd hg _ ?_ ?_ ?_
        · simp only [ByteArray.size_append]; omega
        · simp only [ByteArray.size_append]; omega
        · simp only [ByteArray.size_append]; intro hf; have := hl.2 hf; omega
theorem Inv.sync {σ : Dsk} (h : Inv σ) (n : ByteArray) : Inv (sync σ n).1 := by
  unfold Proofs.YtikbokbmaihdbaaGreatDoor.sync
  split
  · exact h
  · split
    · exact h
    · rename_i f hg
      refine h.upd hg _ ?_ (Nat.zero_le _) (fun hf => by cases hf)
      have := h.room
      simp only
      omega
theorem Inv.cut {σ : Dsk} (h : Inv σ) (n : ByteArray) (k : Int) : Inv (cut σ n k).1 := by
  unfold Proofs.YtikbokbmaihdbaaGreatDoor.cut
  split
  · exact h
  · split
    · exact h
    · rename_i f hg
      split
      · exact h
      · refine h.upd hg _ ?_ (Nat.zero_le _) (fun hf => by cases hf)
        have := h.room
        simp only [ByteArray.size_extract]
        omega
theorem Inv.remove {σ : Dsk} (h : Inv σ) (n : ByteArray) : Inv (remove σ n).1 := by
  unfold Proofs.YtikbokbmaihdbaaGreatDoor.remove
  split
  · exact h
  · split
    · exact h
    · exact ⟨srt_del h.srt n, Nat.le_trans (len_del _ _) h.few, Nat.le_trans (used_del _ _) h.room, h.most, fun p hp => h.loose p (mem_del hp), fun p hp => h.short p (mem_del hp)⟩
theorem Inv.spoil {σ : Dsk} (h : Inv σ) (n : ByteArray) (k : Int) (b : UInt8) : Inv (spoil σ n k b).1 := by
  unfold Proofs.YtikbokbmaihdbaaGreatDoor.spoil
  split
  · exact h
  · rename_i f hg
    split
    · exact h
    · have hl := h.get hg
      have hr := h.room
      refine h.upd hg _ ?_ ?_ ?_
      · simp only [turned_size]; omega
      · simp only [turned_size]; exact hl.1
      · simp only [turned_size]; exact hl.2
theorem Inv.fuse {σ : Dsk} (h : Inv σ) (k : Int) : Inv (fuse σ k).1 := by
  unfold Proofs.YtikbokbmaihdbaaGreatDoor.fuse
  split
  · exact h
  · exact ⟨h.srt, h.few, h.room, h.most, h.loose, h.short⟩
theorem Inv.crash {σ : Dsk} (h : Inv σ) (ks : List Int) : Inv (crash σ ks).1 :=
  ⟨srt_crs h.srt ks, Nat.le_trans (len_crs _ _) h.few, Nat.le_trans (used_crs _ _) h.room, h.most, fun p hp => by
    have := calm_crs σ.fs ks p hp
    exact ⟨by omega, fun hf => by rw [this.2] at hf; cases hf⟩, fun p hp => by
    have h1 : p.1 ∈ names σ.fs := (crs_sub σ.fs ks).subset (List.mem_map.2 ⟨p, hp, rfl⟩)
    obtain ⟨q, hq, e⟩ := List.mem_map.1 h1
    rw [← e]
    exact h.short q hq⟩
theorem Inv.stp {σ : Dsk} (h : Inv σ) (p : Stp) : Inv (stp σ p).1 := by
  unfold Proofs.YtikbokbmaihdbaaGreatDoor.stp
  repeat' split
  · exact h.create _
  · exact h.append _ _
  · exact h.sync _
  · exact h.cut _ _
  · exact h.remove _
  · exact h.spoil _ _ _
  · exact h.fuse _
  · exact h.crash _
  · exact h
theorem Inv.fresh {room : Nat} (h : room ≤ 4194304) : Inv ⟨room, none, []⟩ := ⟨List.Pairwise.nil, by simp, by simp [used], h, (fun p hp => by cases hp), (fun p hp => by cases hp)⟩

/-- A call on one file leaves the others. -/
theorem stp_other (σ : Dsk) (p : Stp) (hp : p.what ≤ 5) (m : ByteArray) (hm : m ≠ p.name) : get (stp σ p).1.fs m = get σ.fs m := by
  unfold stp
  split
  · unfold create
    repeat' split
    all_goals first | rfl | exact get_ins_other hm _
  · split
    · unfold append
      repeat' split
      all_goals first | rfl | exact get_upd_other _ hm
    · split
      · unfold sync
        repeat' split
        all_goals first | rfl | exact get_upd_other _ hm
      · split
        · unfold cut
          repeat' split
          all_goals first | rfl | exact get_upd_other _ hm
        · split
          · unfold remove
            repeat' split
            all_goals first | rfl | exact get_del_other hm
          · split
            · unfold spoil
              repeat' split
              all_goals first | rfl | exact get_upd_other _ hm
            · rw [if_neg (by omega), if_neg (by omega)]
theorem stp_room (σ : Dsk) (p : Stp) : (stp σ p).1.room = σ.room := by
  unfold stp create append sync cut remove spoil fuse crash
  repeat' split
  all_goals rfl

theorem Inv.name {σ : Dsk} (h : Inv σ) {n : ByteArray} (hn : n ∈ names σ.fs) : n.size ≤ 40 := by
  obtain ⟨p, hp, rfl⟩ := List.mem_map.1 hn
  exact h.short p hp
/-- The k-th file. -/
theorem Inv.nth {σ : Dsk} (h : Inv σ) (k : Nat) (hk : k < (names σ.fs).length) : ∃ f, Proofs.YtikbokbmaihdbaaGreatDoor.get σ.fs (names σ.fs)[k] = some f ∧ used (σ.fs.take (k + 1)) = used (σ.fs.take k) + f.text.size := by
  have hk' : k < σ.fs.length := by simpa [names] using hk
  refine ⟨σ.fs[k].2, ?_, ?_⟩
  · have := get_of_mem h.srt (List.getElem_mem hk')
    simpa [names] using this
  · rw [List.take_succ_eq_append_getElem hk', used, List.map_append, List.sum_append]; simp [used]
theorem used_take (fs : List (ByteArray × Fil)) (k : Nat) : used (fs.take k) ≤ used fs := by
  have e : used fs = used (fs.take k) + used (fs.drop k) := by rw [used, used, used, ← List.sum_append, ← List.map_append, List.take_append_drop]
  omega
theorem Inv.rise {σ : Dsk} (h : Inv σ) (j k : Nat) (hj : j < k) (hk : k < (names σ.fs).length) : bl (names σ.fs)[j] (names σ.fs)[k] := by
  have := srt_names.1 h.srt
  exact List.pairwise_iff_getElem.1 this j k (by omega) hk hj

end Go.Proofs.YtikbokbmaihdbaaGreatDoor
