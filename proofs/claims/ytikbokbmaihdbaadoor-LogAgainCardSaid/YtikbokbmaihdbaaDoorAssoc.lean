/-
  Lists of names with what stands at each, rising by names.
-/
import Derived.Test.YtikbokbmaihdbaaDoorProg
namespace Go.Proofs.YtikbokbmaihdbaaDoor

def bl (a b : ByteArray) : Prop := a.data.toList < b.data.toList
instance (a b : ByteArray) : Decidable (bl a b) := inferInstanceAs (Decidable (a.data.toList < b.data.toList))
theorem bl_irrefl (a : ByteArray) : ¬ bl a a := List.lt_irrefl _
theorem bl_trans {a b c : ByteArray} (h : bl a b) (k : bl b c) : bl a c := List.lt_trans h k
theorem bl_ne {a b : ByteArray} (h : bl a b) : a ≠ b := fun e => bl_irrefl b (by rw [e] at h; exact h)
theorem bl_other {a b : ByteArray} (h : ¬ bl a b) (hn : a ≠ b) : bl b a := by
  by_cases k : bl b a
  · exact k
  · exact absurd (by
      have e : a.data.toList = b.data.toList := List.le_antisymm k h
      exact ByteArray.ext (Array.toList_inj.1 e)) hn

def get {α : Type} : List (ByteArray × α) → ByteArray → Option α
  | [], _ => none
  | p :: r, n => if p.1 = n then some p.2 else get r n
def upd {α : Type} (fs : List (ByteArray × α)) (n : ByteArray) (f : α) : List (ByteArray × α) := fs.map fun p => if p.1 = n then (n, f) else p
def del {α : Type} (fs : List (ByteArray × α)) (n : ByteArray) : List (ByteArray × α) := fs.filter fun p => decide (p.1 ≠ n)
def ins {α : Type} (n : ByteArray) (f : α) : List (ByteArray × α) → List (ByteArray × α)
  | [] => [(n, f)]
  | p :: r => if bl p.1 n then p :: ins n f r else (n, f) :: p :: r
def names {α : Type} (fs : List (ByteArray × α)) : List ByteArray := fs.map (·.1)
def Srt {α : Type} (fs : List (ByteArray × α)) : Prop := fs.Pairwise fun p q => bl p.1 q.1

section
variable {α : Type}
theorem get_mem : ∀ {fs : List (ByteArray × α)} {n : ByteArray} {f : α}, get fs n = some f → (n, f) ∈ fs
  | p :: r, n, f, h => by
    unfold get at h
    split at h
    · rename_i e
      simp only [Option.some.injEq] at h
      subst e h
      exact List.mem_cons_self
    · exact List.mem_cons_of_mem _ (get_mem h)
theorem get_none {fs : List (ByteArray × α)} {n : ByteArray} : get fs n = none ↔ n ∉ names fs := by
  induction fs with
  | nil => simp [get, names]
  | cons p r ih =>
    unfold get
    split
    · rename_i e
      simp [names, e]
    · rename_i e
      rw [ih]
      simp only [names, List.map_cons, List.mem_cons, not_or]
      exact ⟨fun h => ⟨fun e2 => e e2.symm, h⟩, fun h => h.2⟩
theorem get_of_mem : ∀ {fs : List (ByteArray × α)}, Srt fs → ∀ {p : ByteArray × α}, p ∈ fs → get fs p.1 = some p.2
  | q :: r, hs, p, hp => by
    unfold get
    rcases List.mem_cons.1 hp with rfl | h
    · rw [if_pos rfl]
    · have := (List.pairwise_cons.1 hs).1 p h
      rw [if_neg (bl_ne this)]
      exact get_of_mem (List.pairwise_cons.1 hs).2 h

theorem names_upd (fs : List (ByteArray × α)) (n : ByteArray) (f : α) : names (upd fs n f) = names fs := by
  simp only [names, upd, List.map_map]
  apply List.map_congr_left
  intro p _
  simp only [Function.comp]
  split
  · rename_i e; exact e.symm
  · rfl
theorem len_upd (fs : List (ByteArray × α)) (n : ByteArray) (f : α) : (upd fs n f).length = fs.length := by simp [upd]
theorem srt_names {fs : List (ByteArray × α)} : Srt fs ↔ (names fs).Pairwise bl := by simp only [Srt, names, List.pairwise_map]
theorem srt_upd {fs : List (ByteArray × α)} (h : Srt fs) (n : ByteArray) (f : α) : Srt (upd fs n f) := by
  rw [srt_names, names_upd, ← srt_names]; exact h
theorem get_upd_other {fs : List (ByteArray × α)} {n m : ByteArray} (f : α) (h : m ≠ n) : get (upd fs n f) m = get fs m := by
  induction fs with
  | nil => rfl
  | cons p r ih =>
    simp only [upd, List.map_cons, get] at ih ⊢
    by_cases e : p.1 = n
    · rw [if_pos e, if_neg (fun e2 => h e2.symm), ih, if_neg (fun e2 => h (e2.symm.trans e))]
    · rw [if_neg e, ih]
theorem get_upd_same {fs : List (ByteArray × α)} {n : ByteArray} {f g : α} (h : get fs n = some g) : get (upd fs n f) n = some f := by
  induction fs with
  | nil => cases h
  | cons p r ih =>
    simp only [upd, List.map_cons, get] at ih h ⊢
    by_cases e : p.1 = n
    · rw [if_pos e, if_pos rfl]
    · rw [if_neg e] at h ⊢
      rw [if_neg e]
      exact ih h
theorem mem_upd {fs : List (ByteArray × α)} {n : ByteArray} {f : α} {p : ByteArray × α} (h : p ∈ upd fs n f) : p = (n, f) ∨ p ∈ fs := by
  obtain ⟨q, hq, e⟩ := List.mem_map.1 h
  split at e
  · exact Or.inl e.symm
  · exact Or.inr (e ▸ hq)
theorem srt_del {fs : List (ByteArray × α)} (h : Srt fs) (n : ByteArray) : Srt (del fs n) := List.Pairwise.filter _ h
theorem len_del (fs : List (ByteArray × α)) (n : ByteArray) : (del fs n).length ≤ fs.length := List.length_filter_le _ _
theorem mem_del {fs : List (ByteArray × α)} {n : ByteArray} {p : ByteArray × α} (h : p ∈ del fs n) : p ∈ fs := (List.mem_filter.1 h).1
theorem get_del_other {fs : List (ByteArray × α)} {n m : ByteArray} (h : m ≠ n) : get (del fs n) m = get fs m := by
  induction fs with
  | nil => rfl
  | cons p r ih =>
    simp only [del, List.filter_cons, get] at ih ⊢
    by_cases e : p.1 = n
    · rw [if_neg (by simp [e]), ih, if_neg (fun e2 => h (e2.symm.trans e))]
    · rw [if_pos (by simp [e])]
      simp only [get]
      rw [ih]
theorem get_del_same (fs : List (ByteArray × α)) (n : ByteArray) : get (del fs n) n = none := by
  rw [get_none]
  intro h
  obtain ⟨p, hp, e⟩ := List.mem_map.1 h
  have := (List.mem_filter.1 hp).2
  simp [e] at this
theorem len_del_one : ∀ {fs : List (ByteArray × α)} {n : ByteArray} {f : α}, Srt fs → get fs n = some f → (del fs n).length + 1 = fs.length
  | p :: r, n, f, hs, h => by
    have hs' := List.pairwise_cons.1 hs
    simp only [del, List.filter_cons, get] at h ⊢
    by_cases e : p.1 = n
    · rw [if_neg (by simp [e])]
      have : r.filter (fun q => decide (q.1 ≠ n)) = r := by
        rw [List.filter_eq_self]
        intro q hq
        have := bl_ne (hs'.1 q hq)
        rw [e] at this
        simpa using this.symm
      rw [this]; rfl
    · rw [if_neg e] at h
      rw [if_pos (by simp [e])]
      have ih := len_del_one hs'.2 h
      simp only [del] at ih
      simp only [List.length_cons]
      omega

theorem mem_ins {n : ByteArray} {f : α} : ∀ {fs : List (ByteArray × α)} {p : ByteArray × α}, p ∈ ins n f fs ↔ p = (n, f) ∨ p ∈ fs
  | [], p => by simp [ins]
  | q :: r, p => by
    unfold ins
    split
    · simp only [List.mem_cons, mem_ins (fs := r)]
      exact ⟨fun h => by rcases h with h | h | h <;> simp [h], fun h => by rcases h with h | h | h <;> simp [h]⟩
    · simp only [List.mem_cons]
theorem len_ins (n : ByteArray) (f : α) : ∀ fs : List (ByteArray × α), (ins n f fs).length = fs.length + 1
  | [] => rfl
  | q :: r => by
    unfold ins
    split
    · simp only [List.length_cons, len_ins n f r]
    · rfl
theorem srt_ins {n : ByteArray} {f : α} : ∀ {fs : List (ByteArray × α)}, Srt fs → get fs n = none → Srt (ins n f fs)
  | [], _, _ => by simp [ins, Srt]
  | q :: r, hs, hg => by
    have hs' := List.pairwise_cons.1 hs
    unfold get at hg
    split at hg
    · cases hg
    · rename_i hne
      unfold ins
      split
      · rename_i hb
        refine List.pairwise_cons.2 ⟨fun p hp => ?_, srt_ins hs'.2 hg⟩
        rcases mem_ins.1 hp with rfl | h
        · exact hb
        · exact hs'.1 p h
      · rename_i hb
        have hqn := bl_other hb hne
        refine List.pairwise_cons.2 ⟨fun p hp => ?_, hs⟩
        rcases List.mem_cons.1 hp with rfl | h
        · exact hqn
        · exact bl_trans hqn (hs'.1 p h)
theorem get_ins_same {n : ByteArray} {f : α} {fs : List (ByteArray × α)} (hs : Srt fs) (hg : get fs n = none) : get (ins n f fs) n = some f :=
  get_of_mem (p := (n, f)) (srt_ins hs hg) (mem_ins.2 (Or.inl rfl))
theorem get_ins_other {n m : ByteArray} {f : α} (h : m ≠ n) : ∀ fs : List (ByteArray × α), get (ins n f fs) m = get fs m
  | [] => by simp [ins, get, Ne.symm h]
  | q :: r => by
    unfold ins
    split
    · simp only [get, get_ins_other h r]
    · simp only [get, if_neg (Ne.symm h)]

end

end Go.Proofs.YtikbokbmaihdbaaDoor
