/-
  Layer 8, plain mathematics: what Open, Append, Sync make of a log and its disk.
-/
import Derived.Test.YtikbokbmaihdbaaDoorDModel
import Derived.Test.YtikbokbmaihdbaaDoorFPure
namespace Go.Proofs.YtikbokbmaihdbaaDoor

/-- A log: its records, how many of them are sure, whether it is broken. -/
structure Lg where
  recs : List ByteArray
  sure : Nat
  broken : Bool

/-- What is scanned in a file. -/
def scanOf (f : Fil) : List ByteArray × Nat × Nat := sc f.text.data.toList
def made (σ : Dsk) (n : ByteArray) : Dsk × Nat := if (get σ.fs n).isSome then (σ, 0) else create σ n
/-- The file is made to hold just its whole frames, all fast. -/
def fit (σ : Dsk) (n : ByteArray) (new : Bool) : Dsk × Nat :=
  match get σ.fs n with
  | none => (σ, 5)
  | some f => if (scanOf f).2.1 < f.text.size then cut σ n ((scanOf f).2.1 : Nat) else if new = true ∨ 0 < f.loose then sync σ n else (σ, 0)
def recsOf (σ : Dsk) (n : ByteArray) : List ByteArray := match get σ.fs n with | some f => (scanOf f).1 | none => []
def lopen (σ : Dsk) (n : ByteArray) : Dsk × Nat × List ByteArray :=
  if (made σ n).2 ≠ 0 then ((made σ n).1, (made σ n).2, [])
  else if (fit (made σ n).1 n (get σ.fs n).isNone).2 ≠ 0 then ((fit (made σ n).1 n (get σ.fs n).isNone).1, (fit (made σ n).1 n (get σ.fs n).isNone).2, [])
  else ((fit (made σ n).1 n (get σ.fs n).isNone).1, 0, recsOf (made σ n).1 n)
def lappend (σ : Dsk) (n : ByteArray) (l : Lg) (rs : List ByteArray) : Dsk × Lg × Nat :=
  if l.broken = true then (σ, l, 3) else if (rs.any fun r => decide (1048576 < r.size)) = true then (σ, l, 4) else if rs = [] then (σ, l, 0)
  else ((append σ n (str (frs rs))).1, if (append σ n (str (frs rs))).2 = 0 then ⟨l.recs ++ rs, l.sure, false⟩ else if (append σ n (str (frs rs))).2 = 6 then l else ⟨l.recs, l.sure, true⟩, (append σ n (str (frs rs))).2)
def lsync (σ : Dsk) (n : ByteArray) (l : Lg) : Dsk × Lg × Nat :=
  if l.broken = true then (σ, l, 3)
  else ((sync σ n).1, if (sync σ n).2 = 0 then ⟨l.recs, l.recs.length, false⟩ else ⟨l.recs, l.sure, true⟩, (sync σ n).2)
def llen (l : Lg) : Nat := (frs l.recs).length

theorem Inv.made {σ : Dsk} (h : Inv σ) (n : ByteArray) : Inv (made σ n).1 := by
  unfold Proofs.YtikbokbmaihdbaaDoor.made
  split
  · exact h
  · exact h.create n
theorem Inv.fit {σ : Dsk} (h : Inv σ) (n : ByteArray) (new : Bool) : Inv (fit σ n new).1 := by
  unfold Proofs.YtikbokbmaihdbaaDoor.fit
  split
  · exact h
  · split
    · exact h.cut n _
    · split
      · exact h.sync n
      · exact h
theorem Inv.lopen {σ : Dsk} (h : Inv σ) (n : ByteArray) : Inv (lopen σ n).1 := by
  unfold Proofs.YtikbokbmaihdbaaDoor.lopen
  split
  · exact h.made n
  · split
    · exact (h.made n).fit n _
    · exact (h.made n).fit n _
theorem room_create (σ : Dsk) (n : ByteArray) : (create σ n).1.room = σ.room := by
  unfold create
  repeat' split
  all_goals rfl
theorem room_cut (σ : Dsk) (n : ByteArray) (k : Int) : (cut σ n k).1.room = σ.room := by
  unfold cut
  repeat' split
  all_goals rfl
theorem room_sync (σ : Dsk) (n : ByteArray) : (sync σ n).1.room = σ.room := by
  unfold sync
  repeat' split
  all_goals rfl
theorem room_append (σ : Dsk) (n t : ByteArray) : (append σ n t).1.room = σ.room := by
  unfold append
  repeat' split
  all_goals rfl
theorem room_made (σ : Dsk) (n : ByteArray) : (made σ n).1.room = σ.room := by
  unfold made
  split
  · rfl
  · exact room_create σ n
theorem room_fit (σ : Dsk) (n : ByteArray) (new : Bool) : (fit σ n new).1.room = σ.room := by
  unfold fit
  split
  · rfl
  · split
    · exact room_cut _ _ _
    · split
      · exact room_sync _ _
      · rfl
theorem room_lopen (σ : Dsk) (n : ByteArray) : (lopen σ n).1.room = σ.room := by
  unfold lopen
  split
  · exact room_made σ n
  · split
    · rw [room_fit, room_made]
    · rw [room_fit, room_made]
theorem room_lappend (σ : Dsk) (n : ByteArray) (l : Lg) (rs : List ByteArray) : (lappend σ n l rs).1.room = σ.room := by
  unfold lappend
  repeat' split
  all_goals first | rfl | exact room_append _ _ _
theorem room_lsync (σ : Dsk) (n : ByteArray) (l : Lg) : (lsync σ n l).1.room = σ.room := by
  unfold lsync
  repeat' split
  all_goals first | rfl | exact room_sync _ _

/-- A file whose bytes are just whole frames. -/
theorem scan_frs (rs : List ByteArray) (h : ∀ t ∈ rs, t.size ≤ 1048576) (lo : Nat) (fr : Bool) : scanOf ⟨str (frs rs), lo, fr⟩ = (rs, (frs rs).length, 0) := by
  unfold scanOf
  exact sc_frs rs h
theorem frs_append (a b : List ByteArray) : frs (a ++ b) = frs a ++ frs b := List.flatMap_append
theorem str_frs_size (rs : List ByteArray) : (str (frs rs)).size = (frs rs).length := str_size _

end Go.Proofs.YtikbokbmaihdbaaDoor
