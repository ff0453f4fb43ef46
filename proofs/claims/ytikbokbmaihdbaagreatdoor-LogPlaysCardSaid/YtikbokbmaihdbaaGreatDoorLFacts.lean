/-
  Layer 8, plain mathematics: what Open, Append, Sync make of a log and its disk.
  Layer 8, plain mathematics: what Open, Append, Sync come to where the disk does not stand still.
-/
import Derived.Test.YtikbokbmaihdbaaGreatDoorDModel
import Derived.Test.YtikbokbmaihdbaaGreatDoorFTot
namespace Go.Proofs.YtikbokbmaihdbaaGreatDoor

/-- A log: its records, how many of them are sure, whether it is broken. -/
structure Lg where
  recs : List ByteArray
  sure : Nat
  broken : Bool

/-- What is scanned in a file. -/
def scanOf (f : Fil) : List ByteArray × Nat × Nat := sc f.text.data.toList
def made (σ : Dsk) (n : ByteArray) : Dsk × Nat := if (get σ.fs n).isSome then (σ, 0) else create σ n
/-- The file is made to hold just its whole frames, all fast. -/
def fit (σ : Dsk) (n : ByteArray) (new : Bool) : Dsk × Nat :=
  match get σ.fs n with
  | none => (σ, 5)
  | some f => if (scanOf f).2.1 < f.text.size then cut σ n ((scanOf f).2.1 : Nat) else if new = true ∨ 0 < f.loose then sync σ n else (σ, 0)
def recsOf (σ : Dsk) (n : ByteArray) : List ByteArray := match get σ.fs n with | some f => (scanOf f).1 | none => []
def lopen (σ : Dsk) (n : ByteArray) : Dsk × Nat × List ByteArray :=
  if (made σ n).2 ≠ 0 then ((made σ n).1, (made σ n).2, [])
  else if (fit (made σ n).1 n (get σ.fs n).isNone).2 ≠ 0 then ((fit (made σ n).1 n (get σ.fs n).isNone).1, (fit (made σ n).1 n (get σ.fs n).isNone).2, [])
  else ((fit (made σ n).1 n (get σ.fs n).isNone).1, 0, recsOf (made σ n).1 n)
def lappend (σ : Dsk) (n : ByteArray) (l : Lg) (rs : List ByteArray) : Dsk × Lg × Nat :=
  if l.broken = true then (σ, l, 3) else if (rs.any fun r => decide (1048576 < r.size)) = true then (σ, l, 4) else if rs = [] then (σ, l, 0)
  else ((append σ n (str (frs rs))).1, if (append σ n (str (frs rs))).2 = 0 then ⟨l.recs ++ rs, l.sure, false⟩ else if (append σ n (str (frs rs))).2 = 6 then l else ⟨l.recs, l.sure, true⟩, (append σ n (str (frs rs))).2)
def lsync (σ : Dsk) (n : ByteArray) (l : Lg) : Dsk × Lg × Nat :=
  if l.broken = true then (σ, l, 3)
  else ((sync σ n).1, if (sync σ n).2 = 0 then ⟨l.recs, l.recs.length, false⟩ else ⟨l.recs, l.sure, true⟩, (sync σ n).2)
def llen (l : Lg) : Nat := (frs l.recs).length

theorem Inv.made {σ : Dsk} (h : Inv σ) (n : ByteArray) : Inv (made σ n).1 := by
  unfold Proofs.YtikbokbmaihdbaaGreatDoor.made
  split
  · exact h
  · exact h.create n
theorem Inv.fit {σ : Dsk} (h : Inv σ) (n : ByteArray) (new : Bool) : Inv (fit σ n new).1 := by
  unfold Proofs.YtikbokbmaihdbaaGreatDoor.fit
  split
  · exact h
  · split
    · exact h.cut n _
    · split
      · exact h.sync n
      · exact h
theorem Inv.lopen {σ : Dsk} (h : Inv σ) (n : ByteArray) : Inv (lopen σ n).1 := by
  unfold Proofs.YtikbokbmaihdbaaGreatDoor.lopen
  split
  · exact h.made n
  · split
    · exact (h.made n).fit n _
    · exact (h.made n).fit n _
theorem room_create (σ : Dsk) (n : ByteArray) : (create σ n).1.room = σ.room := by
  unfold create
  repeat' split
  all_goals rfl
theorem room_cut (σ : Dsk) (n : ByteArray) (k : Int) : (cut σ n k).1.room = σ.room := by
  unfold cut
  repeat' split
  all_goals rfl
theorem room_sync (σ : Dsk) (n : ByteArray) : (sync σ n).1.room = σ.room := by
  unfold sync
  repeat' split
  all_goals rfl
theorem room_append (σ : Dsk) (n t : ByteArray) : (append σ n t).1.room = σ.room := by
  unfold append
  repeat' split
  all_goals rfl
theorem room_made (σ : Dsk) (n : ByteArray) : (made σ n).1.room = σ.room := by
  unfold made
  split
  · rfl
  · exact room_create σ n
theorem room_fit (σ : Dsk) (n : ByteArray) (new : Bool) : (fit σ n new).1.room = σ.room := by
  unfold fit
  split
  · rfl
  · split
    · exact room_cut _ _ _
    · split
      · exact room_sync _ _
      · rfl
theorem room_lopen (σ : Dsk) (n : ByteArray) : (lopen σ n).1.room = σ.room := by
  unfold lopen
  split
  · exact room_made σ n
  · split
    · rw [room_fit, room_made]
    · rw [room_fit, room_made]
theorem room_lappend (σ : Dsk) (n : ByteArray) (l : Lg) (rs : List ByteArray) : (lappend σ n l rs).1.room = σ.room := by
  unfold lappend
  repeat' split
  all_goals first | rfl | exact room_append _ _ _
theorem room_lsync (σ : Dsk) (n : ByteArray) (l : Lg) : (lsync σ n l).1.room = σ.room := by
  unfold lsync
  repeat' split
  all_goals first | rfl | exact room_sync _ _

/-- A file whose bytes are just whole frames. -/
theorem scan_frs (rs : List ByteArray) (h : ∀ t ∈ rs, t.size ≤ 1048576) (lo : Nat) (fr : Bool) : scanOf ⟨str (frs rs), lo, fr⟩ = (rs, (frs rs).length, 0) := by
  unfold scanOf
  exact sc_frs rs h
theorem frs_append (a b : List ByteArray) : frs (a ++ b) = frs a ++ frs b := List.flatMap_append
theorem str_frs_size (rs : List ByteArray) : (str (frs rs)).size = (frs rs).length := str_size _

end Go.Proofs.YtikbokbmaihdbaaGreatDoor

namespace Go.Proofs.YtikbokbmaihdbaaGreatDoor

theorem burn_none {σ : Dsk} (hz : σ.fuse = none) : burn σ = none := by unfold burn; rw [hz]; rfl
theorem append_fits {σ : Dsk} {n t : ByteArray} {f : Fil} (hz : σ.fuse = none) (hg : get σ.fs n = some f) (hr : used σ.fs + t.size ≤ σ.room) : append σ n t = (⟨σ.room, none, upd σ.fs n ⟨f.text ++ t, f.loose + t.size, f.fresh⟩⟩, 0) := by
  unfold append
  rw [if_neg (by rw [hz]; simp), hg]
  dsimp only
  rw [if_neg (by omega), burn_none hz]
theorem append_full {σ : Dsk} {n t : ByteArray} {f : Fil} (hz : σ.fuse = none) (hg : get σ.fs n = some f) (hr : σ.room < used σ.fs + t.size) : append σ n t = (σ, 6) := by
  unfold append
  rw [if_neg (by rw [hz]; simp), hg]
  dsimp only
  rw [if_pos hr]
theorem sync_fine {σ : Dsk} {n : ByteArray} {f : Fil} (hz : σ.fuse = none) (hg : get σ.fs n = some f) : sync σ n = (⟨σ.room, none, upd σ.fs n ⟨f.text, 0, false⟩⟩, 0) := by
  unfold sync
  rw [if_neg (by rw [hz]; simp), hg, burn_none hz]
theorem cut_fine {σ : Dsk} {n : ByteArray} {f : Fil} {k : Nat} (hz : σ.fuse = none) (hg : get σ.fs n = some f) (hk : k ≤ f.text.size) : cut σ n (k : Nat) = (⟨σ.room, none, upd σ.fs n ⟨f.text.extract 0 k, 0, false⟩⟩, 0) := by
  unfold cut
  rw [if_neg (by rw [hz]; simp), hg]
  dsimp only
  rw [if_neg (by omega), burn_none hz, Int.toNat_natCast]
theorem short_any {rs : List ByteArray} (hs : ∀ r ∈ rs, r.size ≤ 1048576) : (rs.any fun r => decide (1048576 < r.size)) = false := by
  rw [List.any_eq_false]
  intro r hr
  have := hs r hr
  simp; omega
theorem lappend_fits {σ : Dsk} {n : ByteArray} {f : Fil} {l : Lg} {rs : List ByteArray} (hz : σ.fuse = none) (hg : get σ.fs n = some f) (hb : l.broken = false) (hs : ∀ r ∈ rs, r.size ≤ 1048576) (hne : rs ≠ []) (hr : used σ.fs + (frs rs).length ≤ σ.room) :
    lappend σ n l rs = (⟨σ.room, none, upd σ.fs n ⟨f.text ++ str (frs rs), f.loose + (frs rs).length, f.fresh⟩⟩, ⟨l.recs ++ rs, l.sure, false⟩, 0) := by
  have ha := append_fits (t := str (frs rs)) hz hg (by rw [str_frs_size]; exact hr)
  rw [str_frs_size] at ha
  unfold lappend
  rw [if_neg (by rw [hb]; simp), if_neg (by rw [short_any hs]; simp), if_neg hne, ha]
  rfl
theorem lappend_full {σ : Dsk} {n : ByteArray} {f : Fil} {l : Lg} {rs : List ByteArray} (hz : σ.fuse = none) (hg : get σ.fs n = some f) (hb : l.broken = false) (hs : ∀ r ∈ rs, r.size ≤ 1048576) (hne : rs ≠ []) (hr : σ.room < used σ.fs + (frs rs).length) :
    lappend σ n l rs = (σ, l, 6) := by
  have ha := append_full (t := str (frs rs)) hz hg (by rw [str_frs_size]; exact hr)
  unfold lappend
  rw [if_neg (by rw [hb]; simp), if_neg (by rw [short_any hs]; simp), if_neg hne, ha]
  rfl
theorem lappend_none {σ : Dsk} {n : ByteArray} {l : Lg} (hb : l.broken = false) : lappend σ n l [] = (σ, l, 0) := by
  unfold lappend
  rw [if_neg (by rw [hb]; simp)]
  rfl
theorem lsync_fine {σ : Dsk} {n : ByteArray} {f : Fil} {l : Lg} (hz : σ.fuse = none) (hg : get σ.fs n = some f) (hb : l.broken = false) : lsync σ n l = (⟨σ.room, none, upd σ.fs n ⟨f.text, 0, false⟩⟩, ⟨l.recs, l.recs.length, false⟩, 0) := by
  unfold lsync
  rw [if_neg (by rw [hb]; simp), sync_fine hz hg]
  rfl
theorem lopen_eq {σ σ1 σ2 : Dsk} {n : ByteArray} (h1 : made σ n = (σ1, 0)) (h2 : fit σ1 n (get σ.fs n).isNone = (σ2, 0)) : lopen σ n = (σ2, 0, recsOf σ1 n) := by
  simp only [lopen, h1, h2, ne_eq, not_true_eq_false, if_false]
theorem lopen_new {σ : Dsk} {n : ByteArray} (hs : Srt σ.fs) (hz : σ.fuse = none) (hm : mayB n = true) (hg : get σ.fs n = none) (hf : σ.fs.length < 16) : lopen σ n = (⟨σ.room, none, upd (ins n ⟨⟨#[]⟩, 0, true⟩ σ.fs) n ⟨⟨#[]⟩, 0, false⟩⟩, 0, []) := by
  have h1 : made σ n = (⟨σ.room, none, ins n ⟨⟨#[]⟩, 0, true⟩ σ.fs⟩, 0) := by
    unfold made create
    rw [hg, if_neg (by simp), if_neg (by rw [hm]; simp), if_neg (by rw [hz]; simp), if_neg (by simp), if_neg (by omega), burn_none hz]
  have hg1 : get (ins n (⟨⟨#[]⟩, 0, true⟩ : Fil) σ.fs) n = some ⟨⟨#[]⟩, 0, true⟩ := get_ins_same hs hg
  have h2 : fit (⟨σ.room, none, ins n ⟨⟨#[]⟩, 0, true⟩ σ.fs⟩ : Dsk) n true = (⟨σ.room, none, upd (ins n ⟨⟨#[]⟩, 0, true⟩ σ.fs) n ⟨⟨#[]⟩, 0, false⟩⟩, 0) := by
    unfold fit
    dsimp only
    rw [hg1]
    dsimp only
    rw [if_neg (show ¬ _ < (⟨#[]⟩ : ByteArray).size from Nat.not_lt_zero _), if_pos (Or.inl rfl)]
    exact sync_fine (σ := ⟨σ.room, none, ins n ⟨⟨#[]⟩, 0, true⟩ σ.fs⟩) rfl hg1
  rw [lopen_eq h1 (by rw [hg]; exact h2)]
  unfold recsOf
  dsimp only
  rw [hg1]
  rfl
theorem lopen_old {σ : Dsk} {n : ByteArray} {f : Fil} {ts : List ByteArray} {er : Nat} (hz : σ.fuse = none) (hg : get σ.fs n = some f) (hs : scanOf f = (ts, f.text.size, er)) :
    lopen σ n = (if 0 < f.loose then ⟨σ.room, none, upd σ.fs n ⟨f.text, 0, false⟩⟩ else σ, 0, ts) := by
  have h1 : made σ n = (σ, 0) := by unfold made; rw [hg]; rfl
  have h2 : fit σ n false = (if 0 < f.loose then ⟨σ.room, none, upd σ.fs n ⟨f.text, 0, false⟩⟩ else σ, 0) := by
    unfold fit
    rw [hg]
    dsimp only
    rw [hs, if_neg (by simp)]
    by_cases h0 : 0 < f.loose
    · rw [if_pos (Or.inr h0), if_pos h0]
      exact sync_fine hz hg
    · rw [if_neg (by simp; omega), if_neg h0]
  rw [lopen_eq h1 (by rw [hg]; exact h2)]
  unfold recsOf
  rw [hg]
  dsimp only
  rw [hs]
theorem lopen_cut {σ : Dsk} {n : ByteArray} {f : Fil} {ts : List ByteArray} {k er : Nat} (hz : σ.fuse = none) (hg : get σ.fs n = some f) (hs : scanOf f = (ts, k, er)) (hk : k < f.text.size) :
    lopen σ n = (⟨σ.room, none, upd σ.fs n ⟨f.text.extract 0 k, 0, false⟩⟩, 0, ts) := by
  have h1 : made σ n = (σ, 0) := by unfold made; rw [hg]; rfl
  have h2 : fit σ n false = (⟨σ.room, none, upd σ.fs n ⟨f.text.extract 0 k, 0, false⟩⟩, 0) := by
    unfold fit
    rw [hg]
    dsimp only
    rw [hs, if_pos hk]
    exact cut_fine hz hg (Nat.le_of_lt hk)
  rw [lopen_eq h1 (by rw [hg]; exact h2)]
  unfold recsOf
  rw [hg]
  dsimp only
  rw [hs]

end Go.Proofs.YtikbokbmaihdbaaGreatDoor
