/-
  Layer 7: what each call makes of a disk; what holds of every disk.
-/
import Derived.Test.YtikbokbmaihdbaaDoorDPure
namespace Go.Proofs.YtikbokbmaihdbaaDoor

def mayB (n : ByteArray) : Bool := decide (1 ≤ n.size) && decide (n.size ≤ 40) && n.data.toList.all fun c => (decide (97 ≤ c.toNat) && decide (c.toNat ≤ 122)) || (decide (48 ≤ c.toNat) && decide (c.toNat ≤ 57)) || decide (c.toNat = 45)
theorem mayB_size {n : ByteArray} (h : mayB n = true) : n.size ≤ 40 := by
  simp only [mayB, Bool.and_eq_true, decide_eq_true_eq] at h
  exact h.1.2
def burn (σ : Dsk) : Option Nat := σ.fuse.map (· - 1)

def create (σ : Dsk) (n : ByteArray) : Dsk × Nat :=
  if mayB n = false then (σ, 2) else if σ.fuse = some 0 then (σ, 70) else if (get σ.fs n).isSome then (σ, 7) else if 16 ≤ σ.fs.length then (σ, 6)
  else (⟨σ.room, burn σ, ins n ⟨⟨#[]⟩, 0, true⟩ σ.fs⟩, 0)
def append (σ : Dsk) (n t : ByteArray) : Dsk × Nat :=
  if σ.fuse = some 0 then (σ, 70) else match get σ.fs n with
    | none => (σ, 5)
    | some f => if σ.room < used σ.fs + t.size then (σ, 6) else (⟨σ.room, burn σ, upd σ.fs n ⟨f.text ++ t, f.loose + t.size, f.fresh⟩⟩, 0)
def sync (σ : Dsk) (n : ByteArray) : Dsk × Nat :=
  if σ.fuse = some 0 then (σ, 70) else match get σ.fs n with
    | none => (σ, 5)
    | some f => (⟨σ.room, burn σ, upd σ.fs n ⟨f.text, 0, false⟩⟩, 0)
def cut (σ : Dsk) (n : ByteArray) (k : Int) : Dsk × Nat :=
  if σ.fuse = some 0 then (σ, 70) else match get σ.fs n with
    | none => (σ, 5)
    | some f => if k < 0 ∨ (f.text.size : Int) < k then (σ, 2) else (⟨σ.room, burn σ, upd σ.fs n ⟨f.text.extract 0 k.toNat, 0, false⟩⟩, 0)
def remove (σ : Dsk) (n : ByteArray) : Dsk × Nat :=
  if σ.fuse = some 0 then (σ, 70) else match get σ.fs n with
    | none => (σ, 5)
    | some _ => (⟨σ.room, burn σ, del σ.fs n⟩, 0)
/-- One byte turned. -/
def turned (s : ByteArray) (k : Nat) (b : UInt8) : ByteArray := ⟨(s.data.toList.set k (UInt8.ofNat ((s.data.toList.getD k 0).toNat ^^^ b.toNat))).toArray⟩
theorem turned_size (s : ByteArray) (k : Nat) (b : UInt8) : (turned s k b).size = s.size := by
  show (s.data.toList.set k _).toArray.size = s.data.size
  rw [List.size_toArray, List.length_set, Array.length_toList]
def spoil (σ : Dsk) (n : ByteArray) (k : Int) (b : UInt8) : Dsk × Nat :=
  match get σ.fs n with
    | none => (σ, 5)
    | some f => if k < 0 ∨ (f.text.size : Int) ≤ k then (σ, 2) else (⟨σ.room, σ.fuse, upd σ.fs n ⟨turned f.text k.toNat b, f.loose, f.fresh⟩⟩, 0)
def fuse (σ : Dsk) (k : Int) : Dsk × Nat := if k < 0 then (σ, 2) else (⟨σ.room, some k.toNat, σ.fs⟩, 0)
def crash (σ : Dsk) (ks : List Int) : Dsk × Nat := (⟨σ.room, none, crs σ.fs ks⟩, 0)

/-- A step of a script. -/
structure Stp where
  what : Int
  name : ByteArray
  text : ByteArray
  n : Int
  by_ : UInt8
  keep : List Int
def stp (σ : Dsk) (p : Stp) : Dsk × Nat :=
  if p.what = 0 then create σ p.name else if p.what = 1 then append σ p.name p.text else if p.what = 2 then sync σ p.name else if p.what = 3 then cut σ p.name p.n
  else if p.what = 4 then remove σ p.name else if p.what = 5 then spoil σ p.name p.n p.by_ else if p.what = 6 then fuse σ p.n else if p.what = 7 then crash σ p.keep else (σ, 0)

structure Inv (σ : Dsk) : Prop where
  srt : Srt σ.fs
  few : σ.fs.length ≤ 16
  room : used σ.fs ≤ σ.room
  most : σ.room ≤ 4194304
  loose : ∀ p ∈ σ.fs, p.2.loose ≤ p.2.text.size ∧ (p.2.fresh = true → p.2.loose = p.2.text.size)
  short : ∀ p ∈ σ.fs, p.1.size ≤ 40

theorem Inv.get {σ : Dsk} (h : Inv σ) {n : ByteArray} {f : Fil} (hg : get σ.fs n = some f) : f.loose ≤ f.text.size ∧ (f.fresh = true → f.loose = f.text.size) := h.loose _ (get_mem hg)
theorem Inv.upd {σ : Dsk} (h : Inv σ) {n : ByteArray} {f g : Fil} (hg : Proofs.YtikbokbmaihdbaaDoor.get σ.fs n = some f) (z : Option Nat) (hr : used σ.fs + g.text.size ≤ σ.room + f.text.size) (hl : g.loose ≤ g.text.size) (hf : g.fresh = true → g.loose = g.text.size) :
    Inv ⟨σ.room, z, Proofs.YtikbokbmaihdbaaDoor.upd σ.fs n g⟩ := by
  refine ⟨srt_upd h.srt n g, by simp only [len_upd]; exact h.few, ?_, h.most, fun p hp => ?_, fun p hp => ?_⟩
  · have := used_upd (f := g) h.srt hg
    simp only
    omega
  · rcases mem_upd hp with rfl | hp
    · exact ⟨hl, hf⟩
    · exact h.loose p hp
  · rcases mem_upd hp with rfl | hp
    · exact h.short (n, f) (get_mem hg)
    · exact h.short p hp

theorem Inv.create {σ : Dsk} (h : Inv σ) (n : ByteArray) : Inv (create σ n).1 := by
  unfold Proofs.YtikbokbmaihdbaaDoor.create
  split
  · exact h
  · rename_i hmay
    split
    · exact h
    · split
      · exact h
      · rename_i hg
        split
        · exact h
        · rename_i hf
          have hg' : Proofs.YtikbokbmaihdbaaDoor.get σ.fs n = none := by simpa using hg
          refine ⟨srt_ins h.srt hg', by simp only [len_ins]; omega, ?_, h.most, fun p hp => ?_, fun p hp => ?_⟩
          · simp only [used_ins]; exact h.room
          · rcases mem_ins.1 hp with rfl | hp
            · exact ⟨Nat.le_refl _, fun _ => rfl⟩
            · exact h.loose p hp
          · rcases mem_ins.1 hp with rfl | hp
            · exact mayB_size (by simpa using hmay)
            · exact h.short p hp
theorem Inv.append {σ : Dsk} (h : Inv σ) (n t : ByteArray) : Inv (append σ n t).1 := by
  unfold Proofs.YtikbokbmaihdbaaDoor.append
  split
  · exact h
  · split
    · exact h
    · rename_i f hg
      split
      · exact h
      · have hl := h.get hg
        refine h.upd hg _ ?_ ?_ ?_
        · simp only [ByteArray.size_append]; omega
        · simp only [ByteArray.size_append]; omega
        · simp only [ByteArray.size_append]; intro hf; have := hl.2 hf; omega
theorem Inv.sync {σ : Dsk} (h : Inv σ) (n : ByteArray) : Inv (sync σ n).1 := by
  unfold Proofs.YtikbokbmaihdbaaDoor.sync
  split
  · exact h
  · split
    · exact h
    · rename_i f hg
      refine h.upd hg _ ?_ (Nat.zero_le _) (fun hf => by cases hf)
      have := h.room
      simp only
      omega
theorem Inv.cut {σ : Dsk} (h : Inv σ) (n : ByteArray) (k : Int) : Inv (cut σ n k).1 := by
  unfold Proofs.YtikbokbmaihdbaaDoor.cut
  split
  · exact h
  · split
    · exact h
    · rename_i f hg
      split
      · exact h
      · refine h.upd hg _ ?_ (Nat.zero_le _) (fun hf => by cases hf)
        have := h.room
        simp only [ByteArray.size_extract]
        omega
theorem Inv.remove {σ : Dsk} (h : Inv σ) (n : ByteArray) : Inv (remove σ n).1 := by
  unfold Proofs.YtikbokbmaihdbaaDoor.remove
  split
  · exact h
  · split
    · exact h
    · exact ⟨srt_del h.srt n, Nat.le_trans (len_del _ _) h.few, Nat.le_trans (used_del _ _) h.room, h.most, fun p hp => h.loose p (mem_del hp), fun p hp => h.short p (mem_del hp)⟩
theorem Inv.spoil {σ : Dsk} (h : Inv σ) (n : ByteArray) (k : Int) (b : UInt8) : Inv (spoil σ n k b).1 := by
  unfold Proofs.YtikbokbmaihdbaaDoor.spoil
  split
  · exact h
  · rename_i f hg
    split
    · exact h
    · have hl := h.get hg
      have hr := h.room
      refine h.upd hg _ ?_ ?_ ?_
      · simp only [turned_size]; omega
      · simp only [turned_size]; exact hl.1
      · simp only [turned_size]; exact hl.2
theorem Inv.fuse {σ : Dsk} (h : Inv σ) (k : Int) : Inv (fuse σ k).1 := by
  unfold Proofs.YtikbokbmaihdbaaDoor.fuse
  split
  · exact h
  · exact ⟨h.srt, h.few, h.room, h.most, h.loose, h.short⟩
theorem Inv.crash {σ : Dsk} (h : Inv σ) (ks : List Int) : Inv (crash σ ks).1 :=
  ⟨srt_crs h.srt ks, Nat.le_trans (len_crs _ _) h.few, Nat.le_trans (used_crs _ _) h.room, h.most, fun p hp => by
    have := calm_crs σ.fs ks p hp
    exact ⟨by omega, fun hf => by rw [this.2] at hf; cases hf⟩, fun p hp => by
    have h1 : p.1 ∈ names σ.fs := (crs_sub σ.fs ks).subset (List.mem_map.2 ⟨p, hp, rfl⟩)
    obtain ⟨q, hq, e⟩ := List.mem_map.1 h1
    rw [← e]
    exact h.short q hq⟩
theorem Inv.stp {σ : Dsk} (h : Inv σ) (p : Stp) : Inv (stp σ p).1 := by
  unfold Proofs.YtikbokbmaihdbaaDoor.stp
  repeat' split
  · exact h.create _
  · exact h.append _ _
  · exact h.sync _
  · exact h.cut _ _
  · exact h.remove _
  · exact h.spoil _ _ _
  · exact h.fuse _
  · exact h.crash _
  · exact h
theorem Inv.fresh {room : Nat} (h : room ≤ 4194304) : Inv ⟨room, none, []⟩ := ⟨List.Pairwise.nil, by simp, by simp [used], h, (fun p hp => by cases hp), (fun p hp => by cases hp)⟩

/-- A call on one file leaves the others. -/
theorem stp_other (σ : Dsk) (p : Stp) (hp : p.what ≤ 5) (m : ByteArray) (hm : m ≠ p.name) : get (stp σ p).1.fs m = get σ.fs m := by
  unfold stp
  split
  · unfold create
    repeat' split
    all_goals first | rfl | exact get_ins_other hm _
  · split
    · unfold append
      repeat' split
      all_goals first | rfl | exact get_upd_other _ hm
    · split
      · unfold sync
        repeat' split
        all_goals first | rfl | exact get_upd_other _ hm
      · split
        · unfold cut
          repeat' split
          all_goals first | rfl | exact get_upd_other _ hm
        · split
          · unfold remove
            repeat' split
            all_goals first | rfl | exact get_del_other hm
          · split
            · unfold spoil
              repeat' split
              all_goals first | rfl | exact get_upd_other _ hm
            · rw [if_neg (by omega), if_neg (by omega)]
theorem stp_room (σ : Dsk) (p : Stp) : (stp σ p).1.room = σ.room := by
  unfold stp create append sync cut remove spoil fuse crash
  repeat' split
  all_goals rfl

theorem Inv.name {σ : Dsk} (h : Inv σ) {n : ByteArray} (hn : n ∈ names σ.fs) : n.size ≤ 40 := by
  obtain ⟨p, hp, rfl⟩ := List.mem_map.1 hn
  exact h.short p hp
/-- The k-th file. -/
theorem Inv.nth {σ : Dsk} (h : Inv σ) (k : Nat) (hk : k < (names σ.fs).length) : ∃ f, Proofs.YtikbokbmaihdbaaDoor.get σ.fs (names σ.fs)[k] = some f ∧ used (σ.fs.take (k + 1)) = used (σ.fs.take k) + f.text.size := by
  have hk' : k < σ.fs.length := by simpa [names] using hk
  refine ⟨σ.fs[k].2, ?_, ?_⟩
  · have := get_of_mem h.srt (List.getElem_mem hk')
    simpa [names] using this
  · rw [List.take_succ_eq_append_getElem hk', used, List.map_append, List.sum_append]; simp [used]
theorem used_take (fs : List (ByteArray × Fil)) (k : Nat) : used (fs.take k) ≤ used fs := by
  have e : used fs = used (fs.take k) + used (fs.drop k) := by rw [used, used, used, ← List.sum_append, ← List.map_append, List.take_append_drop]
  omega
theorem Inv.rise {σ : Dsk} (h : Inv σ) (j k : Nat) (hj : j < k) (hk : k < (names σ.fs).length) : bl (names σ.fs)[j] (names σ.fs)[k] := by
  have := srt_names.1 h.srt
  exact List.pairwise_iff_getElem.1 this j k (by omega) hk hj

end Go.Proofs.YtikbokbmaihdbaaDoor
