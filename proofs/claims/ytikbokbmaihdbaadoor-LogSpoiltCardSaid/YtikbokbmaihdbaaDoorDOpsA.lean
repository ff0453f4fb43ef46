/-
  Layer 7: New, Room, Loose, Read, Fuse, at a disk that New made and at none.
-/
import Derived.Test.YtikbokbmaihdbaaDoorDSmall
import Derived.Test.YtikbokbmaihdbaaDoorSRng
import Derived.WalkMore
import Derived.Deep.LoopGhost
import Derived.Laws.BytesString
import Derived.Laws.BytesArg
namespace Go.Proofs.YtikbokbmaihdbaaDoor
open Go.RowKit Go.Maps Go.Lib

theorem New_any (room : Nat) (w : World) (hr : room ≤ 4194304) : Calls Tryd.prog 9 #[.int .i64 room] w (Made TheDisk w (fun v => .tuple #[v, .int .i64 0]) ⟨room, none, []⟩) := by
  have d1 : decide ((room : Int) < 0) = false := by simp
  have d2 : decide ((4194304 : Int) < (room : Int)) = false := by simp; omega
  have hmk := run_makeMap (P := Tryd.prog) 54 w
  go_enter Tryd.func9, Tryd.ntmps9
  go_wp2_with fail
  go_ret2
  refine ⟨_, _, rfl, ⟨Inv.fresh hr, (fun k hk => by cases hk), w.heap.size, fun _ => 0, fun _ => .pointer none, ?_, ⟨?_, (fun n f hf => by cases hf), (fun n hn => by cases hn), (fun n hn => by cases hn)⟩, fun k => Iff.rfl⟩, ?_, ((Below.refl _ w).alloc (Nat.le_refl _) _).alloc (by simp) _⟩
  · have e : (w.alloc (.map #[] 0)).heap.size = w.heap.size + 1 := by simp
    have k := heap_alloc_new (w.alloc (.map #[] 0)) (.cells #[.bool true, .int .i64 (room : Nat), .map (some w.heap.size), .bool false, .int .i64 0] 56)
    rw [e] at k
    exact k
  · exact (SMap.made Tryd.prog 9 w).below ((Below.refl _ _).alloc (Nat.le_refl _) _)
  · rintro k (rfl | rfl | ⟨n, hn, _⟩)
    · simp
    · exact Nat.le_refl _
    · cases hn

def szOf (fs : List (ByteArray × Fil)) (n : ByteArray) : Nat := match get fs n with | some f => f.text.size | none => 0
theorem used_names {fs : List (ByteArray × Fil)} (h : Srt fs) : used fs = ((names fs).map (szOf fs)).sum := by
  unfold used names
  rw [List.map_map]
  congr 1
  apply List.map_congr_left
  intro p hp
  simp only [Function.comp, szOf, get_of_mem h hp]

section
variable {w : World} {g room b : Nat} {z : Option Nat} {P : ByteArray → Nat} {V : ByteArray → Value} {fs : List (ByteArray × Fil)}

theorem Lay.srt (h : Lay w b P V fs) : Srt fs := by
  have := h.map.srt
  rw [srt_names, names_kvOf, ← srt_names] at this
  exact this
set_option maxHeartbeats 1000000 in
theorem room_any (h : DHead w g room b z) (hl : Lay w b P V fs) (hu : used fs ≤ room) (hm : room ≤ 4194304) : Calls Tryd.prog 24 #[ptr g] w fun e w' => e = .returned (.int .i64 ((room - used fs : Nat) : Int)) ∧ Below w.heap.size w w' := by
  have c1 := h.c1
  have c2 := h.c2
  have HL := Lib.hid hl
  have HU := Lib.hid (used_names hl.srt)
  have HM := hl.map
  clear hl
  go_enter Tryd.func24, Tryd.ntmps24
  go_wp2_with (first
    | (go_at_call 36; refine (unmade_at h).mono ?_; rintro e w' ⟨rfl, rfl⟩)
    | (at_range; refine wpList_smap_range Tryd.underlying9 Tryd.underlying54 rfl _ rfl rfl HM ?_; intro w1 cnt1 hrg1 hg1 hs1))
  rw [names_kvOf] at hrg1
  have HR1 := Lib.hid hrg1
  have HB1 : Hid (Below w.heap.size w w1) := (Below.refl _ w).grown hg1 (Nat.le_refl _) (fun k hk => by cases hk)
  clear hrg1 hg1 hs1
  go_frame
  go_loopw [3] (fun rv wr => ∃ (rest : List ByteArray) (cnt a : Nat), rv = .int .i64 (a : Nat) ∧ a ≤ room ∧ Hid (a = room - used fs + (rest.map (szOf fs)).sum) ∧ Hid (SRng Tryd.prog 9 wr b w.heap.size (kvOf P fs) rest cnt) ∧ Hid (Below w.heap.size w wr)) (fun _ wr => wr.rangeLeft b w.heap.size)
  case atStart => exact ⟨names fs, cnt1, room, rfl, Nat.le_refl _, by have := HU.out; show _ = _; omega, HR1, HB1⟩
  case round =>
    obtain ⟨rest, cnt, a, rfl, ha, HA, HR, HB⟩ := hrel
    go_wp2_with (at_next; refine wpList_smap_next Tryd.underlying9 rfl _ rfl rfl HR.out ?_ ?_)
    · intro hnil
      subst hnil
      have e : a = room - used fs := by have := HA.out; simpa using this
      subst e
      go_wp2_with fail
      go_ret
      exact ⟨rfl, HB.out⟩
    · intro n v w2 cnt2 hn hgv hrg2 hlt hg2 hs2 hen
      have HB2 : Hid (Below w.heap.size w w2) := HB.out.grown hg2 HB.out.size (fun k hk => by cases hk; exact Nat.le_refl _)
      have HG := Lib.hid hgv
      have HR2 := Lib.hid hrg2
      have HN := Lib.hid hn
      have HLT := Lib.hid hlt
      clear hgv hrg2 hn hlt hg2 hs2
      rw [get_kvOf] at HG
      obtain ⟨f, hf⟩ : ∃ f, get fs n = some f := by
        have := HG.out
        cases hq : get fs n with
        | none => rw [hq] at this; cases this
        | some f => exact ⟨f, rfl⟩
      obtain rfl : v = ptr (P n) := by have := HG.out; rw [hf] at this; cases this; rfl
      have hF := (HL.out.below HB2.out).file n f hf
      obtain ⟨A, c, hv, _, _⟩ := hF.slice
      have c0 := hF.c0
      rw [hv] at c0
      have hsum := sum_but (f := szOf fs) HR.out.nodup HN.out
      have hsz : szOf fs n = f.text.size := by unfold szOf; rw [hf]
      rw [hsz] at hsum
      have hle : f.text.size ≤ a := by have := HA.out; omega
      have HS : Hid (a - f.text.size = room - used fs + ((but rest n).map (szOf fs)).sum) := by have := HA.out; show _ = _; omega
      clear hv hF hf hsum hsz
      go_wp2_with fail
      go_roundw
      case rel => exact ⟨but rest n, cnt2, a - f.text.size, by go_num, by omega, HS, HR2, HB2⟩
      case measure => rw [HR2.out.left, HR.out.left]; exact HLT.out

theorem loose_any (h : DHead w g room b z) (hl : Lay w b P V fs) (n : ByteArray) (hn : n.size ≤ maxLen) : Calls Tryd.prog 22 #[ptr g, .string n] w fun e w' => e = .returned (.int .i64 ((match get fs n with | some f => f.loose | none => 0 : Nat) : Int)) ∧ w = w' := by
  have K := find_at h hl n hn
  cases hg : get fs n with
  | none =>
    rw [hg] at K
    go_enter Tryd.func22, Tryd.ntmps22
    go_wp2_with (go_at_call 39; refine K.mono ?_; rintro e w' ⟨rfl, rfl⟩)
    go_ret
    exact ⟨rfl, rfl⟩
  | some f =>
    rw [hg] at K
    have c1 := (hl.file n f hg).c1
    go_enter Tryd.func22, Tryd.ntmps22
    go_wp2_with (go_at_call 39; refine K.mono ?_; rintro e w' ⟨rfl, rfl⟩)
    go_ret
    exact ⟨rfl, rfl⟩
theorem loose_nil (n : ByteArray) (w : World) : Calls Tryd.prog 22 #[.pointer none, .string n] w fun e w' => e = .returned (.int .i64 0) ∧ w = w' := by
  go_enter Tryd.func22, Tryd.ntmps22
  go_wp2_with (go_at_call 39; refine (find_nil n _).mono ?_; rintro e w' ⟨rfl, rfl⟩)
  go_ret
  exact ⟨rfl, rfl⟩
theorem room_nil (w : World) : Calls Tryd.prog 24 #[.pointer none] w fun e w' => e = .returned (.int .i64 0) ∧ w = w' := by
  go_enter Tryd.func24, Tryd.ntmps24
  go_wp2_with (go_at_call 36; refine (unmade_nil _).mono ?_; rintro e w' ⟨rfl, rfl⟩)
  go_ret
  exact ⟨rfl, rfl⟩

/-- 'string(f.bytes)'. -/
theorem file_conv {p : Nat} {v : Value} {f : Fil} (h : File w p v f) : (convert 23 9 v).run Tryd.prog w = .ok (.string f.text) w := by
  have hrow := h.row
  rcases h.row.2 with ⟨rfl, h0⟩ | ⟨q, cap, cur, rfl, _⟩
  · have e : f.text = ⟨#[]⟩ := by
      apply ByteArray.ext
      exact Array.eq_empty_of_size_eq_zero h0
    rw [e]
    have k := run_convert_bytes_nil (P := Tryd.prog) (w := w) 23 5 Tryd.underlying23 Tryd.underlying5 0 0
    exact k _ Tryd.underlying9
  · have k := run_convert_bytes_back w 23 9 5 ⟨q, 0, none⟩ cap f.text.data.toList Tryd.underlying23 Tryd.underlying5 Tryd.underlying9 (fun j hj => by
      refine hrow.cells (g := q) rfl j _ ?_
      simp only [strCells, List.getElem?_map, List.getElem?_eq_getElem hj, Option.map_some])
    have e : f.text.data.toList.length = f.text.size := by simp
    rw [e] at k
    simpa using k
theorem read_any (h : DHead w g room b z) (hl : Lay w b P V fs) (n : ByteArray) (hn : n.size ≤ maxLen) : Calls Tryd.prog 23 #[ptr g, .string n] w fun e w' =>
    e = .returned (.tuple #[.string (match get fs n with | some f => f.text | none => ⟨#[]⟩), .int .i64 ((match get fs n with | some _ => 0 | none => 5 : Nat) : Int)]) ∧ w = w' := by
  have K := find_at h hl n hn
  cases hg : get fs n with
  | none =>
    rw [hg] at K
    go_enter Tryd.func23, Tryd.ntmps23
    go_wp2_with (go_at_call 39; refine K.mono ?_; rintro e w' ⟨rfl, rfl⟩)
    go_ret2
    exact ⟨rfl, rfl⟩
  | some f =>
    rw [hg] at K
    have hF := hl.file n f hg
    have c0 := hF.c0
    have hcv := file_conv hF
    go_enter Tryd.func23, Tryd.ntmps23
    go_wp2_with (go_at_call 39; refine K.mono ?_; rintro e w' ⟨rfl, rfl⟩)
    go_ret2
    exact ⟨rfl, rfl⟩
theorem read_nil (n : ByteArray) (w : World) : Calls Tryd.prog 23 #[.pointer none, .string n] w fun e w' => e = .returned (.tuple #[.string ⟨#[]⟩, .int .i64 1]) ∧ w = w' := by
  go_enter Tryd.func23, Tryd.ntmps23
  go_wp2_with (go_at_call 39; refine (find_nil n _).mono ?_; rintro e w' ⟨rfl, rfl⟩)
  go_ret2
  exact ⟨rfl, rfl⟩
end

theorem fuse_any {O : Nat → Prop} {w : World} {g : Nat} {σ : Dsk} (k : Int) (hd : TheDisk O w g σ) (hk : (Lit.int .i64 k).wf = true) : Calls Tryd.prog 17 #[ptr g, .int .i64 k] w (Did TheDisk O w g (fuse σ k)) := by
  obtain ⟨hi, hz, b, P, V, h, hl, hO⟩ := hd
  unfold fuse
  by_cases hn : k < 0
  · rw [if_pos hn]
    have d1 : decide (k < 0) = true := by simpa using hn
    have HR := Lib.hid (did_of (er := 2) hO hi hz h hl (Only.refl O w) (fun k hk => Or.inl hk))
    go_enter Tryd.func17, Tryd.ntmps17
    go_wp2_with (go_at_call 36; refine (unmade_at h).mono ?_; rintro e w' ⟨rfl, rfl⟩)
    go_ret
    exact HR.out
  · rw [if_neg hn]
    have d1 : decide (k < 0) = false := by simpa using hn
    have hk2 : k ≤ 9223372036854775807 := by simp only [Lit.wf, Bool.and_eq_true, decide_eq_true_eq] at hk; exact hk.2
    have c3 := h.c3
    have f3 := h.fr 3
    have f4 := h.fr 4
    have h1 := heap_set (i := 3) h (.bool true)
    have h2 := heap_set (i := 4) h1 (.int .i64 k)
    have c4 : (w.setCell ⟨g, 3, none⟩ (.bool true)).cell? ⟨g, 4, none⟩ = some (.int .i64 ((σ.fuse.getD 0 : Nat) : Int)) := by rw [cell_hp h1]; rfl
    have hk3 : ((k.toNat : Nat) : Int) = k := by omega
    have HR : Hid (Did TheDisk O w g (⟨σ.room, some k.toNat, σ.fs⟩, 0) (.returned (.int .i64 (0 : Nat))) ((w.setCell ⟨g, 3, none⟩ (.bool true)).setCell ⟨g, 4, none⟩ (.int .i64 k))) := by
      have ho : Only (fun k => k = g) w ((w.setCell ⟨g, 3, none⟩ (.bool true)).setCell ⟨g, 4, none⟩ (.int .i64 k)) := (Only.set w g 3 _).trans (Only.set _ g 4 _) (fun i hi => Or.inl hi)
      refine did_of (τ := ⟨σ.room, some k.toNat, σ.fs⟩) (er := 0) hO ⟨hi.srt, hi.few, hi.room, hi.most, hi.loose, hi.short⟩ (fun j hj => ?_) ?_ (hl.only ho (fun k hk => h.not_lay hl hk)) (ho.wide (fun k hk => (hO k).2 (Or.inl hk))) (fun k hk => Or.inl hk)
      · simp only [Option.some.injEq] at hj
        omega
      · unfold DHead
        simp only [Option.isSome_some, Option.getD_some, hk3]
        exact h2
    clear h1 h2 hk3 hk
    go_enter Tryd.func17, Tryd.ntmps17
    go_wp2_with (go_at_call 36; refine (unmade_at h).mono ?_; rintro e w' ⟨rfl, rfl⟩)
    go_ret
    exact HR.out
theorem fuse_nil (k : Int) (w : World) : Calls Tryd.prog 17 #[.pointer none, .int .i64 k] w fun e w' => e = .returned (.int .i64 1) ∧ w = w' := by
  go_enter Tryd.func17, Tryd.ntmps17
  go_wp2_with (go_at_call 36; refine (unmade_nil _).mono ?_; rintro e w' ⟨rfl, rfl⟩)
  go_ret
  exact ⟨rfl, rfl⟩

end Go.Proofs.YtikbokbmaihdbaaDoor
