/-
  Contracts of layer 1's functions: Kind, Key. The map of three kinds is written out.
-/
import Derived.Test.YtjlnlidbdngbpaaWalkA
import Derived.MapKept
import Derived.Carry
namespace Go.Proofs.Ytjlnlidbdngbpaa
open Go.RowKit

/-- The map literal's entries. -/
def kE1 : Array MapEntry := #[⟨.int .i32 35, .int .u8 1, 0⟩]
def kE2 : Array MapEntry := #[⟨.int .i32 35, .int .u8 1, 0⟩, ⟨.int .i32 64, .int .u8 2, 1⟩]
def kE3 : Array MapEntry := #[⟨.int .i32 35, .int .u8 1, 0⟩, ⟨.int .i32 64, .int .u8 2, 1⟩, ⟨.int .i32 61, .int .u8 3, 2⟩]

theorem map_set (w : World) (es es' : Array MapEntry) (c c' : Nat) :
    { w.alloc (.map es c) with heap := (w.alloc (.map es c)).heap.setIfInBounds w.heap.size (.map es' c') } = w.alloc (.map es' c') := by
  simp only [World.alloc]
  congr 1
  apply Array.ext'
  simp [Array.setIfInBounds, Array.toList_push]

theorem run_insert_new (w : World) (es : Array MapEntry) (c : Nat) (k : Int) (v : Value) (hf : Instr.findNow (.int .i32) (.int .i32 k) es.toList 0 = some none) :
    (Instr.mapUpdate 43 (.map (some w.heap.size)) (.int .i32 k) v).run Try.prog (w.alloc (.map es c)) = .ok () (w.alloc (.map (es.push ⟨.int .i32 k, v, c⟩) (c + 1))) := by
  have hb : (w.alloc (.map es c)).heap[w.heap.size]? = some (.map es c) := by
    show (w.heap.push _)[w.heap.size]? = _
    simp
  have h1 := MapKept.run_checkKey (P := Try.prog) (w := w.alloc (.map es c)) Try.underlying21 (k := .int .i32 k) rfl false 9999
  have h2 := MapKept.run_findKey (P := Try.prog) (w := w.alloc (.map es c)) Try.underlying21 hf
  simp only [Instr.mapUpdate, getObj, setObj, Sem.run_bind, run_underlying Try.underlying43, Sem.run, hb, Result.andThen, h1, h2, map_set]

theorem run_look_of (w : World) (b : Nat) (hb : w.heap[b]? = some (.map kE3 3)) (k : Int) (n : Nat) (r : Option (Nat × Value)) (hf : Instr.findNow (.int .i32) (.int .i32 k) kE3.toList 0 = some r)
    (hr : (match r with | some (_, v) => v | none => .int .u8 0) = .int .u8 (n : Nat)) :
    (Instr.lookup 43 (.map (some b)) (.int .i32 k) false).run Try.prog w = .ok (.int .u8 (n : Nat)) w := by
  have h1 := MapKept.run_checkKey (P := Try.prog) (w := w) Try.underlying21 (k := .int .i32 k) rfl false 9999
  have h2 := MapKept.run_findKey (P := Try.prog) (w := w) Try.underlying21 hf
  have hz : (zeroValue 5).run Try.prog w = .ok (.int .u8 0) w := by kernel_rfl
  have e0 : kE3.isEmpty = false := rfl
  simp only [Instr.lookup, getObj, Sem.run_bind, run_underlying Try.underlying43, Sem.run, Sem.run_pure, hb, Result.andThen, e0, h1, h2]
  cases r with
  | none => simp only [Sem.run_bind, hz, Result.andThen, Sem.run_pure] at hr ⊢; rw [hr]; rfl
  | some p => simp only [Sem.run_bind, Result.andThen, Sem.run_pure] at hr ⊢; rw [hr]; rfl

theorem run_look (w : World) (b : Nat) (hb : w.heap[b]? = some (.map kE3 3)) (x : Nat) :
    (Instr.lookup 43 (.map (some b)) (.int .i32 x) false).run Try.prog w = .ok (.int .u8 (kindOf x : Nat)) w := by
  by_cases a : x = 35
  · subst a; exact run_look_of w b hb 35 1 (some (0, .int .u8 1)) rfl rfl
  by_cases a2 : x = 64
  · subst a2; exact run_look_of w b hb 64 2 (some (1, .int .u8 2)) rfl rfl
  by_cases a3 : x = 61
  · subst a3; exact run_look_of w b hb 61 3 (some (2, .int .u8 3)) rfl rfl
  · have hk : kindOf x = 0 := by simp [kindOf, a, a2, a3]
    have n1 : ((x : Int) == 35) = false := by simp; omega
    have n2 : ((x : Int) == 64) = false := by simp; omega
    have n3 : ((x : Int) == 61) = false := by simp; omega
    rw [hk]
    exact run_look_of w b hb x 0 none (by simp [kE3, Instr.findNow, Instr.sameNow, n1, n2, n3]) rfl

theorem control_at (x : Nat) (hx : x ≤ 2147483647) (b : Bool) (hb : Hid (ctl x = b)) (w : World) :
    Calls Try.prog 23 #[.int .i32 x] w fun e w' => e = .returned (.bool b) ∧ w = w' := by
  refine (control_any x hx w).mono ?_
  rintro e w' ⟨rfl, hw⟩
  exact ⟨ret_bool hb.out, hw⟩

/-- What 'kind' holds at a loop's head. -/
def KindSoFar (pos : Nat) (xs : List Nat) (k : Nat) : Prop := (pos = 0 ∧ xs = [] ∧ k = 0) ∨ (0 < pos ∧ xs ≠ [] ∧ k = kindOf (xs[0]?.getD 0))

theorem kind_some {l : List UInt8} {ys : List Nat} (h : runes l = some ys) : kind l = kindX ys := by unfold kind; rw [h]
theorem cnt_some {l : List UInt8} {ys : List Nat} (h : runes l = some ys) : cnt l = ys.length := by unfold cnt; rw [h]
theorem cnt_none {l : List UInt8} (h : runes l = none) : cnt l = -1 := by unfold cnt; rw [h]

theorem Met.next {s : ByteArray} {pos : Nat} {xs ys : List Nat} (h : Met s pos xs) (hp : pos < s.size) (hy : runes s.data.toList = some ys) :
    ¬ (rd (s.data.toList.drop pos)).2 = 0 ∧ ∃ zs, ys = xs ++ (Utf8.decode s pos).1 :: zs := by
  have h0 : ¬ (rd (s.data.toList.drop pos)).2 = 0 := fun h0 => by have := h.bad hp h0; rw [hy] at this; cases this
  refine ⟨h0, ?_⟩
  have h1 := (h.step hp h0).2.2
  rw [hy] at h1
  cases hr : runes (s.data.toList.drop (pos + (Utf8.decode s pos).2)) with
  | none => rw [hr] at h1; cases h1
  | some zs => rw [hr] at h1; simp at h1; exact ⟨zs, h1⟩

theorem kindX_ctl {xs zs : List Nat} {r : Nat} (h : ctl r = true) : kindX (xs ++ r :: zs) = 0 := by
  unfold kindX
  rw [if_pos]
  right; right
  simp [h]

theorem kindX_end {ys : List Nat} {k pos : Nat} (h1 : 1 ≤ ys.length) (h2 : ys.length ≤ 64) (ha : ys.any ctl = false) (hk : KindSoFar pos ys k) : kindX ys = k := by
  unfold kindX
  have hno : ¬ (ys.length < 1 ∨ 64 < ys.length ∨ ys.any ctl = true) := by
    rintro (h | h | h)
    · omega
    · omega
    · rw [ha] at h; cases h
  rw [if_neg hno]
  rcases hk with ⟨_, e, _⟩ | ⟨_, _, e⟩
  · subst e; simp at h1
  · exact e.symm

theorem ret_u8 {a b : Nat} (h : a = b) : Ending.returned (.int .u8 (a : Nat)) = Ending.returned (.int .u8 (b : Nat)) := by rw [h]

set_option maxHeartbeats 2000000 in
theorem Kind_any (s : ByteArray) (w : World) (hs : s.size ≤ maxLen) :
    Calls Try.prog 16 #[.string s] w fun e w' => e = .returned (.int .u8 (kind s.data.toList : Nat)) ∧ Below w.heap.size w w' := by
  have hs' := hs
  unfold maxLen at hs
  by_cases hlo : cnt s.data.toList < 1
  · have HK : Hid (kind s.data.toList = 0) := by
      show kind s.data.toList = 0
      cases hr : runes s.data.toList with
      | none => unfold kind; rw [hr]
      | some ys => rw [kind_some hr]; rw [cnt_some hr] at hlo; unfold kindX; rw [if_pos (Or.inl (by omega))]
    go_enter Try.func16, Try.ntmps16
    go_wp2_with (go_at_call 14; refine (Runes_any s _ hs').mono ?_; rintro e w1 ⟨rfl, hb⟩)
    go_ret
    exact ⟨ret_u8 HK.out.symm, hb⟩
  by_cases hhi : 64 < cnt s.data.toList
  · have HK : Hid (kind s.data.toList = 0) := by
      show kind s.data.toList = 0
      cases hr : runes s.data.toList with
      | none => unfold kind; rw [hr]
      | some ys => rw [kind_some hr]; rw [cnt_some hr] at hhi; unfold kindX; rw [if_pos (Or.inr (Or.inl (by omega)))]
    go_enter Try.func16, Try.ntmps16
    go_wp2_with (go_at_call 14; refine (Runes_any s _ hs').mono ?_; rintro e w1 ⟨rfl, hb⟩)
    go_ret
    exact ⟨ret_u8 HK.out.symm, hb⟩
  obtain ⟨ys, hys⟩ : ∃ ys, runes s.data.toList = some ys := by
    cases hr : runes s.data.toList with
    | none => rw [cnt_none hr] at hlo; omega
    | some ys => exact ⟨ys, rfl⟩
  have HL : Hid (1 ≤ ys.length ∧ ys.length ≤ 64) := by rw [cnt_some hys] at hlo hhi; exact ⟨by omega, by omega⟩
  have HY : Hid (runes s.data.toList = some ys) := hys
  have HK : Hid (kind s.data.toList = kindX ys) := kind_some hys
  clear hys
  have hmm := @run_makeMap Try.prog
  have hi1 := fun W => run_insert_new W #[] 0 35 (.int .u8 1) rfl
  have hi2 := fun W => run_insert_new W kE1 1 64 (.int .u8 2) rfl
  have hi3 := fun W => run_insert_new W kE2 2 61 (.int .u8 3) rfl
  rw [show (#[] : Array MapEntry).push ⟨.int .i32 35, .int .u8 1, 0⟩ = kE1 from rfl] at hi1
  rw [show kE1.push ⟨.int .i32 64, .int .u8 2, 1⟩ = kE2 from rfl] at hi2
  rw [show kE2.push ⟨.int .i32 61, .int .u8 3, 2⟩ = kE3 from rfl] at hi3
  go_enter Try.func16, Try.ntmps16
  go_wp2_with (go_at_call 14; refine (Runes_any s _ hs').mono ?_; rintro e w1 ⟨rfl, hb⟩)
  clear hi1 hi2 hi3 hmm
  go_loopw [5] (fun kd wr => ∃ (pos : Nat) (xs : List Nat) (k : Nat), wr.heap[w1.heap.size]? = some (.map kE3 3) ∧ wr.heap[w1.heap.size + 1]? = some (.stringIter s pos) ∧ Below w1.heap.size w1 wr ∧ Hid (Met s pos xs ∧ xs.any ctl = false ∧ KindSoFar pos xs k) ∧ pos ≤ s.size ∧ kd = .int .u8 (k : Nat)) (fun _ wr => s.size - wr.iterPos (w1.heap.size + 1))
  case atStart =>
    refine ⟨0, [], 0, ?_, ?_, ((Below.refl _ w1).alloc (Nat.le_refl _) _).alloc (by simp) _, ⟨Met.start s, rfl, Or.inl ⟨rfl, rfl, rfl⟩⟩, Nat.zero_le _, rfl⟩
    · rw [show ((w1.alloc (.map kE3 3)).iter s 0).heap[w1.heap.size]? = (w1.alloc (.map kE3 3)).heap[w1.heap.size]? from Below.heap_alloc _ _ _ (by simp)]
      show (w1.heap.push _)[w1.heap.size]? = _
      simp
    · have := World.iter_heap (w1.alloc (.map kE3 3)) s 0
      simpa using this
  case round =>
    obtain ⟨pos, xs, k, hmap, hit, hbw, hmet, hle, rfl⟩ := hrel
    have hsz : w1.heap.size + 1 < wr.heap.size := (Array.getElem?_eq_some_iff.1 hit).1
    by_cases hp : pos < s.size
    · have hnx : ∀ ty, (Instr.next (.pointer (some ⟨w1.heap.size + 1, 0, none⟩)) true ty).run Try.prog wr = _ := fun ty => Lib.run_next_any_at wr (w1.heap.size + 1) s pos ty hit hp
      have hwd := decode_width s pos hp
      have hd1 := decode_le s pos
      have hit2 := Lib.iterAt_heap wr (w1.heap.size + 1) s pos (pos + (Utf8.decode s pos).2) hit
      have hmap2 := (Lib.iterAt_other wr (w1.heap.size + 1) w1.heap.size s (pos + (Utf8.decode s pos).2) (by omega)).trans hmap
      have hbw2 := Lib.below_iterAt hbw (k := w1.heap.size + 1) (by omega) s (pos + (Utf8.decode s pos).2)
      have hlook := run_look _ _ hmap2 (Utf8.decode s pos).1
      obtain ⟨hm, hctl, hkd⟩ := hmet.out
      obtain ⟨h0, zs, hzs⟩ := hm.next hp HY.out
      by_cases hc : ctl (Utf8.decode s pos).1 = true
      · have HC : Hid (ctl (Utf8.decode s pos).1 = true) := hc
        have HZ : Hid (kindX ys = 0) := by rw [hzs]; exact kindX_ctl hc
        clear hc hzs hm hctl hkd h0 hmet
        go_wp2_with (go_at_call 23; refine (control_at _ (by omega) _ HC _).mono ?_; rintro e w' ⟨rfl, rfl⟩)
        go_ret
        exact ⟨ret_u8 (by rw [HK.out, HZ.out]), (hb.trans (hbw2.mono hb.size))⟩
      · have hc' : ctl (Utf8.decode s pos).1 = false := by simpa using hc
        have HC : Hid (ctl (Utf8.decode s pos).1 = false) := hc'
        have HM : Hid (Met s (pos + (Utf8.decode s pos).2) (xs ++ [(Utf8.decode s pos).1]) ∧ (xs ++ [(Utf8.decode s pos).1]).any ctl = false) :=
          ⟨hm.step hp h0, by simp only [List.any_append, hctl, List.any_cons, List.any_nil, hc', Bool.or_false]⟩
        by_cases hz : pos = 0
        · subst hz
          have HQ : Hid (KindSoFar (0 + (Utf8.decode s 0).2) (xs ++ [(Utf8.decode s 0).1]) (kindOf (Utf8.decode s 0).1)) := by
            rcases hkd with ⟨_, e, _⟩ | ⟨e, _⟩
            · subst e; exact Or.inr ⟨by omega, by simp, by simp⟩
            · omega
          clear hc hc' hzs hm hctl hkd h0 hmet
          simp only [Nat.zero_add] at hlook hit2 hmap2 hbw2 hwd
          have HM2 : Hid (Met s (Utf8.decode s 0).2 (xs ++ [(Utf8.decode s 0).1]) ∧ (xs ++ [(Utf8.decode s 0).1]).any ctl = false) := by have := HM.out; rw [Nat.zero_add] at this; exact this
          have HQ2 : Hid (KindSoFar (Utf8.decode s 0).2 (xs ++ [(Utf8.decode s 0).1]) (kindOf (Utf8.decode s 0).1)) := by have := HQ.out; rw [Nat.zero_add] at this; exact this
          clear HM HQ
          go_wp2_with (go_at_call 23; refine (control_at _ (by omega) _ HC _).mono ?_; rintro e w' ⟨rfl, rfl⟩)
          go_roundw
          case rel => exact ⟨_, _, _, hmap2, hit2, hbw2, ⟨HM2.out.1, HM2.out.2, HQ2.out⟩, hwd.2, rfl⟩
          case measure =>
            simp only [World.iterPos, hit2, hit]
            omega
        · have HQ : Hid (KindSoFar (pos + (Utf8.decode s pos).2) (xs ++ [(Utf8.decode s pos).1]) k) := by
            rcases hkd with ⟨e, _⟩ | ⟨_, e, e2⟩
            · exact absurd e hz
            · refine Or.inr ⟨by omega, by simp, ?_⟩
              rw [e2]
              cases xs with
              | nil => exact absurd rfl e
              | cons a t => simp
          have hz' : ((pos : Int) == 0) = false := by simp; exact hz
          clear hc hc' hzs hm hctl hkd h0 hmet hz hlook
          go_wp2_with (go_at_call 23; refine (control_at _ (by omega) _ HC _).mono ?_; rintro e w' ⟨rfl, rfl⟩)
          go_roundw
          case rel => exact ⟨_, _, _, hmap2, hit2, hbw2, ⟨HM.out.1, HM.out.2, HQ.out⟩, hwd.2, rfl⟩
          case measure =>
            simp only [World.iterPos, hit2, hit]
            omega
    · have hnx : ∀ ty, (Instr.next (.pointer (some ⟨w1.heap.size + 1, 0, none⟩)) true ty).run Try.prog wr = _ := fun ty => Lib.run_next_end_at wr (w1.heap.size + 1) s pos ty hit hp
      have HZ : Hid (kindX ys = k) := by
        obtain ⟨hm, hctl, hkd⟩ := hmet.out
        have e := hm.done hp
        rw [HY.out] at e
        cases e
        exact kindX_end HL.out.1 HL.out.2 hctl hkd
      clear hmet
      go_wp2_with fail
      go_ret
      exact ⟨ret_u8 (by rw [HK.out, HZ.out]), (hb.trans (hbw.mono hb.size))⟩

theorem Key_any (s : ByteArray) (w : World) (hs : s.size ≤ maxLen) :
    Calls Try.prog 15 #[.string s] w fun e w' => e = .returned (.bool (((kind s.data.toList : Nat) : Int) != 0)) ∧ Below w.heap.size w w' := by
  go_enter Try.func15, Try.ntmps15
  go_wp2_with (go_at_call 16; refine (Kind_any s _ hs).mono ?_; rintro e w' ⟨rfl, hb⟩)
  go_ret
  exact ⟨rfl, hb⟩

end Go.Proofs.Ytjlnlidbdngbpaa
