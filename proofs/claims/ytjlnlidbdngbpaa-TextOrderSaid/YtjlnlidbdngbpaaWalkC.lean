/-
  Contracts of layer 1's functions: Compare, Cut; the document's Compare.
-/
import Derived.Test.YtjlnlidbdngbpaaWalkB
import Derived.Deep.QuietTactic
import Derived.BigQuiet
namespace Go.Proofs.Ytjlnlidbdngbpaa
open Go.RowKit

theorem Compare_any (a b : ByteArray) (w : World) :
    Calls Try.prog 17 #[.string a, .string b] w fun e w' => e = .returned (.int .i64 (Lib.compareBytes a.data.toList b.data.toList)) ∧ w = w' := by
  go_enter Try.func17, Try.ntmps17
  go_wp2_with (go_at_call 24; refine (Try.strings_Compare _ _ _).mono ?_; rintro e w' ⟨rfl, rfl⟩)
  go_ret
  exact ⟨rfl, rfl⟩

theorem Clone_any (s : ByteArray) (w : World) (hs : s.size ≤ 281474976710656) :
    Calls Try.prog 25 #[.string s] w fun e w' => e = .returned (.string s) ∧ Below w.heap.size w w' := by
  go_enter Try.func25, Try.ntmps25
  go_wp2_with (go_at_call 29; refine (Try.stringslite_Clone s _ hs).mono ?_; rintro e w' ⟨rfl, hb⟩)
  go_ret
  exact ⟨rfl, hb⟩

theorem Valid_at (s : ByteArray) (w : World) (hs : s.size ≤ maxLen) (b : Bool) (hb : Hid (decide (0 ≤ cnt s.data.toList) = b)) :
    Calls Try.prog 13 #[.string s] w fun e w' => e = .returned (.bool b) ∧ Below w.heap.size w w' := by
  refine (Valid_any s w hs).mono ?_
  rintro e w' ⟨rfl, hw⟩
  exact ⟨ret_bool hb.out, hw⟩

/-- The text of bytes. -/
def str (l : List UInt8) : ByteArray := ⟨l.toArray⟩
theorem str_data (l : List UInt8) : (str l).data.toList = l := rfl
theorem str_of (s : ByteArray) : str s.data.toList = s := Lib.mk_data s
theorem ret_str {a b : ByteArray} (h : a = b) : Ending.returned (.string a) = Ending.returned (.string b) := by rw [h]

theorem encs_of {l : List UInt8} {ys : List Nat} (h : runes l = some ys) : l = encs ys := (runes_sound h).2

theorem Met.take {s : ByteArray} {pos : Nat} {xs ys : List Nat} (h : Met s pos xs) (hy : runes s.data.toList = some ys) :
    s.data.toList.take pos = encs xs ∧ ∃ zs, ys = xs ++ zs := by
  obtain ⟨h1, h2, h3⟩ := h
  rw [hy] at h3
  cases hr : runes (s.data.toList.drop pos) with
  | none => rw [hr] at h3; cases h3
  | some zs =>
    rw [hr] at h3
    simp only [Option.map_some, Option.some.injEq] at h3
    refine ⟨?_, zs, h3⟩
    have e1 := encs_of hr
    have e2 := encs_of hy
    rw [h3, encs_append, ← e1] at e2
    have e3 : s.data.toList.take pos ++ s.data.toList.drop pos = encs xs ++ s.data.toList.drop pos := by rw [List.take_append_drop]; exact e2
    exact List.append_cancel_right e3

theorem cut_none {l : List UInt8} {n : Int} (h : runes l = none) : cut l n = [] := by unfold cut; rw [h]
theorem cut_some {l : List UInt8} {ys : List Nat} {n : Int} (h : runes l = some ys) : cut l n = encs (ys.take n.toNat) := by unfold cut; rw [h]

theorem cut_stop {s : ByteArray} {pos : Nat} {xs ys : List Nat} {N : Int} (h : Met s pos xs) (hy : runes s.data.toList = some ys) (h1 : xs.length ≤ N.toNat) (h2 : N - (xs.length : Nat) ≤ 0) :
    s.extract 0 pos = str (cut s.data.toList N) := by
  obtain ⟨t1, zs, t2⟩ := h.take hy
  rw [Lib.extract_eq, List.drop_zero, Nat.sub_zero, t1, cut_some hy, t2]
  have : N.toNat = xs.length := by omega
  rw [this, List.take_left']
  · rfl
  · rfl
theorem cut_end {s : ByteArray} {pos : Nat} {xs ys : List Nat} {N : Int} (h : Met s pos xs) (hp : ¬ pos < s.size) (hy : runes s.data.toList = some ys) (h1 : xs.length ≤ N.toNat) :
    s = str (cut s.data.toList N) := by
  have e := h.done hp
  rw [hy] at e
  cases e
  rw [cut_some hy, List.take_of_length_le h1, ← encs_of hy]
  exact (str_of s).symm

set_option maxHeartbeats 2000000 in
theorem Cut_any (s : ByteArray) (N : Int) (w : World) (hs : s.size ≤ 281474976710656) (hn1 : -9223372036854775808 ≤ N) (hn2 : N ≤ 9223372036854775807) :
    Calls Try.prog 19 #[.string s, .int .i64 N] w fun e w' => e = .returned (.string (str (cut s.data.toList N))) ∧ Below w.heap.size w w' := by
  have hs' : s.size ≤ maxLen := by unfold maxLen; omega
  cases hy : runes s.data.toList with
  | none =>
    have HB : Hid (decide (0 ≤ cnt s.data.toList) = false) := by show _ = _; rw [cnt_none hy]; rfl
    have HC : Hid (cut s.data.toList N = []) := cut_none hy
    clear hy
    go_enter Try.func19, Try.ntmps19
    go_wp2_with (go_at_call 13; refine (Valid_at s _ hs' _ HB).mono ?_; rintro e w1 ⟨rfl, hb⟩)
    go_ret
    exact ⟨ret_str (by rw [HC.out]; rfl), hb⟩
  | some ys =>
    have HB : Hid (decide (0 ≤ cnt s.data.toList) = true) := by show _ = _; rw [cnt_some hy]; simp
    have HY : Hid (runes s.data.toList = some ys) := hy
    clear hy
    go_enter Try.func19, Try.ntmps19
    go_wp2_with (first | (go_at_call 13; refine (Valid_at s _ hs' _ HB).mono ?_; rintro e w1 ⟨rfl, hb⟩) | fail)
    go_loopw [1, 5] (fun n en wr => ∃ (pos : Nat) (xs : List Nat), wr.heap[w1.heap.size]? = some (.stringIter s pos) ∧ Below w1.heap.size w1 wr ∧ Hid (Met s pos xs) ∧ pos ≤ s.size ∧ xs.length ≤ pos ∧ xs.length ≤ N.toNat ∧ n = .int .i64 (N - (xs.length : Nat)) ∧ en = .int .i64 s.size) (fun _ _ wr => s.size - wr.iterPos w1.heap.size)
    case atStart =>
      exact ⟨0, [], World.iter_heap w1 s 0, (Below.refl _ w1).alloc (Nat.le_refl _) _, Met.start s, Nat.zero_le _, Nat.le_refl _, Nat.zero_le _, by simp, rfl⟩
    case round =>
      obtain ⟨pos, xs, hit, hbw, hmet, hle, hxl, hxn, rfl, rfl⟩ := hrel
      have hsz : w1.heap.size < wr.heap.size := (Array.getElem?_eq_some_iff.1 hit).1
      by_cases hp : pos < s.size
      · have hnx : ∀ ty, (Instr.next (.pointer (some ⟨w1.heap.size, 0, none⟩)) true ty).run Try.prog wr = _ := fun ty => Lib.run_next_any_at wr w1.heap.size s pos ty hit hp
        have hwd := decode_width s pos hp
        have hit2 := Lib.iterAt_heap wr w1.heap.size s pos (pos + (Utf8.decode s pos).2) hit
        have hbw2 := Lib.below_iterAt hbw (k := w1.heap.size) (Nat.le_refl _) s (pos + (Utf8.decode s pos).2)
        by_cases hz : N - (xs.length : Nat) ≤ 0
        · have HE : Hid (s.extract 0 pos = str (cut s.data.toList N)) := cut_stop hmet.out HY.out hxn hz
          clear hmet
          go_wp2_with (first | (go_at_call 25; refine (Clone_any _ _ (by rw [ByteArray.size_extract]; omega)).mono ?_; rintro e w2 ⟨rfl, hb2⟩) | fail)
          go_ret
          exact ⟨ret_str HE.out, hb.trans ((hbw2.mono hb.size).trans (hb2.mono (by have := hbw2.size; have := hb.size; omega)))⟩
        · have HM : Hid (Met s (pos + (Utf8.decode s pos).2) (xs ++ [(Utf8.decode s pos).1])) := hmet.out.step hp (hmet.out.next hp HY.out).1
          clear hmet
          go_wp2_with fail
          go_roundw
          case rel => exact ⟨_, _, hit2, hbw2, HM, hwd.2, by simp; omega, by simp; omega, by simp; omega, rfl⟩
          case measure =>
            simp only [World.iterPos, hit2, hit]
            omega
      · have hnx : ∀ ty, (Instr.next (.pointer (some ⟨w1.heap.size, 0, none⟩)) true ty).run Try.prog wr = _ := fun ty => Lib.run_next_end_at wr w1.heap.size s pos ty hit hp
        have HE : Hid (s = str (cut s.data.toList N)) := cut_end hmet.out hp HY.out hxn
        clear hmet
        go_wp2_with (first | (go_at_call 25; refine (Clone_any s _ hs).mono ?_; rintro e w2 ⟨rfl, hb2⟩) | fail)
        go_ret
        exact ⟨ret_str HE.out, hb.trans ((hbw.mono hb.size).trans (hb2.mono (by have := hbw.size; have := hb.size; omega)))⟩

end Go.Proofs.Ytjlnlidbdngbpaa
