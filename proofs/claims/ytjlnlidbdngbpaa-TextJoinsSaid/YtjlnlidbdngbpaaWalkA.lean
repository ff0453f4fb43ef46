/-
  Contracts of layer 1's functions: wrong, control, Runes, Valid.
-/
import Derived.Test.YtjlnlidbdngbpaaShelf
import Derived.Test.YtjlnlidbdngbpaaDec
import Derived.WalkKit
import Derived.BigCall
import Derived.Lib.OthersKept
import Derived.Lib.Hide
namespace Go.Proofs.Ytjlnlidbdngbpaa
open Go.RowKit

theorem wrong_any (s : ByteArray) (r : Int) (w : World) :
    Calls Try.prog 22 #[.string s, .int .i32 r] w fun e w' => e = .returned (.bool (wrongB s.data.toList r)) ∧ w = w' := by
  by_cases h : r = 65533
  · subst h
    go_enter Try.func22, Try.ntmps22
    go_wp2_with (go_at_call 27; refine (Try.strings_HasPrefix _ _ _).mono ?_; rintro e w' ⟨rfl, rfl⟩)
    go_ret
    exact ⟨rfl, rfl⟩
  · have hb : (r == 65533) = false := by simp; exact h
    go_enter Try.func22, Try.ntmps22
    go_wp2_with fail
    go_ret
    refine ⟨?_, rfl⟩
    unfold wrongB; rw [hb]; rfl

theorem ret_bool {a b : Bool} (h : a = b) : Ending.returned (.bool a) = Ending.returned (.bool b) := by rw [h]
theorem ret_int {k : IntKind} {a b : Int} (h : a = b) : Ending.returned (.int k a) = Ending.returned (.int k b) := by rw [h]

theorem control_any (x : Nat) (hx : x ≤ 2147483647) (w : World) :
    Calls Try.prog 23 #[.int .i32 x] w fun e w' => e = .returned (.bool (ctl x)) ∧ w = w' := by
  by_cases h1 : x < 32
  · go_enter Try.func23, Try.ntmps23
    go_wp2_with fail
    go_ret
    exact ⟨ret_bool (by simp [ctl, h1]), rfl⟩
  · by_cases h2 : 127 ≤ x
    · go_enter Try.func23, Try.ntmps23
      go_wp2_with fail
      go_ret
      exact ⟨ret_bool (by unfold ctl; rw [Bool.eq_iff_iff]; simp; omega), rfl⟩
    · go_enter Try.func23, Try.ntmps23
      go_wp2_with fail
      go_ret
      exact ⟨ret_bool (by unfold ctl; rw [Bool.eq_iff_iff]; simp; omega), rfl⟩

/-- 'wrong' at a place of a string that is ranged over. -/
theorem wrong_at (s : ByteArray) (pos : Nat) (h : pos < s.size) (b : Bool) (hb : Hid (decide ((rd (s.data.toList.drop pos)).2 = 0) = b)) (w : World) :
    Calls Try.prog 22 #[.string (s.extract pos s.size), .int .i32 ((Utf8.decode s pos).1 : Nat)] w fun e w' => e = .returned (.bool b) ∧ w = w' := by
  refine (wrong_any _ _ w).mono ?_
  rintro e w' ⟨rfl, hw⟩
  refine ⟨ret_bool ?_, hw⟩
  rw [Lib.extract_data, List.take_of_length_le (by rw [List.length_drop, Lib.size_eq]; exact Nat.le_refl _), wrongB_at s pos h]
  exact hb.out

theorem decode_width (s : ByteArray) (pos : Nat) (h : pos < s.size) : 1 ≤ (Utf8.decode s pos).2 ∧ pos + (Utf8.decode s pos).2 ≤ s.size := by
  rw [decode_rd s pos h]
  by_cases h0 : (rd (s.data.toList.drop pos)).2 = 0
  · rw [if_pos h0]; exact ⟨Nat.le_refl _, h⟩
  · rw [if_neg h0]
    have := rd_le (s.data.toList.drop pos)
    rw [List.length_drop, ← Lib.size_eq] at this
    omega

/-- One step of the runes at a place. -/
theorem runes_drop_good (s : ByteArray) (pos : Nat) (h : pos < s.size) (h0 : ¬ (rd (s.data.toList.drop pos)).2 = 0) :
    runes (s.data.toList.drop pos) = (runes (s.data.toList.drop (pos + (Utf8.decode s pos).2))).map ((Utf8.decode s pos).1 :: ·) := by
  have hne : s.data.toList.drop pos ≠ [] := by
    intro e
    have := congrArg List.length e
    rw [List.length_drop, ← Lib.size_eq] at this
    simp at this; omega
  rw [runes_step _ hne, if_neg h0, List.drop_drop, decode_rd s pos h, if_neg h0]
theorem runes_drop_bad (s : ByteArray) (pos : Nat) (h : pos < s.size) (h0 : (rd (s.data.toList.drop pos)).2 = 0) :
    runes (s.data.toList.drop pos) = none := by
  have hne : s.data.toList.drop pos ≠ [] := by
    intro e
    have := congrArg List.length e
    rw [List.length_drop, ← Lib.size_eq] at this
    simp at this; omega
  rw [runes_step _ hne, if_pos h0]

/-- What is known at a loop's head: so many runes have been met. -/
def Met (s : ByteArray) (pos : Nat) (xs : List Nat) : Prop :=
  pos ≤ s.size ∧ xs.length ≤ pos ∧ runes s.data.toList = (runes (s.data.toList.drop pos)).map (xs ++ ·)

theorem Met.start (s : ByteArray) : Met s 0 [] := by
  refine ⟨Nat.zero_le _, Nat.le_refl _, ?_⟩
  simp
theorem Met.step {s : ByteArray} {pos : Nat} {xs : List Nat} (h : Met s pos xs) (hp : pos < s.size) (h0 : ¬ (rd (s.data.toList.drop pos)).2 = 0) :
    Met s (pos + (Utf8.decode s pos).2) (xs ++ [(Utf8.decode s pos).1]) := by
  obtain ⟨h1, h2, h3⟩ := h
  have hw := decode_width s pos hp
  refine ⟨hw.2, by simp; omega, ?_⟩
  rw [h3, runes_drop_good s pos hp h0]
  cases runes (s.data.toList.drop (pos + (Utf8.decode s pos).2)) <;> simp
theorem Met.bad {s : ByteArray} {pos : Nat} {xs : List Nat} (h : Met s pos xs) (hp : pos < s.size) (h0 : (rd (s.data.toList.drop pos)).2 = 0) :
    runes s.data.toList = none := by
  rw [h.2.2, runes_drop_bad s pos hp h0]; rfl
theorem Met.done {s : ByteArray} {pos : Nat} {xs : List Nat} (h : Met s pos xs) (hp : ¬ pos < s.size) : runes s.data.toList = some xs := by
  rw [h.2.2, List.drop_of_length_le (by rw [← Lib.size_eq]; omega), runes_nil]; simp

set_option maxHeartbeats 1000000 in
theorem Runes_any (s : ByteArray) (w : World) (hs : s.size ≤ maxLen) :
    Calls Try.prog 14 #[.string s] w fun e w' => e = .returned (.int .i64 (cnt s.data.toList)) ∧ Below w.heap.size w w' := by
  unfold maxLen at hs
  go_enter Try.func14, Try.ntmps14
  go_wp2_with fail
  go_loopw [3] (fun n wr => ∃ (pos : Nat) (xs : List Nat), wr.heap[w.heap.size]? = some (.stringIter s pos) ∧ Below w.heap.size w wr ∧ Hid (Met s pos xs) ∧ pos ≤ s.size ∧ xs.length ≤ pos ∧ n = .int .i64 (xs.length : Nat)) (fun _ wr => s.size - wr.iterPos w.heap.size)
  case atStart =>
    exact ⟨0, [], World.iter_heap w s 0, (Below.refl _ w).alloc (Nat.le_refl _) _, Met.start s, Nat.zero_le _, Nat.le_refl _, rfl⟩
  case round =>
    obtain ⟨pos, xs, hit, hbw, hmet, hle, hxl, rfl⟩ := hrel
    have hsz : w.heap.size < wr.heap.size := (Array.getElem?_eq_some_iff.1 hit).1
    by_cases hp : pos < s.size
    · have hnx : ∀ ty, (Instr.next (.pointer (some ⟨w.heap.size, 0, none⟩)) true ty).run Try.prog wr = _ := fun ty => Lib.run_next_any_at wr w.heap.size s pos ty hit hp
      have hwd := decode_width s pos hp
      have hd1 := decode_le s pos
      have hit2 := Lib.iterAt_heap wr w.heap.size s pos (pos + (Utf8.decode s pos).2) hit
      have hbw2 := Lib.below_iterAt hbw (k := w.heap.size) (Nat.le_refl _) s (pos + (Utf8.decode s pos).2)
      by_cases h0 : (rd (s.data.toList.drop pos)).2 = 0
      · have HB : Hid (decide ((rd (s.data.toList.drop pos)).2 = 0) = true) := decide_eq_true h0
        have HN : Hid (runes s.data.toList = none) := hmet.out.bad hp h0
        clear h0
        go_wp2_with (go_at_call 22; refine (wrong_at s pos hp _ HB _).mono ?_; rintro e w' ⟨rfl, rfl⟩)
        go_ret
        exact ⟨ret_int (by unfold cnt; rw [HN.out]), hbw2⟩
      · have HB : Hid (decide ((rd (s.data.toList.drop pos)).2 = 0) = false) := decide_eq_false h0
        have HM : Hid (Met s (pos + (Utf8.decode s pos).2) (xs ++ [(Utf8.decode s pos).1])) := hmet.out.step hp h0
        clear h0 hmet
        go_wp2_with (go_at_call 22; refine (wrong_at s pos hp _ HB _).mono ?_; rintro e w' ⟨rfl, rfl⟩)
        go_roundw
        case rel =>
          exact ⟨_, _, hit2, hbw2, HM, hwd.2, by simp; omega, by simp⟩
        case measure =>
          simp only [World.iterPos, hit2, hit]
          omega
    · have hnx : ∀ ty, (Instr.next (.pointer (some ⟨w.heap.size, 0, none⟩)) true ty).run Try.prog wr = _ := fun ty => Lib.run_next_end_at wr w.heap.size s pos ty hit hp
      have HD : Hid (runes s.data.toList = some xs) := hmet.out.done hp
      clear hmet
      go_wp2_with fail
      go_ret
      exact ⟨ret_int (by unfold cnt; rw [HD.out]), hbw⟩

theorem Valid_any (s : ByteArray) (w : World) (hs : s.size ≤ maxLen) :
    Calls Try.prog 13 #[.string s] w fun e w' => e = .returned (.bool (decide (0 ≤ cnt s.data.toList))) ∧ Below w.heap.size w w' := by
  go_enter Try.func13, Try.ntmps13
  go_wp2_with (go_at_call 14; refine (Runes_any s _ hs).mono ?_; rintro e w' ⟨rfl, hb⟩)
  go_ret
  exact ⟨rfl, hb⟩

end Go.Proofs.Ytjlnlidbdngbpaa
