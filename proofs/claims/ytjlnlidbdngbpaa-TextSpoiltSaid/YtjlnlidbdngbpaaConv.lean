/-
  A slice of bytes that is written out, as a string; masks; contracts at named results.
-/
import Derived.Test.YtjlnlidbdngbpaaWalkC
import Derived.Test.YtjlnlidbdngbpaaMath
import Derived.Laws.BytesArg
import Derived.OpenShut
import Derived.IntWalk
namespace Go.Proofs.Ytjlnlidbdngbpaa
open Go.RowKit

theorem conv (W : World) (xs : List Int) :
    (convert 34 9 (.slice (some ⟨W.heap.size, 0, none⟩) xs.length xs.length)).run Try.prog (W.alloc (.cells (xs.map (Value.int .u8)).toArray 5)) =
      .ok (.string (str (xs.map fun n => UInt8.ofNat n.toNat))) (W.alloc (.cells (xs.map (Value.int .u8)).toArray 5)) := by
  refine run_convert_bytes_arg _ 34 5 Try.underlying34 Try.underlying5 W.heap.size 0 xs.length xs.length xs rfl (fun i hi => ?_) 9 Try.underlying9
  rw [World.cell?_alloc_at _ _ _ _ rfl]
  simp [List.getElem?_eq_getElem hi, List.getD]

theorem conv1 (W : World) (a : Int) (S : ByteArray) (h : Hid (str [UInt8.ofNat a.toNat] = S)) :
    (convert 34 9 (.slice (some ⟨W.heap.size, 0, none⟩) 1 1)).run Try.prog (W.alloc (.cells #[.int .u8 a] 5)) = .ok (.string S) (W.alloc (.cells #[.int .u8 a] 5)) := by
  rw [← h.out]; exact conv W [a]
theorem conv2 (W : World) (a b : Int) (S : ByteArray) (h : Hid (str [UInt8.ofNat a.toNat, UInt8.ofNat b.toNat] = S)) :
    (convert 34 9 (.slice (some ⟨W.heap.size, 0, none⟩) 2 2)).run Try.prog (W.alloc (.cells #[.int .u8 a, .int .u8 b] 5)) = .ok (.string S) (W.alloc (.cells #[.int .u8 a, .int .u8 b] 5)) := by
  rw [← h.out]; exact conv W [a, b]
theorem conv3 (W : World) (a b c : Int) (S : ByteArray) (h : Hid (str [UInt8.ofNat a.toNat, UInt8.ofNat b.toNat, UInt8.ofNat c.toNat] = S)) :
    (convert 34 9 (.slice (some ⟨W.heap.size, 0, none⟩) 3 3)).run Try.prog (W.alloc (.cells #[.int .u8 a, .int .u8 b, .int .u8 c] 5)) = .ok (.string S) (W.alloc (.cells #[.int .u8 a, .int .u8 b, .int .u8 c] 5)) := by
  rw [← h.out]; exact conv W [a, b, c]
theorem conv4 (W : World) (a b c d : Int) (S : ByteArray) (h : Hid (str [UInt8.ofNat a.toNat, UInt8.ofNat b.toNat, UInt8.ofNat c.toNat, UInt8.ofNat d.toNat] = S)) :
    (convert 34 9 (.slice (some ⟨W.heap.size, 0, none⟩) 4 4)).run Try.prog (W.alloc (.cells #[.int .u8 a, .int .u8 b, .int .u8 c, .int .u8 d] 5)) = .ok (.string S) (W.alloc (.cells #[.int .u8 a, .int .u8 b, .int .u8 c, .int .u8 d] 5)) := by
  rw [← h.out]; exact conv W [a, b, c, d]

theorem and63 (m : Nat) (h : m < 4294967296) : bits BinOp.and IntKind.i64 (m : Int) 63 = ((m % 64 : Nat) : Int) := by
  have h1 : (BitVec.ofInt 64 (m : Int)).toNat = m := by
    rw [BitVec.ofInt_natCast, BitVec.toNat_ofNat]; exact Nat.mod_eq_of_lt (by omega)
  have h2 : (BitVec.ofInt 64 (63 : Int)).toNat = 63 := rfl
  show IntKind.i64.wrap ((BitVec.ofInt 64 (m : Int) &&& BitVec.ofInt 64 (63 : Int)).toNat : Int) = _
  rw [BitVec.toNat_and, h1, h2, show (63 : Nat) = 2 ^ 6 - 1 from rfl, Nat.and_two_pow_sub_one_eq_mod]
  exact IntWalk.i64_in _ (by omega)

theorem Runes_at (s : ByteArray) (w : World) (hs : s.size ≤ maxLen) (c : Int) (h : Hid (cnt s.data.toList = c)) :
    Calls Try.prog 14 #[.string s] w fun e w' => e = .returned (.int .i64 c) ∧ Below w.heap.size w w' := by
  refine (Runes_any s w hs).mono ?_
  rintro e w' ⟨rfl, hw⟩
  exact ⟨ret_int h.out, hw⟩
theorem Key_at (s : ByteArray) (w : World) (hs : s.size ≤ maxLen) (b : Bool) (h : Hid ((((kind s.data.toList : Nat) : Int) != 0) = b)) :
    Calls Try.prog 15 #[.string s] w fun e w' => e = .returned (.bool b) ∧ Below w.heap.size w w' := by
  refine (Key_any s w hs).mono ?_
  rintro e w' ⟨rfl, hw⟩
  exact ⟨ret_bool h.out, hw⟩
theorem Kind_at (s : ByteArray) (w : World) (hs : s.size ≤ maxLen) (k : Nat) (h : Hid (kind s.data.toList = k)) :
    Calls Try.prog 16 #[.string s] w fun e w' => e = .returned (.int .u8 (k : Nat)) ∧ Below w.heap.size w w' := by
  refine (Kind_any s w hs).mono ?_
  rintro e w' ⟨rfl, hw⟩
  exact ⟨ret_u8 h.out, hw⟩
theorem Cut_at (s : ByteArray) (N : Int) (w : World) (hs : s.size ≤ 281474976710656) (hn1 : -9223372036854775808 ≤ N) (hn2 : N ≤ 9223372036854775807) (r : ByteArray) (h : Hid (str (cut s.data.toList N) = r)) :
    Calls Try.prog 19 #[.string s, .int .i64 N] w fun e w' => e = .returned (.string r) ∧ Below w.heap.size w w' := by
  refine (Cut_any s N w hs hn1 hn2).mono ?_
  rintro e w' ⟨rfl, hw⟩
  exact ⟨ret_str h.out, hw⟩
theorem Compare_at (a b : ByteArray) (w : World) (c : Int) (h : Hid (Lib.compareBytes a.data.toList b.data.toList = c)) :
    Calls Try.prog 17 #[.string a, .string b] w fun e w' => e = .returned (.int .i64 c) ∧ w = w' := by
  refine (Compare_any a b w).mono ?_
  rintro e w' ⟨rfl, hw⟩
  exact ⟨ret_int h.out, hw⟩

/-- A number's own bytes, alone. -/
theorem runes_enc {x : Nat} (hx : x < 2097152) : runes (enc x) = if IsRune x then some [x] else none := by
  have h := rd_enc_gen x [] hx
  rw [List.append_nil] at h
  rw [runes_step _ (enc_ne x), h]
  have := enc_pos x
  by_cases hr : IsRune x
  · rw [if_pos hr, if_pos hr, if_neg (by show ¬ (enc x).length = 0; omega), List.drop_length, runes_nil]; rfl
  · rw [if_neg hr, if_neg hr, if_pos rfl]
theorem kind_hash {x : Nat} (hx : x < 2097152) : kind (35 :: enc x) = if IsRune x ∧ ctl x = false then 1 else 0 := by
  have e : (35 :: enc x : List UInt8) = encs [35] ++ enc x := rfl
  have h := runes_encs_append [35] (enc x) (by intro y hy; simp at hy; subst hy; decide)
  rw [runes_enc hx] at h
  rw [e]
  by_cases hr : IsRune x
  · rw [if_pos hr] at h
    have h2 : runes (encs [35] ++ enc x) = some [35, x] := by rw [h]; rfl
    rw [kind_some h2]
    unfold kindX
    by_cases hc : ctl x = true
    · rw [if_pos (by right; right; simp [hc]), if_neg (by rw [hc]; simp)]
    · have hc' : ctl x = false := by simpa using hc
      have h35 : ctl 35 = false := by decide
      rw [if_neg (by simp [hc', h35]), if_pos ⟨hr, hc'⟩]; rfl
  · rw [if_neg hr] at h
    have h2 : runes (encs [35] ++ enc x) = none := by rw [h]; rfl
    unfold kind
    rw [h2, if_neg (fun hh => hr hh.1)]

end Go.Proofs.Ytjlnlidbdngbpaa
