/-
  Contracts of the document's answers: Runes, Count, Kind, Compare, Cut.
-/
import Derived.Test.YtjlnlidbdngbpaaWalkC
import Derived.Test.YtjlnlidbdngbpaaWalkD
import Derived.Laws.AppendOwn
import Derived.OwnWalk
namespace Go.Proofs.Ytjlnlidbdngbpaa
open Go.RowKit

theorem Read_at (s : ByteArray) (w : World) (hs : s.size ≤ maxLen) (x n : Nat) (h : Hid (rd s.data.toList = (x, n))) :
    Calls Try.prog 26 #[.string s] w fun e w' => e = .returned (.tuple #[.int .i64 (x : Nat), .int .i64 (n : Nat)]) ∧ w = w' := by
  refine (Read_any s w hs).mono ?_
  rintro e w' ⟨h1, h2⟩
  unfold RdAns at h1
  rw [h.out] at h1
  exact ⟨h1, h2⟩

theorem infoInt : (Try.prog.info? 3).map (fun i => (i.zero, i.size, i.bytes)) = some (some (.int .i64 0), 1, 8) := by kernel_rfl

/-- The numbers of a list, as cells. -/
def ints (xs : List Nat) : List Value := xs.map fun (x : Nat) => Value.int .i64 (x : Int)
theorem ints_length (xs : List Nat) : (ints xs).length = xs.length := by simp [ints]
theorem ints_snoc (xs : List Nat) (x : Nat) : ints (xs ++ [x]) = ints xs ++ [.int .i64 (x : Int)] := by simp [ints]

/-- What Runes answers: the runes in memory of the call's own, or nil. -/
def RunesAns (B : Nat) (s : ByteArray) (e : Ending) (w' : World) : Prop :=
  match runes s.data.toList with
  | some xs => ∃ (a0 : Option Addr) (cap : Nat), e = .returned (.tuple #[.slice a0 xs.length cap, .bool true]) ∧ w'.ownsRow B 3 1 (.slice a0 xs.length cap) xs.length (ints xs)
  | none => e = .returned (.tuple #[.slice none 0 0, .bool false])

theorem owns_shape {w : World} {B e n : Nat} {v : Value} {xs : List Value} (h : w.ownsRow B e 1 v n xs) : ∃ (a0 : Option Addr) (cap : Nat), v = .slice a0 n cap := by
  rcases h.2 with ⟨h1, h2⟩ | ⟨g, cap, cur, h1, _⟩
  · subst h2; exact ⟨none, 0, h1⟩
  · exact ⟨_, cap, h1⟩

/-- Where there is an element there is a block. -/
theorem owns_cells {w : World} {B e n cap : Nat} {a0 : Option Addr} {xs : List Nat} (h : w.ownsRow B e 1 (.slice a0 n cap) n (ints xs)) (hn : 0 < n) :
    ∃ g, a0 = some ⟨g, 0, none⟩ ∧ B ≤ g ∧ g < w.heap.size ∧ ∀ j, j < n → w.cell? ⟨g, j, none⟩ = some (.int .i64 ((xs[j]?.getD 0 : Nat) : Int)) := by
  rcases h.2 with ⟨_, h2⟩ | ⟨g, cap', cur, h1, h3, h4, h5, h6, h7, h8⟩
  · omega
  · cases h1
    refine ⟨g, rfl, h3, (Array.getElem?_eq_some_iff.1 h4).1, fun j hj => ?_⟩
    have hl : xs.length = n := by have := h.1; rw [ints_length] at this; omega
    have hc : cur.toList[j]? = some (.int .i64 ((xs[j]?.getD 0 : Nat) : Int)) := by
      have e1 : (cur.toList.take (n * 1))[j]? = cur.toList[j]? := List.getElem?_take_of_lt (by omega)
      rw [← e1, h8]
      unfold ints
      rw [List.getElem?_map, List.getElem?_eq_getElem (by omega)]
      simp
    simp only [World.cell?, h4]
    rw [Array.getElem?_toList] at hc
    simpa using hc

/-- The length of a slot's string. -/
def strLen : Value → Nat | .string s => s.size | _ => 0

theorem Met.good {s : ByteArray} {pos : Nat} {xs : List Nat} (h : Met s pos xs) (hp : pos < s.size) (h0 : ¬ (rd (s.data.toList.drop pos)).2 = 0) :
    Met s (pos + (rd (s.data.toList.drop pos)).2) (xs ++ [(rd (s.data.toList.drop pos)).1]) := by
  have := h.step hp h0
  rw [decode_rd s pos hp, if_neg h0] at this
  exact this

theorem rd_lt (l : List UInt8) : (rd l).1 < 2097152 := by
  by_cases h : (rd l).2 = 0
  · unfold rd at h ⊢
    by_cases h1 : l = []
    · rw [if_pos h1]; show 0 < _; omega
    rw [if_neg h1] at h ⊢
    by_cases h2 : at8 l 0 < 128
    · rw [if_pos h2] at h; simp at h
    rw [if_neg h2] at h ⊢
    by_cases h3 : leadN (at8 l 0) = 0 ∨ l.length < leadN (at8 l 0)
    · rw [if_pos h3]; show 0 < _; omega
    rw [if_neg h3] at h ⊢
    by_cases h4 : conts l (leadN (at8 l 0) - 1) = true ∧ okR (leadL (at8 l 0)) (acc l (leadX (at8 l 0)) (leadN (at8 l 0) - 1)) = true
    · rw [if_pos h4] at h; exact absurd (Or.inl h) h3
    · rw [if_neg h4]; show 0 < _; omega
  · exact (rd_sound l h).1.lt

set_option maxHeartbeats 2000000 in
theorem RefRunes_any (s : ByteArray) (w : World) (hs : s.size ≤ 1048576) :
    Calls Try.prog 21 #[.string s] w fun e w' => RunesAns w.heap.size s e w' ∧ Below w.heap.size w w' := by
  obtain ⟨i0, hi, hz0, hz1, hz2⟩ := info_parts infoInt
  go_enter Try.func21, Try.ntmps21
  go_wp2_with fail
  go_loopw [0, 4] (fun t l wr => ∃ (pos : Nat) (xs : List Nat) (r : ByteArray), Hid (Met s pos xs) ∧ Hid (r.data.toList = s.data.toList.drop pos) ∧ r.size + pos = s.size ∧ xs.length ≤ pos ∧ t = .string r ∧ wr.ownsRow w.heap.size 3 1 l xs.length (ints xs) ∧ Below w.heap.size w wr) (fun t _ _ => strLen t)
  case atStart => exact ⟨0, [], s, Met.start s, rfl, rfl, Nat.le_refl _, rfl, World.ownsRow_nil _ _ _ _, Below.refl _ _⟩
  case round =>
    obtain ⟨pos, xs, r, hmet, hr, hsz, hxl, rfl, hown, hbw⟩ := hrel
    by_cases hp : r.size = 0
    · obtain rfl : r = ⟨#[]⟩ := ByteArray.ext (Array.eq_empty_of_size_eq_zero hp)
      have HD : Hid (runes s.data.toList = some xs) := hmet.out.done (by omega)
      clear hp hsz hr hmet
      go_wp2_with fail
      go_ret2
      refine ⟨?_, hbw⟩
      unfold RunesAns
      rw [HD.out]
      obtain ⟨a0, cap, rfl⟩ := owns_shape hown
      exact ⟨_, _, rfl, hown⟩
    · obtain ⟨he1, he2, hne⟩ := nonempty_facts (s := r) (by omega)
      have hps : pos < s.size := by omega
      obtain ⟨x, n, hxn⟩ : ∃ x n, rd r.data.toList = (x, n) := ⟨_, _, rfl⟩
      have HR : Hid (rd r.data.toList = (x, n)) := hxn
      have hx : x < 2097152 := by have := rd_lt r.data.toList; rw [hxn] at this; exact this
      have hn : n ≤ r.size := by have := rd_le r.data.toList; rw [hxn, ← Lib.size_eq] at this; exact this
      have hrm : r.size ≤ maxLen := by unfold maxLen; omega
      by_cases h0 : n = 0
      · have HD : Hid (runes s.data.toList = none) := hmet.out.bad hps (by rw [← hr.out, hxn]; exact h0)
        have h0' : ((n : Int) == 0) = true := by rw [h0]; rfl
        clear hxn hne hmet h0
        go_wp2_with (go_at_call 26; refine (Read_at r _ hrm x n HR).mono ?_; rintro e w' ⟨rfl, rfl⟩)
        go_ret2
        refine ⟨?_, hbw⟩
        unfold RunesAns
        rw [HD.out]
        rfl
      · have HM : Hid (Met s (pos + n) (xs ++ [x])) := by
          have h := hmet.out.good hps (by rw [← hr.out, hxn]; exact h0)
          rw [← hr.out, hxn] at h
          exact h
        have HR2 : Hid ((r.extract n r.size).data.toList = s.data.toList.drop (pos + n)) := by
          show _ = _
          rw [Lib.extract_data, hr.out, List.take_of_length_le, List.drop_drop]
          rw [List.length_drop, List.length_drop, ← Lib.size_eq]; omega
        have hsz2 : (r.extract n r.size).size = r.size - n := by rw [ByteArray.size_extract]; omega
        have HS2 := Lib.hid hsz2
        clear hxn hne hmet hr hsz2
        go_wp2_with (first
          | (go_at_call 26; refine (Read_at r _ hrm x n HR).mono ?_; rintro e w' ⟨rfl, rfl⟩)
          | (at_builtin; refine wpList_append_own _ rfl _ _ 29 rfl w.heap.size 3 i0 (.int .i64 0) 1 8 Try.underlying29 hi hz0 hz1 hz2 rfl (by decide) _ _ _ rfl (hown.alloc _) ⟨_, 0, none⟩ 1 1 [.int .i64 (x : Nat)] rfl rfl ?c1 ?c2 ?c3 ?c4 ?c5 ?_))
        case c1 =>
          intro j u hj
          match j, hj with
          | 0, hj => simp at hj; subst hj; simp [Addr.add]
        case c2 => intro u hu; simp at hu; subst hu; rfl
        case c3 => unfold maxLen; omega
        case c4 => omega
        case c5 => have := hbw.size; simp; omega
        intro v' w1 hown' hgrow _
        have hb1 : Below w.heap.size w w1 := (hbw.alloc hbw.size _).grown hgrow (by have := hbw.size; simp; omega) (fun k hk => (hown.lt k hk).1)
        clear hown hgrow hbw
        go_wp2_with fail
        go_roundw
        case rel =>
          refine ⟨pos + n, xs ++ [x], _, HM, HR2, ?_, by simp; omega, rfl, ?_, hb1⟩
          · rw [HS2.out]; omega
          · rw [ints_snoc, List.length_append]; exact hown'
        case measure => simp [strLen, HS2.out]; omega

theorem Count_any (s : ByteArray) (w : World) (hs : s.size ≤ 1048576) :
    Calls Try.prog 11 #[.string s] w fun e w' => e = .returned (.int .i64 (cnt s.data.toList)) ∧ Below w.heap.size w w' := by
  cases hr : runes s.data.toList with
  | none =>
    have HR : Hid (cnt s.data.toList = -1) := cnt_none hr
    have HN := Lib.hid hr
    clear hr
    go_enter Try.func11, Try.ntmps11
    go_wp2_with (go_at_call 21; refine (RefRunes_any s _ hs).mono ?_; rintro e w1 ⟨ha, hb⟩; unfold RunesAns at ha; rw [HN.out] at ha; obtain rfl := ha)
    go_ret
    exact ⟨ret_int HR.out.symm, hb⟩
  | some xs =>
    have HR : Hid (cnt s.data.toList = xs.length) := cnt_some hr
    have HN := Lib.hid hr
    clear hr
    go_enter Try.func11, Try.ntmps11
    go_wp2_with (go_at_call 21; refine (RefRunes_any s _ hs).mono ?_; rintro e w1 ⟨ha, hb⟩; unfold RunesAns at ha; rw [HN.out] at ha; obtain ⟨a0, cap, rfl, hown⟩ := ha)
    go_ret
    exact ⟨ret_int HR.out.symm, hb⟩


theorem RefKind_bad (s : ByteArray) (w : World) (hs : s.size ≤ 1048576) (hy : runes s.data.toList = none) :
    Calls Try.prog 12 #[.string s] w fun e w' => e = .returned (.int .u8 (kind s.data.toList : Nat)) ∧ Below w.heap.size w w' := by
  have HN := Lib.hid hy
  have HK : Hid (kind s.data.toList = 0) := by unfold kind; show (match _ with | some xs => kindX xs | none => 0) = 0; rw [hy]
  clear hy
  go_enter Try.func12, Try.ntmps12
  go_wp2_with (go_at_call 21; refine (RefRunes_any s _ hs).mono ?_; rintro e w1 ⟨ha, hb⟩; unfold RunesAns at ha; rw [HN.out] at ha; obtain rfl := ha)
  go_ret
  exact ⟨ret_u8 HK.out.symm, hb⟩

theorem getD_take_any {xs : List Nat} {k : Nat} (hk : k < xs.length) : (xs.take (k + 1)).any ctl = ((xs.take k).any ctl || ctl (xs[k]?.getD 0)) := by
  rw [List.take_succ_eq_append_getElem hk, List.any_append]
  simp [List.getElem?_eq_getElem hk]

theorem any_of {xs : List Nat} {k : Nat} (hk : k < xs.length) (h : ctl (xs[k]?.getD 0) = true) : xs.any ctl = true := by
  rw [List.any_eq_true]
  exact ⟨xs[k], List.getElem_mem hk, by rw [List.getElem?_eq_getElem hk] at h; exact h⟩

theorem ctl_cases {x : Nat} (h : ctl x = true) : x < 32 ∨ (127 ≤ x ∧ x ≤ 159) := by
  unfold ctl at h; simp at h; omega
theorem ctl_no {x : Nat} (h : ctl x = false) : 32 ≤ x ∧ (x < 127 ∨ 159 < x) := by
  unfold ctl at h; simp at h; omega

theorem kindX_zero {xs : List Nat} (h : xs.length < 1 ∨ 64 < xs.length ∨ xs.any ctl = true) : kindX xs = 0 := by unfold kindX; rw [if_pos h]
theorem kindX_go {xs : List Nat} (h1 : 1 ≤ xs.length) (h2 : xs.length ≤ 64) (h3 : xs.any ctl = false) : kindX xs = kindOf (xs[0]?.getD 0) := by
  have hno : ¬ (xs.length < 1 ∨ 64 < xs.length ∨ xs.any ctl = true) := by
    rintro (h | h | h)
    · omega
    · omega
    · rw [h3] at h; cases h
  unfold kindX; rw [if_neg hno]

theorem mem_lt {l : List UInt8} {xs : List Nat} (h : runes l = some xs) (k : Nat) : xs[k]?.getD 0 < 2097152 := by
  by_cases hk : k < xs.length
  · rw [List.getElem?_eq_getElem hk]; exact ((runes_sound h).1 _ (List.getElem_mem hk)).lt
  · rw [List.getElem?_eq_none (by omega)]; show 0 < _; omega

set_option maxHeartbeats 2000000 in
theorem RefKind_good (s : ByteArray) (w : World) (hs : s.size ≤ 1048576) (xs : List Nat) (hy : runes s.data.toList = some xs) :
    Calls Try.prog 12 #[.string s] w fun e w' => e = .returned (.int .u8 (kind s.data.toList : Nat)) ∧ Below w.heap.size w w' := by
  have HN := Lib.hid hy
  have HK : Hid (kind s.data.toList = kindX xs) := kind_some hy
  have hl : xs.length ≤ 1048576 := by have := length_le_encs xs; rw [← encs_of hy, ← Lib.size_eq] at this; omega
  have hml := mem_lt hy
  clear hy
  by_cases h1 : xs.length < 1
  · have HZ : Hid (kindX xs = 0) := kindX_zero (Or.inl h1)
    clear hml
    go_enter Try.func12, Try.ntmps12
    go_wp2_with (go_at_call 21; refine (RefRunes_any s _ hs).mono ?_; rintro e w1 ⟨ha, hb⟩; unfold RunesAns at ha; rw [HN.out] at ha; obtain ⟨a0, cap, rfl, hown⟩ := ha)
    go_ret
    exact ⟨ret_u8 (by rw [HK.out, HZ.out]), hb⟩
  by_cases h2 : 64 < xs.length
  · have HZ : Hid (kindX xs = 0) := kindX_zero (Or.inr (Or.inl h2))
    clear hml
    go_enter Try.func12, Try.ntmps12
    go_wp2_with (go_at_call 21; refine (RefRunes_any s _ hs).mono ?_; rintro e w1 ⟨ha, hb⟩; unfold RunesAns at ha; rw [HN.out] at ha; obtain ⟨a0, cap, rfl, hown⟩ := ha)
    go_ret
    exact ⟨ret_u8 (by rw [HK.out, HZ.out]), hb⟩
  have HM := Lib.hid hml
  clear hml
  have d1 : decide (((xs.length : Nat) : Int) < 1) = false := by simp; omega
  have d2 : decide ((64 : Int) < ((xs.length : Nat) : Int)) = false := by simp; omega
  go_enter Try.func12, Try.ntmps12
  go_wp2_with (go_at_call 21; refine (RefRunes_any s _ hs).mono ?_; rintro e w1 ⟨ha, hb⟩; unfold RunesAns at ha; rw [HN.out] at ha; obtain ⟨a0, cap, rfl, hown⟩ := ha; obtain ⟨g, rfl, hg1, hg2, hcell⟩ := owns_cells hown (by omega); have HC := Lib.hid hcell; clear hcell hown)
  go_loop [5] (fun i => ∃ k : Nat, k ≤ xs.length ∧ i = .int .i64 (k : Nat) ∧ Hid ((xs.take k).any ctl = false)) (fun i => xs.length - (intOf i).toNat)
  case atStart => exact ⟨0, Nat.zero_le _, rfl, rfl⟩
  case round =>
    obtain ⟨k, hk, rfl, hno⟩ := hrel
    by_cases hlt : k < xs.length
    · have hcx := HC.out k hlt
      have hmx := HM.out k
      obtain ⟨x, hx⟩ : ∃ x, x = xs[k]?.getD 0 := ⟨_, rfl⟩
      rw [← hx] at hcx hmx
      have HX := Lib.hid hx
      clear hx
      by_cases hc : ctl x = true
      · have HZ : Hid (kindX xs = 0) := kindX_zero (Or.inr (Or.inr (any_of hlt (by rw [← HX.out]; exact hc))))
        rcases ctl_cases hc with o | ⟨o, o2⟩
        · clear hc
          go_wp2_with fail
          go_ret
          exact ⟨ret_u8 (by rw [HK.out, HZ.out]), hb⟩
        · clear hc
          go_wp2_with fail
          go_ret
          exact ⟨ret_u8 (by rw [HK.out, HZ.out]), hb⟩
      · have hc' : ctl x = false := by simpa using hc
        have HT : Hid ((xs.take (k + 1)).any ctl = false) := by
          show _ = _
          rw [getD_take_any hlt, hno.out, ← HX.out, hc']; rfl
        obtain ⟨o1, o2⟩ := ctl_no hc'
        clear hc hc'
        rcases o2 with o2 | o2
        · go_wp2_with fail
          go_round
          case rel => exact ⟨k + 1, by omega, by go_num, HT⟩
          case measure => simp [intOf]; omega
        · go_wp2_with fail
          go_round
          case rel => exact ⟨k + 1, by omega, by go_num, HT⟩
          case measure => simp [intOf]; omega
    · have HZ : Hid (kindX xs = kindOf (xs[0]?.getD 0)) := kindX_go (by omega) (by omega) (by have := hno.out; rw [List.take_of_length_le (by omega)] at this; exact this)
      have hcx := HC.out 0 (by omega)
      obtain ⟨x, hx⟩ : ∃ x, x = xs[0]?.getD 0 := ⟨_, rfl⟩
      rw [← hx] at hcx
      have HX := Lib.hid hx
      clear hx
      by_cases a : x = 35
      · subst a
        go_wp2_with fail
        go_ret
        exact ⟨ret_u8 (by rw [HK.out, HZ.out, ← HX.out]; rfl), hb⟩
      by_cases a2 : x = 64
      · subst a2
        go_wp2_with fail
        go_ret
        exact ⟨ret_u8 (by rw [HK.out, HZ.out, ← HX.out]; rfl), hb⟩
      by_cases a3 : x = 61
      · subst a3
        go_wp2_with fail
        go_ret
        exact ⟨ret_u8 (by rw [HK.out, HZ.out, ← HX.out]; rfl), hb⟩
      have HF : Hid (kindOf x = 0) := by show _ = _; simp [kindOf, a, a2, a3]
      have n1 : ((x : Int) == 35) = false := by simp; omega
      have n2 : ((x : Int) == 64) = false := by simp; omega
      have n3 : ((x : Int) == 61) = false := by simp; omega
      clear a a2 a3
      go_wp2_with fail
      go_ret
      exact ⟨ret_u8 (by rw [HK.out, HZ.out, ← HX.out, HF.out]), hb⟩

theorem RefKind_any (s : ByteArray) (w : World) (hs : s.size ≤ 1048576) :
    Calls Try.prog 12 #[.string s] w fun e w' => e = .returned (.int .u8 (kind s.data.toList : Nat)) ∧ Below w.heap.size w w' := by
  cases hy : runes s.data.toList with
  | none => exact RefKind_bad s w hs hy
  | some xs => exact RefKind_good s w hs xs hy

end Go.Proofs.Ytjlnlidbdngbpaa
