/-
  The walk of the law TextKeys.
-/
import Derived.Test.YtjlnlidbdngbpaaAlive
import Derived.Test.YtjlnlidbdngbpaaConv
namespace Go.Proofs.Ytjlnlidbdngbpaa.textKeys
open Go.RowKit

theorem conv2_after (W : World) (o : Obj) (a b : Int) (S : ByteArray) (h : Hid (str [UInt8.ofNat a.toNat, UInt8.ofNat b.toNat] = S)) :
    (convert 34 9 (.slice (some ⟨W.heap.size + 1, 0, none⟩) 2 2)).run Try.prog ((W.alloc o).alloc (.cells #[.int .u8 a, .int .u8 b] 5)) = .ok (.string S) ((W.alloc o).alloc (.cells #[.int .u8 a, .int .u8 b] 5)) := by
  have e : (W.alloc o).heap.size = W.heap.size + 1 := by simp
  have := conv2 (W.alloc o) a b S h
  rw [e] at this
  exact this

/-- Runes that are a key's. -/
structure GoodKey (ys : List Nat) : Prop where
  one : 1 ≤ ys.length
  most : ys.length ≤ 64
  fine : ys.any ctl = false
  pos : 1 ≤ kindX ys

theorem kindX_le (ys : List Nat) : kindX ys ≤ 3 := by
  unfold kindX kindOf
  repeat' split
  all_goals omega

theorem kindX_long {ys : List Nat} (h : 64 < ys.length) : kindX ys = 0 := by unfold kindX; rw [if_pos (Or.inr (Or.inl h))]
theorem kindX_bad {ys : List Nat} {x : Nat} (h : ctl x = true) : kindX (ys ++ [x]) = 0 := by unfold kindX; rw [if_pos (Or.inr (Or.inr (by simp [h])))]
theorem kindX_is {ys : List Nat} (h1 : 1 ≤ ys.length) (h2 : ys.length ≤ 64) (h3 : ys.any ctl = false) : kindX ys = kindOf (ys[0]?.getD 0) := by
  have hno : ¬ (ys.length < 1 ∨ 64 < ys.length ∨ ys.any ctl = true) := by
    rintro (h | h | h)
    · omega
    · omega
    · rw [h3] at h; cases h
  unfold kindX; rw [if_neg hno]

theorem GoodKey.of {ys : List Nat} (h : kindX ys ≠ 0) : GoodKey ys := by
  by_cases hno : ys.length < 1 ∨ 64 < ys.length ∨ ys.any ctl = true
  · exact absurd (by unfold kindX; rw [if_pos hno]) h
  · have h1 : ¬ ys.length < 1 := fun e => hno (Or.inl e)
    have h2 : ¬ 64 < ys.length := fun e => hno (Or.inr (Or.inl e))
    have h3 : ¬ ys.any ctl = true := fun e => hno (Or.inr (Or.inr e))
    exact ⟨by omega, by omega, by simpa using h3, by omega⟩

theorem GoodKey.cut {ys : List Nat} (h : GoodKey ys) {k : Nat} (hk : 1 ≤ k) : kindX (ys.take k) = kindX ys := by
  have h1 := h.one; have h2 := h.most
  rw [kindX_is h.one h.most h.fine, kindX_is (by rw [List.length_take]; omega) (by rw [List.length_take]; omega), List.getElem?_take_of_lt (by omega)]
  rw [Bool.eq_false_iff]
  intro e
  rw [List.any_eq_true] at e
  obtain ⟨x, hx, hc⟩ := e
  have := h.fine
  rw [Bool.eq_false_iff] at this
  exact this (List.any_eq_true.2 ⟨x, List.mem_of_mem_take hx, hc⟩)

theorem GoodKey.more {ys : List Nat} (h : GoodKey ys) {x : Nat} (hx : ctl x = false) (hl : ys.length < 64) : kindX (ys ++ [x]) = kindX ys := by
  have h1 := h.one
  rw [kindX_is h.one h.most h.fine, kindX_is (by simp) (by simp; omega) (by rw [List.any_append, h.fine]; simp [hx]), List.getElem?_append_left (by omega)]

set_option maxHeartbeats 2000000 in
set_option maxRecDepth 100000 in
theorem walk_one_full (s : ByteArray) (n : Int) (y : Nat) (hs : s.size ≤ 4096) (hn : 0 ≤ n ∧ n ≤ 255) (hyb : y ≤ 65535) (h3 : (((y : Nat) : Int) % 3 == 0) = false) (ys : List Nat) (hy : runes s.data.toList = some ys) (hg : GoodKey ys) (hl : 64 ≤ ys.length) (w : World) :
    Calls Try.prog 7 #[.string s, .int .u8 n, .int .u16 ((y : Nat) : Int)] w fun e w' => e = .returned (.bool true) ∧ Below w.heap.size w w' := by
  have HB : Below w.heap.size w w := Below.refl _ _
  have HY := Lib.hid hy
  obtain ⟨K, hK⟩ : ∃ K, K = kindX ys := ⟨_, rfl⟩
  have hK0 : 1 ≤ K := by rw [hK]; exact hg.pos
  have hK3 : K ≤ 3 := by rw [hK]; exact kindX_le ys
  have HK : Hid (kind s.data.toList = K) := by show _ = _; rw [hK]; exact kind_some hy
  have HKs : Hid ((((kind s.data.toList : Nat) : Int) != 0) = true) := by show _ = _; rw [HK.out]; simp; omega
  have hsm : s.size ≤ maxLen := by unfold maxLen; omega
  have hs2 : s.size ≤ 281474976710656 := by omega
  obtain ⟨C, hC⟩ : ∃ C, C = str (cut s.data.toList (1 + n % 70)) := ⟨_, rfl⟩
  have HC : Hid (str (cut s.data.toList (1 + n % 70)) = C) := hC.symm
  have hCd : C.data.toList = cut s.data.toList (1 + n % 70) := by rw [hC]; rfl
  have hCs : C.size ≤ 4096 := by rw [Lib.size_eq, hCd]; exact Nat.le_trans (cut_len hy _) (by rw [← Lib.size_eq]; exact hs)
  have hCm : C.size ≤ maxLen := by unfold maxLen; omega
  have HKC : Hid (kind C.data.toList = K) := by show _ = _; rw [hCd, kind_some (runes_cut hy _), hK]; exact hg.cut (by omega)
  have HKCs : Hid ((((kind C.data.toList : Nat) : Int) != 0) = true) := by show _ = _; rw [HKC.out]; simp; omega
  obtain ⟨R, hR⟩ : ∃ R, R = str (enc (97 + y % 26)) := ⟨_, rfl⟩
  have hRd : R.data.toList = enc (97 + y % 26) := by rw [hR]; rfl
  have hRs : R.size ≤ 4 := by rw [Lib.size_eq, hRd]; exact enc_le _
  have hTd : (s ++ R).data.toList = s.data.toList ++ enc (97 + y % 26) := by rw [ByteArray.data_append, Array.toList_append, hRd]
  have hTr : runes (s ++ R).data.toList = some (ys ++ [(97 + y % 26)]) := by
    rw [hTd, runes_append hy, runes_enc (by omega), if_pos (by unfold IsRune; omega)]; rfl
  have hTm : (s ++ R).size ≤ maxLen := by rw [ByteArray.size_append]; unfold maxLen; omega
  have HKT : Hid (kind (s ++ R).data.toList = 0) := by
    show _ = _
    rw [kind_some hTr]
    exact kindX_long (by simp; omega)
  have HKTs : Hid ((((kind (s ++ R).data.toList : Nat) : Int) != 0) = false) := by show _ = _; rw [HKT.out]; rfl
  have h31 : Hid ((((kind (s ++ ⟨#[31]⟩ : ByteArray).data.toList : Nat) : Int) != 0) = false) := by
    have e : (s ++ ⟨#[31]⟩ : ByteArray).data.toList = s.data.toList ++ enc 31 := by rw [ByteArray.data_append, Array.toList_append]; rfl
    show _ = _
    rw [e, kind_some (ys := ys ++ [31]) (by rw [runes_append hy, runes_enc (by omega), if_pos (by unfold IsRune; omega)]; rfl), kindX_bad (by decide)]; rfl
  have h127 : Hid ((((kind (s ++ ⟨#[127]⟩ : ByteArray).data.toList : Nat) : Int) != 0) = false) := by
    have e : (s ++ ⟨#[127]⟩ : ByteArray).data.toList = s.data.toList ++ enc 127 := by rw [ByteArray.data_append, Array.toList_append]; rfl
    show _ = _
    rw [e, kind_some (ys := ys ++ [127]) (by rw [runes_append hy, runes_enc (by omega), if_pos (by unfold IsRune; omega)]; rfl), kindX_bad (by decide)]; rfl
  have h31m : (s ++ ⟨#[31]⟩ : ByteArray).size ≤ maxLen := by rw [ByteArray.size_append]; unfold maxLen; show s.size + 1 ≤ _; omega
  have h127m : (s ++ ⟨#[127]⟩ : ByteArray).size ≤ maxLen := by rw [ByteArray.size_append]; unfold maxLen; show s.size + 1 ≤ _; omega
  have K1 := Lib.hid (fun W => Key_at (s ++ R) W hTm _ HKTs)
  have K2 := Lib.hid (fun W => Kind_at (s ++ R) W hTm _ HKT)
  have K3 := Lib.hid (fun W => Key_at (s ++ ⟨#[31]⟩) W h31m _ h31)
  have K4 := Lib.hid (fun W => Key_at (s ++ ⟨#[127]⟩) W h127m _ h127)
  obtain ⟨R1, hR1⟩ : ∃ R1, R1 = str [UInt8.ofNat (97 + ((y : Nat) : Int) % 26).toNat] := ⟨_, rfl⟩
  have hcv1 := fun W => conv1 W (97 + ((y : Nat) : Int) % 26) R1 hR1.symm
  have hRR : R1 = R := by
    rw [hR1, hR, show (97 + ((y : Nat) : Int) % 26).toNat = 97 + y % 26 by omega]
    unfold enc; rw [if_pos (by omega)]
  rw [hRR] at hcv1
  have d1 : decide ((ys.length : Int) < 64) = false := by simp; omega
  have HN : Hid (cnt s.data.toList = (ys.length : Nat)) := cnt_some hy
  have hl2 : ys.length ≤ 4096 := by have := length_le_encs ys; rw [← (runes_sound hy).2, ← Lib.size_eq] at this; omega
  clear hy hg hK hC hCd hR hRd hTd hTr hR1 hTm h31m h127m HKT HKTs h31 h127 hRR
  go_enter Try.func7, Try.ntmps7
  go_wp2_with fail
  refine (Key_at s _ hsm _ HKs).mono ?_
  rintro e w' ⟨rfl, hb⟩
  replace HB := HB.trans (hb.mono HB.size)
  clear hb
  go_wp2_with fail
  refine (Cut_at s (1 + n % 70) _ hs2 (by omega) (by omega) C HC).mono ?_
  rintro e w' ⟨rfl, hb⟩
  replace HB := HB.trans (hb.mono HB.size)
  clear hb
  go_wp2_with fail
  refine (Key_at C _ hCm _ HKCs).mono ?_
  rintro e w' ⟨rfl, hb⟩
  replace HB := HB.trans (hb.mono HB.size)
  clear hb
  go_wp2_with fail
  refine (Kind_at C _ hCm _ HKC).mono ?_
  rintro e w' ⟨rfl, hb⟩
  replace HB := HB.trans (hb.mono HB.size)
  clear hb
  go_wp2_with fail
  refine (Kind_at s _ hsm _ HK).mono ?_
  rintro e w' ⟨rfl, hb⟩
  replace HB := HB.trans (hb.mono HB.size)
  clear hb
  replace HB := HB.alloc HB.size (.cells #[.int .u8 (97 + ((y : Nat) : Int) % 26)] 5)
  go_wp2_with fail
  refine (K1.out _).mono ?_
  rintro e w' ⟨rfl, hb⟩
  replace HB := HB.trans (hb.mono HB.size)
  clear hb
  go_wp2_with fail
  refine (Runes_at s _ hsm _ HN).mono ?_
  rintro e w' ⟨rfl, hb⟩
  replace HB := HB.trans (hb.mono HB.size)
  clear hb
  go_wp2_with fail
  refine (K1.out _).mono ?_
  rintro e w' ⟨rfl, hb⟩
  replace HB := HB.trans (hb.mono HB.size)
  clear hb
  go_wp2_with fail
  refine (K3.out _).mono ?_
  rintro e w' ⟨rfl, hb⟩
  replace HB := HB.trans (hb.mono HB.size)
  clear hb
  go_wp2_with fail
  refine (K4.out _).mono ?_
  rintro e w' ⟨rfl, hb⟩
  replace HB := HB.trans (hb.mono HB.size)
  clear hb
  go_wp2_with fail
  refine (alive_any _).mono ?_
  rintro e w' ⟨rfl, hb⟩
  replace HB := HB.trans (hb.mono HB.size)
  clear hb
  go_wp2_with fail
  go_ret
  exact ⟨rfl, HB⟩

set_option maxHeartbeats 2000000 in
set_option maxRecDepth 100000 in
theorem walk_one_short (s : ByteArray) (n : Int) (y : Nat) (hs : s.size ≤ 4096) (hn : 0 ≤ n ∧ n ≤ 255) (hyb : y ≤ 65535) (h3 : (((y : Nat) : Int) % 3 == 0) = false) (ys : List Nat) (hy : runes s.data.toList = some ys) (hg : GoodKey ys) (hl : ys.length < 64) (w : World) :
    Calls Try.prog 7 #[.string s, .int .u8 n, .int .u16 ((y : Nat) : Int)] w fun e w' => e = .returned (.bool true) ∧ Below w.heap.size w w' := by
  have HB : Below w.heap.size w w := Below.refl _ _
  have HY := Lib.hid hy
  obtain ⟨K, hK⟩ : ∃ K, K = kindX ys := ⟨_, rfl⟩
  have hK0 : 1 ≤ K := by rw [hK]; exact hg.pos
  have hK3 : K ≤ 3 := by rw [hK]; exact kindX_le ys
  have HK : Hid (kind s.data.toList = K) := by show _ = _; rw [hK]; exact kind_some hy
  have HKs : Hid ((((kind s.data.toList : Nat) : Int) != 0) = true) := by show _ = _; rw [HK.out]; simp; omega
  have hsm : s.size ≤ maxLen := by unfold maxLen; omega
  have hs2 : s.size ≤ 281474976710656 := by omega
  obtain ⟨C, hC⟩ : ∃ C, C = str (cut s.data.toList (1 + n % 70)) := ⟨_, rfl⟩
  have HC : Hid (str (cut s.data.toList (1 + n % 70)) = C) := hC.symm
  have hCd : C.data.toList = cut s.data.toList (1 + n % 70) := by rw [hC]; rfl
  have hCs : C.size ≤ 4096 := by rw [Lib.size_eq, hCd]; exact Nat.le_trans (cut_len hy _) (by rw [← Lib.size_eq]; exact hs)
  have hCm : C.size ≤ maxLen := by unfold maxLen; omega
  have HKC : Hid (kind C.data.toList = K) := by show _ = _; rw [hCd, kind_some (runes_cut hy _), hK]; exact hg.cut (by omega)
  have HKCs : Hid ((((kind C.data.toList : Nat) : Int) != 0) = true) := by show _ = _; rw [HKC.out]; simp; omega
  obtain ⟨R, hR⟩ : ∃ R, R = str (enc (97 + y % 26)) := ⟨_, rfl⟩
  have hRd : R.data.toList = enc (97 + y % 26) := by rw [hR]; rfl
  have hRs : R.size ≤ 4 := by rw [Lib.size_eq, hRd]; exact enc_le _
  have hTd : (s ++ R).data.toList = s.data.toList ++ enc (97 + y % 26) := by rw [ByteArray.data_append, Array.toList_append, hRd]
  have hTr : runes (s ++ R).data.toList = some (ys ++ [(97 + y % 26)]) := by
    rw [hTd, runes_append hy, runes_enc (by omega), if_pos (by unfold IsRune; omega)]; rfl
  have hTm : (s ++ R).size ≤ maxLen := by rw [ByteArray.size_append]; unfold maxLen; omega
  have HKT : Hid (kind (s ++ R).data.toList = K) := by
    show _ = _
    rw [kind_some hTr, hK]
    exact hg.more (by simp [ctl]; omega) hl
  have HKTs : Hid ((((kind (s ++ R).data.toList : Nat) : Int) != 0) = true) := by show _ = _; rw [HKT.out]; simp; omega
  have h31 : Hid ((((kind (s ++ ⟨#[31]⟩ : ByteArray).data.toList : Nat) : Int) != 0) = false) := by
    have e : (s ++ ⟨#[31]⟩ : ByteArray).data.toList = s.data.toList ++ enc 31 := by rw [ByteArray.data_append, Array.toList_append]; rfl
    show _ = _
    rw [e, kind_some (ys := ys ++ [31]) (by rw [runes_append hy, runes_enc (by omega), if_pos (by unfold IsRune; omega)]; rfl), kindX_bad (by decide)]; rfl
  have h127 : Hid ((((kind (s ++ ⟨#[127]⟩ : ByteArray).data.toList : Nat) : Int) != 0) = false) := by
    have e : (s ++ ⟨#[127]⟩ : ByteArray).data.toList = s.data.toList ++ enc 127 := by rw [ByteArray.data_append, Array.toList_append]; rfl
    show _ = _
    rw [e, kind_some (ys := ys ++ [127]) (by rw [runes_append hy, runes_enc (by omega), if_pos (by unfold IsRune; omega)]; rfl), kindX_bad (by decide)]; rfl
  have h31m : (s ++ ⟨#[31]⟩ : ByteArray).size ≤ maxLen := by rw [ByteArray.size_append]; unfold maxLen; show s.size + 1 ≤ _; omega
  have h127m : (s ++ ⟨#[127]⟩ : ByteArray).size ≤ maxLen := by rw [ByteArray.size_append]; unfold maxLen; show s.size + 1 ≤ _; omega
  have K1 := Lib.hid (fun W => Key_at (s ++ R) W hTm _ HKTs)
  have K2 := Lib.hid (fun W => Kind_at (s ++ R) W hTm _ HKT)
  have K3 := Lib.hid (fun W => Key_at (s ++ ⟨#[31]⟩) W h31m _ h31)
  have K4 := Lib.hid (fun W => Key_at (s ++ ⟨#[127]⟩) W h127m _ h127)
  obtain ⟨R1, hR1⟩ : ∃ R1, R1 = str [UInt8.ofNat (97 + ((y : Nat) : Int) % 26).toNat] := ⟨_, rfl⟩
  have hcv1 := fun W => conv1 W (97 + ((y : Nat) : Int) % 26) R1 hR1.symm
  have hRR : R1 = R := by
    rw [hR1, hR, show (97 + ((y : Nat) : Int) % 26).toNat = 97 + y % 26 by omega]
    unfold enc; rw [if_pos (by omega)]
  rw [hRR] at hcv1
  have d1 : decide ((ys.length : Int) < 64) = true := by simp; omega
  have HN : Hid (cnt s.data.toList = (ys.length : Nat)) := cnt_some hy
  have hl2 : ys.length ≤ 4096 := by have := length_le_encs ys; rw [← (runes_sound hy).2, ← Lib.size_eq] at this; omega
  clear hy hg hK hC hCd hR hRd hTd hTr hR1 hTm h31m h127m HKT HKTs h31 h127 hRR
  go_enter Try.func7, Try.ntmps7
  go_wp2_with fail
  refine (Key_at s _ hsm _ HKs).mono ?_
  rintro e w' ⟨rfl, hb⟩
  replace HB := HB.trans (hb.mono HB.size)
  clear hb
  go_wp2_with fail
  refine (Cut_at s (1 + n % 70) _ hs2 (by omega) (by omega) C HC).mono ?_
  rintro e w' ⟨rfl, hb⟩
  replace HB := HB.trans (hb.mono HB.size)
  clear hb
  go_wp2_with fail
  refine (Key_at C _ hCm _ HKCs).mono ?_
  rintro e w' ⟨rfl, hb⟩
  replace HB := HB.trans (hb.mono HB.size)
  clear hb
  go_wp2_with fail
  refine (Kind_at C _ hCm _ HKC).mono ?_
  rintro e w' ⟨rfl, hb⟩
  replace HB := HB.trans (hb.mono HB.size)
  clear hb
  go_wp2_with fail
  refine (Kind_at s _ hsm _ HK).mono ?_
  rintro e w' ⟨rfl, hb⟩
  replace HB := HB.trans (hb.mono HB.size)
  clear hb
  replace HB := HB.alloc HB.size (.cells #[.int .u8 (97 + ((y : Nat) : Int) % 26)] 5)
  go_wp2_with fail
  refine (K1.out _).mono ?_
  rintro e w' ⟨rfl, hb⟩
  replace HB := HB.trans (hb.mono HB.size)
  clear hb
  go_wp2_with fail
  refine (Runes_at s _ hsm _ HN).mono ?_
  rintro e w' ⟨rfl, hb⟩
  replace HB := HB.trans (hb.mono HB.size)
  clear hb
  go_wp2_with fail
  refine (K1.out _).mono ?_
  rintro e w' ⟨rfl, hb⟩
  replace HB := HB.trans (hb.mono HB.size)
  clear hb
  go_wp2_with fail
  refine (K2.out _).mono ?_
  rintro e w' ⟨rfl, hb⟩
  replace HB := HB.trans (hb.mono HB.size)
  clear hb
  go_wp2_with fail
  refine (Kind_at s _ hsm _ HK).mono ?_
  rintro e w' ⟨rfl, hb⟩
  replace HB := HB.trans (hb.mono HB.size)
  clear hb
  go_wp2_with fail
  refine (K3.out _).mono ?_
  rintro e w' ⟨rfl, hb⟩
  replace HB := HB.trans (hb.mono HB.size)
  clear hb
  go_wp2_with fail
  refine (K4.out _).mono ?_
  rintro e w' ⟨rfl, hb⟩
  replace HB := HB.trans (hb.mono HB.size)
  clear hb
  go_wp2_with fail
  refine (alive_any _).mono ?_
  rintro e w' ⟨rfl, hb⟩
  replace HB := HB.trans (hb.mono HB.size)
  clear hb
  go_wp2_with fail
  go_ret
  exact ⟨rfl, HB⟩

set_option maxHeartbeats 2000000 in
set_option maxRecDepth 100000 in
theorem walk_two_full (s : ByteArray) (n : Int) (y : Nat) (hs : s.size ≤ 4096) (hn : 0 ≤ n ∧ n ≤ 255) (hyb : y ≤ 65535) (h3 : (((y : Nat) : Int) % 3 == 0) = true) (ys : List Nat) (hy : runes s.data.toList = some ys) (hg : GoodKey ys) (hl : 64 ≤ ys.length) (w : World) :
    Calls Try.prog 7 #[.string s, .int .u8 n, .int .u16 ((y : Nat) : Int)] w fun e w' => e = .returned (.bool true) ∧ Below w.heap.size w w' := by
  have HB : Below w.heap.size w w := Below.refl _ _
  have HY := Lib.hid hy
  obtain ⟨K, hK⟩ : ∃ K, K = kindX ys := ⟨_, rfl⟩
  have hK0 : 1 ≤ K := by rw [hK]; exact hg.pos
  have hK3 : K ≤ 3 := by rw [hK]; exact kindX_le ys
  have HK : Hid (kind s.data.toList = K) := by show _ = _; rw [hK]; exact kind_some hy
  have HKs : Hid ((((kind s.data.toList : Nat) : Int) != 0) = true) := by show _ = _; rw [HK.out]; simp; omega
  have hsm : s.size ≤ maxLen := by unfold maxLen; omega
  have hs2 : s.size ≤ 281474976710656 := by omega
  obtain ⟨C, hC⟩ : ∃ C, C = str (cut s.data.toList (1 + n % 70)) := ⟨_, rfl⟩
  have HC : Hid (str (cut s.data.toList (1 + n % 70)) = C) := hC.symm
  have hCd : C.data.toList = cut s.data.toList (1 + n % 70) := by rw [hC]; rfl
  have hCs : C.size ≤ 4096 := by rw [Lib.size_eq, hCd]; exact Nat.le_trans (cut_len hy _) (by rw [← Lib.size_eq]; exact hs)
  have hCm : C.size ≤ maxLen := by unfold maxLen; omega
  have HKC : Hid (kind C.data.toList = K) := by show _ = _; rw [hCd, kind_some (runes_cut hy _), hK]; exact hg.cut (by omega)
  have HKCs : Hid ((((kind C.data.toList : Nat) : Int) != 0) = true) := by show _ = _; rw [HKC.out]; simp; omega
  obtain ⟨R, hR⟩ : ∃ R, R = str (enc (192 + y / 4 % 64)) := ⟨_, rfl⟩
  have hRd : R.data.toList = enc (192 + y / 4 % 64) := by rw [hR]; rfl
  have hRs : R.size ≤ 4 := by rw [Lib.size_eq, hRd]; exact enc_le _
  have hTd : (s ++ R).data.toList = s.data.toList ++ enc (192 + y / 4 % 64) := by rw [ByteArray.data_append, Array.toList_append, hRd]
  have hTr : runes (s ++ R).data.toList = some (ys ++ [(192 + y / 4 % 64)]) := by
    rw [hTd, runes_append hy, runes_enc (by omega), if_pos (by unfold IsRune; omega)]; rfl
  have hTm : (s ++ R).size ≤ maxLen := by rw [ByteArray.size_append]; unfold maxLen; omega
  have HKT : Hid (kind (s ++ R).data.toList = 0) := by
    show _ = _
    rw [kind_some hTr]
    exact kindX_long (by simp; omega)
  have HKTs : Hid ((((kind (s ++ R).data.toList : Nat) : Int) != 0) = false) := by show _ = _; rw [HKT.out]; rfl
  have h31 : Hid ((((kind (s ++ ⟨#[31]⟩ : ByteArray).data.toList : Nat) : Int) != 0) = false) := by
    have e : (s ++ ⟨#[31]⟩ : ByteArray).data.toList = s.data.toList ++ enc 31 := by rw [ByteArray.data_append, Array.toList_append]; rfl
    show _ = _
    rw [e, kind_some (ys := ys ++ [31]) (by rw [runes_append hy, runes_enc (by omega), if_pos (by unfold IsRune; omega)]; rfl), kindX_bad (by decide)]; rfl
  have h127 : Hid ((((kind (s ++ ⟨#[127]⟩ : ByteArray).data.toList : Nat) : Int) != 0) = false) := by
    have e : (s ++ ⟨#[127]⟩ : ByteArray).data.toList = s.data.toList ++ enc 127 := by rw [ByteArray.data_append, Array.toList_append]; rfl
    show _ = _
    rw [e, kind_some (ys := ys ++ [127]) (by rw [runes_append hy, runes_enc (by omega), if_pos (by unfold IsRune; omega)]; rfl), kindX_bad (by decide)]; rfl
  have h31m : (s ++ ⟨#[31]⟩ : ByteArray).size ≤ maxLen := by rw [ByteArray.size_append]; unfold maxLen; show s.size + 1 ≤ _; omega
  have h127m : (s ++ ⟨#[127]⟩ : ByteArray).size ≤ maxLen := by rw [ByteArray.size_append]; unfold maxLen; show s.size + 1 ≤ _; omega
  have K1 := Lib.hid (fun W => Key_at (s ++ R) W hTm _ HKTs)
  have K2 := Lib.hid (fun W => Kind_at (s ++ R) W hTm _ HKT)
  have K3 := Lib.hid (fun W => Key_at (s ++ ⟨#[31]⟩) W h31m _ h31)
  have K4 := Lib.hid (fun W => Key_at (s ++ ⟨#[127]⟩) W h127m _ h127)
  obtain ⟨R1, hR1⟩ : ∃ R1, R1 = str [UInt8.ofNat (97 + ((y : Nat) : Int) % 26).toNat] := ⟨_, rfl⟩
  have hcv1 := fun W => conv1 W (97 + ((y : Nat) : Int) % 26) R1 hR1.symm
  have HRR : Hid (str [UInt8.ofNat (195 : Int).toNat, UInt8.ofNat (128 + ((y : Nat) : Int) / 4 % 64).toNat] = R) := by
    show _ = _
    rw [hR, show (195 : Int).toNat = 192 + (192 + y / 4 % 64) / 64 by omega, show (128 + ((y : Nat) : Int) / 4 % 64).toNat = 128 + (192 + y / 4 % 64) % 64 by omega]
    unfold enc; rw [if_neg (by omega), if_pos (by omega)]
  have hcv2 := fun (W : World) (o : Obj) => conv2_after W o 195 (128 + ((y : Nat) : Int) / 4 % 64) R HRR
  have d1 : decide ((ys.length : Int) < 64) = false := by simp; omega
  have HN : Hid (cnt s.data.toList = (ys.length : Nat)) := cnt_some hy
  have hl2 : ys.length ≤ 4096 := by have := length_le_encs ys; rw [← (runes_sound hy).2, ← Lib.size_eq] at this; omega
  clear hy hg hK hC hCd hR hRd hTd hTr hR1 hTm h31m h127m HKT HKTs h31 h127
  go_enter Try.func7, Try.ntmps7
  go_wp2_with fail
  refine (Key_at s _ hsm _ HKs).mono ?_
  rintro e w' ⟨rfl, hb⟩
  replace HB := HB.trans (hb.mono HB.size)
  clear hb
  go_wp2_with fail
  refine (Cut_at s (1 + n % 70) _ hs2 (by omega) (by omega) C HC).mono ?_
  rintro e w' ⟨rfl, hb⟩
  replace HB := HB.trans (hb.mono HB.size)
  clear hb
  go_wp2_with fail
  refine (Key_at C _ hCm _ HKCs).mono ?_
  rintro e w' ⟨rfl, hb⟩
  replace HB := HB.trans (hb.mono HB.size)
  clear hb
  go_wp2_with fail
  refine (Kind_at C _ hCm _ HKC).mono ?_
  rintro e w' ⟨rfl, hb⟩
  replace HB := HB.trans (hb.mono HB.size)
  clear hb
  go_wp2_with fail
  refine (Kind_at s _ hsm _ HK).mono ?_
  rintro e w' ⟨rfl, hb⟩
  replace HB := HB.trans (hb.mono HB.size)
  clear hb
  replace HB := HB.alloc HB.size (.cells #[.int .u8 (97 + ((y : Nat) : Int) % 26)] 5)
  replace HB := HB.alloc HB.size (.cells #[.int .u8 195, .int .u8 (128 + ((y : Nat) : Int) / 4 % 64)] 5)
  go_wp2_with fail
  refine (K1.out _).mono ?_
  rintro e w' ⟨rfl, hb⟩
  replace HB := HB.trans (hb.mono HB.size)
  clear hb
  go_wp2_with fail
  refine (Runes_at s _ hsm _ HN).mono ?_
  rintro e w' ⟨rfl, hb⟩
  replace HB := HB.trans (hb.mono HB.size)
  clear hb
  go_wp2_with fail
  refine (K1.out _).mono ?_
  rintro e w' ⟨rfl, hb⟩
  replace HB := HB.trans (hb.mono HB.size)
  clear hb
  go_wp2_with fail
  refine (K3.out _).mono ?_
  rintro e w' ⟨rfl, hb⟩
  replace HB := HB.trans (hb.mono HB.size)
  clear hb
  go_wp2_with fail
  refine (K4.out _).mono ?_
  rintro e w' ⟨rfl, hb⟩
  replace HB := HB.trans (hb.mono HB.size)
  clear hb
  go_wp2_with fail
  refine (alive_any _).mono ?_
  rintro e w' ⟨rfl, hb⟩
  replace HB := HB.trans (hb.mono HB.size)
  clear hb
  go_wp2_with fail
  go_ret
  exact ⟨rfl, HB⟩

set_option maxHeartbeats 2000000 in
set_option maxRecDepth 100000 in
theorem walk_two_short (s : ByteArray) (n : Int) (y : Nat) (hs : s.size ≤ 4096) (hn : 0 ≤ n ∧ n ≤ 255) (hyb : y ≤ 65535) (h3 : (((y : Nat) : Int) % 3 == 0) = true) (ys : List Nat) (hy : runes s.data.toList = some ys) (hg : GoodKey ys) (hl : ys.length < 64) (w : World) :
    Calls Try.prog 7 #[.string s, .int .u8 n, .int .u16 ((y : Nat) : Int)] w fun e w' => e = .returned (.bool true) ∧ Below w.heap.size w w' := by
  have HB : Below w.heap.size w w := Below.refl _ _
  have HY := Lib.hid hy
  obtain ⟨K, hK⟩ : ∃ K, K = kindX ys := ⟨_, rfl⟩
  have hK0 : 1 ≤ K := by rw [hK]; exact hg.pos
  have hK3 : K ≤ 3 := by rw [hK]; exact kindX_le ys
  have HK : Hid (kind s.data.toList = K) := by show _ = _; rw [hK]; exact kind_some hy
  have HKs : Hid ((((kind s.data.toList : Nat) : Int) != 0) = true) := by show _ = _; rw [HK.out]; simp; omega
  have hsm : s.size ≤ maxLen := by unfold maxLen; omega
  have hs2 : s.size ≤ 281474976710656 := by omega
  obtain ⟨C, hC⟩ : ∃ C, C = str (cut s.data.toList (1 + n % 70)) := ⟨_, rfl⟩
  have HC : Hid (str (cut s.data.toList (1 + n % 70)) = C) := hC.symm
  have hCd : C.data.toList = cut s.data.toList (1 + n % 70) := by rw [hC]; rfl
  have hCs : C.size ≤ 4096 := by rw [Lib.size_eq, hCd]; exact Nat.le_trans (cut_len hy _) (by rw [← Lib.size_eq]; exact hs)
  have hCm : C.size ≤ maxLen := by unfold maxLen; omega
  have HKC : Hid (kind C.data.toList = K) := by show _ = _; rw [hCd, kind_some (runes_cut hy _), hK]; exact hg.cut (by omega)
  have HKCs : Hid ((((kind C.data.toList : Nat) : Int) != 0) = true) := by show _ = _; rw [HKC.out]; simp; omega
  obtain ⟨R, hR⟩ : ∃ R, R = str (enc (192 + y / 4 % 64)) := ⟨_, rfl⟩
  have hRd : R.data.toList = enc (192 + y / 4 % 64) := by rw [hR]; rfl
  have hRs : R.size ≤ 4 := by rw [Lib.size_eq, hRd]; exact enc_le _
  have hTd : (s ++ R).data.toList = s.data.toList ++ enc (192 + y / 4 % 64) := by rw [ByteArray.data_append, Array.toList_append, hRd]
  have hTr : runes (s ++ R).data.toList = some (ys ++ [(192 + y / 4 % 64)]) := by
    rw [hTd, runes_append hy, runes_enc (by omega), if_pos (by unfold IsRune; omega)]; rfl
  have hTm : (s ++ R).size ≤ maxLen := by rw [ByteArray.size_append]; unfold maxLen; omega
  have HKT : Hid (kind (s ++ R).data.toList = K) := by
    show _ = _
    rw [kind_some hTr, hK]
    exact hg.more (by simp [ctl]; omega) hl
  have HKTs : Hid ((((kind (s ++ R).data.toList : Nat) : Int) != 0) = true) := by show _ = _; rw [HKT.out]; simp; omega
  have h31 : Hid ((((kind (s ++ ⟨#[31]⟩ : ByteArray).data.toList : Nat) : Int) != 0) = false) := by
    have e : (s ++ ⟨#[31]⟩ : ByteArray).data.toList = s.data.toList ++ enc 31 := by rw [ByteArray.data_append, Array.toList_append]; rfl
    show _ = _
    rw [e, kind_some (ys := ys ++ [31]) (by rw [runes_append hy, runes_enc (by omega), if_pos (by unfold IsRune; omega)]; rfl), kindX_bad (by decide)]; rfl
  have h127 : Hid ((((kind (s ++ ⟨#[127]⟩ : ByteArray).data.toList : Nat) : Int) != 0) = false) := by
    have e : (s ++ ⟨#[127]⟩ : ByteArray).data.toList = s.data.toList ++ enc 127 := by rw [ByteArray.data_append, Array.toList_append]; rfl
    show _ = _
    rw [e, kind_some (ys := ys ++ [127]) (by rw [runes_append hy, runes_enc (by omega), if_pos (by unfold IsRune; omega)]; rfl), kindX_bad (by decide)]; rfl
  have h31m : (s ++ ⟨#[31]⟩ : ByteArray).size ≤ maxLen := by rw [ByteArray.size_append]; unfold maxLen; show s.size + 1 ≤ _; omega
  have h127m : (s ++ ⟨#[127]⟩ : ByteArray).size ≤ maxLen := by rw [ByteArray.size_append]; unfold maxLen; show s.size + 1 ≤ _; omega
  have K1 := Lib.hid (fun W => Key_at (s ++ R) W hTm _ HKTs)
  have K2 := Lib.hid (fun W => Kind_at (s ++ R) W hTm _ HKT)
  have K3 := Lib.hid (fun W => Key_at (s ++ ⟨#[31]⟩) W h31m _ h31)
  have K4 := Lib.hid (fun W => Key_at (s ++ ⟨#[127]⟩) W h127m _ h127)
  obtain ⟨R1, hR1⟩ : ∃ R1, R1 = str [UInt8.ofNat (97 + ((y : Nat) : Int) % 26).toNat] := ⟨_, rfl⟩
  have hcv1 := fun W => conv1 W (97 + ((y : Nat) : Int) % 26) R1 hR1.symm
  have HRR : Hid (str [UInt8.ofNat (195 : Int).toNat, UInt8.ofNat (128 + ((y : Nat) : Int) / 4 % 64).toNat] = R) := by
    show _ = _
    rw [hR, show (195 : Int).toNat = 192 + (192 + y / 4 % 64) / 64 by omega, show (128 + ((y : Nat) : Int) / 4 % 64).toNat = 128 + (192 + y / 4 % 64) % 64 by omega]
    unfold enc; rw [if_neg (by omega), if_pos (by omega)]
  have hcv2 := fun (W : World) (o : Obj) => conv2_after W o 195 (128 + ((y : Nat) : Int) / 4 % 64) R HRR
  have d1 : decide ((ys.length : Int) < 64) = true := by simp; omega
  have HN : Hid (cnt s.data.toList = (ys.length : Nat)) := cnt_some hy
  have hl2 : ys.length ≤ 4096 := by have := length_le_encs ys; rw [← (runes_sound hy).2, ← Lib.size_eq] at this; omega
  clear hy hg hK hC hCd hR hRd hTd hTr hR1 hTm h31m h127m HKT HKTs h31 h127
  go_enter Try.func7, Try.ntmps7
  go_wp2_with fail
  refine (Key_at s _ hsm _ HKs).mono ?_
  rintro e w' ⟨rfl, hb⟩
  replace HB := HB.trans (hb.mono HB.size)
  clear hb
  go_wp2_with fail
  refine (Cut_at s (1 + n % 70) _ hs2 (by omega) (by omega) C HC).mono ?_
  rintro e w' ⟨rfl, hb⟩
  replace HB := HB.trans (hb.mono HB.size)
  clear hb
  go_wp2_with fail
  refine (Key_at C _ hCm _ HKCs).mono ?_
  rintro e w' ⟨rfl, hb⟩
  replace HB := HB.trans (hb.mono HB.size)
  clear hb
  go_wp2_with fail
  refine (Kind_at C _ hCm _ HKC).mono ?_
  rintro e w' ⟨rfl, hb⟩
  replace HB := HB.trans (hb.mono HB.size)
  clear hb
  go_wp2_with fail
  refine (Kind_at s _ hsm _ HK).mono ?_
  rintro e w' ⟨rfl, hb⟩
  replace HB := HB.trans (hb.mono HB.size)
  clear hb
  replace HB := HB.alloc HB.size (.cells #[.int .u8 (97 + ((y : Nat) : Int) % 26)] 5)
  replace HB := HB.alloc HB.size (.cells #[.int .u8 195, .int .u8 (128 + ((y : Nat) : Int) / 4 % 64)] 5)
  go_wp2_with fail
  refine (K1.out _).mono ?_
  rintro e w' ⟨rfl, hb⟩
  replace HB := HB.trans (hb.mono HB.size)
  clear hb
  go_wp2_with fail
  refine (Runes_at s _ hsm _ HN).mono ?_
  rintro e w' ⟨rfl, hb⟩
  replace HB := HB.trans (hb.mono HB.size)
  clear hb
  go_wp2_with fail
  refine (K1.out _).mono ?_
  rintro e w' ⟨rfl, hb⟩
  replace HB := HB.trans (hb.mono HB.size)
  clear hb
  go_wp2_with fail
  refine (K2.out _).mono ?_
  rintro e w' ⟨rfl, hb⟩
  replace HB := HB.trans (hb.mono HB.size)
  clear hb
  go_wp2_with fail
  refine (Kind_at s _ hsm _ HK).mono ?_
  rintro e w' ⟨rfl, hb⟩
  replace HB := HB.trans (hb.mono HB.size)
  clear hb
  go_wp2_with fail
  refine (K3.out _).mono ?_
  rintro e w' ⟨rfl, hb⟩
  replace HB := HB.trans (hb.mono HB.size)
  clear hb
  go_wp2_with fail
  refine (K4.out _).mono ?_
  rintro e w' ⟨rfl, hb⟩
  replace HB := HB.trans (hb.mono HB.size)
  clear hb
  go_wp2_with fail
  refine (alive_any _).mono ?_
  rintro e w' ⟨rfl, hb⟩
  replace HB := HB.trans (hb.mono HB.size)
  clear hb
  go_wp2_with fail
  go_ret
  exact ⟨rfl, HB⟩

set_option maxHeartbeats 1000000 in
set_option maxRecDepth 100000 in
theorem walk (s : ByteArray) (n x : Int) (hs : s.size ≤ maxLen) (hn : (Lit.int .u8 n).wf = true) (hx : (Lit.int .u16 x).wf = true) (w : World) :
    Calls Try.prog 7 #[.string s, .int .u8 n, .int .u16 x] w fun e w' => e = .returned (.bool true) ∧ Below w.heap.size w w' := by
  have hnb := bounds_u8 hn
  have hxb := bounds_u16 hx
  clear hn hx
  have hs1 := hs
  unfold maxLen at hs1
  have HB : Below w.heap.size w w := Below.refl _ _
  by_cases h1 : 4096 < s.size
  · go_enter Try.func7, Try.ntmps7
    go_wp2_with (go_at_call 10; refine (alive_any _).mono ?_; rintro e w' ⟨rfl, hb⟩; replace HB := HB.trans (hb.mono HB.size); clear hb)
    go_ret
    exact ⟨rfl, HB⟩
  by_cases hk : kind s.data.toList = 0
  · have HL : Hid ((((kind s.data.toList : Nat) : Int) != 0) = false) := by show _ = _; rw [hk]; rfl
    clear hk
    go_enter Try.func7, Try.ntmps7
    go_wp2_with (first
      | (go_at_call 10; refine (alive_any _).mono ?_; rintro e w' ⟨rfl, hb⟩; replace HB := HB.trans (hb.mono HB.size); clear hb)
      | (go_at_call 15; refine (Key_at s _ hs _ HL).mono ?_; rintro e w' ⟨rfl, hb⟩; replace HB := HB.trans (hb.mono HB.size); clear hb))
    go_ret
    exact ⟨rfl, HB⟩
  cases hy : runes s.data.toList with
  | none => exact absurd (by unfold kind; rw [hy]) hk
  | some ys =>
    have hg := GoodKey.of (ys := ys) (by rw [← kind_some hy]; exact hk)
    obtain ⟨y, rfl⟩ : ∃ y : Nat, x = (y : Int) := ⟨x.toNat, by omega⟩
    by_cases h3 : ((y : Nat) : Int) % 3 = 0
    · by_cases hl : ys.length < 64
      · exact walk_two_short s n y (by omega) hnb (by omega) (by simp; omega) ys hy hg hl w
      · exact walk_two_full s n y (by omega) hnb (by omega) (by simp; omega) ys hy hg (by omega) w
    · by_cases hl : ys.length < 64
      · exact walk_one_short s n y (by omega) hnb (by omega) (by simp; omega) ys hy hg hl w
      · exact walk_one_full s n y (by omega) hnb (by omega) (by simp; omega) ys hy hg (by omega) w

end Go.Proofs.Ytjlnlidbdngbpaa.textKeys
