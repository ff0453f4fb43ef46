/-
  The walk of the law TextBytes, in ten parts by the number's size.
-/
import Derived.Test.YtjlnlidbdngbpaaAlive
import Derived.Test.YtjlnlidbdngbpaaConv
namespace Go.Proofs.Ytjlnlidbdngbpaa.textBytes
open Go.RowKit

set_option maxHeartbeats 1000000 in
set_option maxRecDepth 1000000 in
theorem walk0 (x : Int) (n : Nat) (hnb : 0 ≤ x ∧ x ≤ 4294967295) (hn : x % 2097152 = (n : Int)) (_hlo : 0 ≤ n) (hhi : n < 32) (w : World) :
    Calls Try.prog 6 #[.int .u32 x] w fun e w' => e = .returned (.bool true) ∧ Below w.heap.size w w' := by
  have HB : Below w.heap.size w w := Below.refl _ _
  have hr : IsRune n := by unfold IsRune; omega
  obtain ⟨S, hS⟩ : ∃ S, S = str (enc n) := ⟨_, rfl⟩
  have hd : S.data.toList = enc n := by rw [hS]; rfl
  have hsz : S.size ≤ 4 := by rw [Lib.size_eq, hd]; exact enc_le n
  have HV : Hid (runes S.data.toList = some [n]) := by show _ = _; rw [hd, runes_enc (by omega), if_pos hr]
  have HC : Hid (cnt S.data.toList = 1) := cnt_some HV.out
  have HL : Hid (decide (0 ≤ cnt S.data.toList) = true) := by show _ = _; rw [HC.out]; rfl
  have HK : Hid ((((kind (⟨#[35]⟩ ++ S : ByteArray).data.toList : Nat) : Int) != 0) = false) := by
    have e : (⟨#[35]⟩ ++ S : ByteArray).data.toList = 35 :: enc n := by rw [ByteArray.data_append, Array.toList_append, hd]; rfl
    show _ = _
    rw [e, kind_hash (by omega), if_neg (by intro h; have := h.2; simp [ctl] at this; omega)]; rfl
  have hcv := fun W => conv1 W (n : Int) S (by show _ = _; rw [hS, show (n : Int).toNat = n by omega]; unfold enc; rw [if_pos (by omega)])
  have hcat : (⟨#[35]⟩ ++ S : ByteArray).size ≤ maxLen := by rw [ByteArray.size_append]; unfold maxLen; show 1 + S.size ≤ _; omega
  have hsm : S.size ≤ maxLen := by unfold maxLen; omega
  have KK := Lib.hid (fun W => Key_at (⟨#[35]⟩ ++ S) W hcat _ HK)
  have d0 : decide ((n : Int) < 128) = true := by simp; omega
  have d1 : decide ((n : Int) < 2048) = true := by simp; omega
  have d2 : decide ((n : Int) < 65536) = true := by simp; omega
  have d3 : decide ((n : Int) ≤ 1114111) = true := by simp; omega
  have d4 : decide ((n : Int) < 55296) = true := by simp; omega
  have d5 : decide (57343 < (n : Int)) = false := by simp; omega
  have d6 : decide (32 ≤ (n : Int)) = false := by simp; omega
  have d7 : decide ((n : Int) < 127) = true := by simp; omega
  have d8 : decide (159 < (n : Int)) = false := by simp; omega
  clear hS hd hr hcat
  go_enter Try.func6, Try.ntmps6
  go_wp2_with fail
  replace HB := HB.alloc (Nat.le_refl _) (.cells #[.int .u8 (n : Int)] 5)
  refine (Valid_at S _ hsm _ HL).mono ?_
  rintro e w' ⟨rfl, hb⟩
  replace HB := HB.trans (hb.mono HB.size)
  clear hb hcv hn hnb
  go_wp2_with fail
  refine (Runes_at S _ hsm _ HC).mono ?_
  rintro e w' ⟨rfl, hb⟩
  replace HB := HB.trans (hb.mono HB.size)
  clear hb
  go_wp2_with fail
  refine (KK.out _).mono ?_
  rintro e w' ⟨rfl, hb⟩
  replace HB := HB.trans (hb.mono HB.size)
  clear hb
  go_wp2_with fail
  refine (alive_any _).mono ?_
  rintro e w' ⟨rfl, hb⟩
  replace HB := HB.trans (hb.mono HB.size)
  clear hb
  go_wp2_with fail
  go_ret
  exact ⟨rfl, HB⟩

set_option maxHeartbeats 1000000 in
set_option maxRecDepth 1000000 in
theorem walk1 (x : Int) (n : Nat) (hnb : 0 ≤ x ∧ x ≤ 4294967295) (hn : x % 2097152 = (n : Int)) (hlo : 32 ≤ n) (hhi : n < 127) (w : World) :
    Calls Try.prog 6 #[.int .u32 x] w fun e w' => e = .returned (.bool true) ∧ Below w.heap.size w w' := by
  have HB : Below w.heap.size w w := Below.refl _ _
  have hr : IsRune n := by unfold IsRune; omega
  obtain ⟨S, hS⟩ : ∃ S, S = str (enc n) := ⟨_, rfl⟩
  have hd : S.data.toList = enc n := by rw [hS]; rfl
  have hsz : S.size ≤ 4 := by rw [Lib.size_eq, hd]; exact enc_le n
  have HV : Hid (runes S.data.toList = some [n]) := by show _ = _; rw [hd, runes_enc (by omega), if_pos hr]
  have HC : Hid (cnt S.data.toList = 1) := cnt_some HV.out
  have HL : Hid (decide (0 ≤ cnt S.data.toList) = true) := by show _ = _; rw [HC.out]; rfl
  have HK : Hid ((((kind (⟨#[35]⟩ ++ S : ByteArray).data.toList : Nat) : Int) != 0) = true) := by
    have e : (⟨#[35]⟩ ++ S : ByteArray).data.toList = 35 :: enc n := by rw [ByteArray.data_append, Array.toList_append, hd]; rfl
    show _ = _
    rw [e, kind_hash (by omega), if_pos ⟨hr, by simp [ctl]; omega⟩]; rfl
  have hcv := fun W => conv1 W (n : Int) S (by show _ = _; rw [hS, show (n : Int).toNat = n by omega]; unfold enc; rw [if_pos (by omega)])
  have hcat : (⟨#[35]⟩ ++ S : ByteArray).size ≤ maxLen := by rw [ByteArray.size_append]; unfold maxLen; show 1 + S.size ≤ _; omega
  have hsm : S.size ≤ maxLen := by unfold maxLen; omega
  have KK := Lib.hid (fun W => Key_at (⟨#[35]⟩ ++ S) W hcat _ HK)
  have d0 : decide ((n : Int) < 128) = true := by simp; omega
  have d1 : decide ((n : Int) < 2048) = true := by simp; omega
  have d2 : decide ((n : Int) < 65536) = true := by simp; omega
  have d3 : decide ((n : Int) ≤ 1114111) = true := by simp; omega
  have d4 : decide ((n : Int) < 55296) = true := by simp; omega
  have d5 : decide (57343 < (n : Int)) = false := by simp; omega
  have d6 : decide (32 ≤ (n : Int)) = true := by simp; omega
  have d7 : decide ((n : Int) < 127) = true := by simp; omega
  have d8 : decide (159 < (n : Int)) = false := by simp; omega
  clear hS hd hr hcat
  go_enter Try.func6, Try.ntmps6
  go_wp2_with fail
  replace HB := HB.alloc (Nat.le_refl _) (.cells #[.int .u8 (n : Int)] 5)
  refine (Valid_at S _ hsm _ HL).mono ?_
  rintro e w' ⟨rfl, hb⟩
  replace HB := HB.trans (hb.mono HB.size)
  clear hb hcv hn hnb
  go_wp2_with fail
  refine (Runes_at S _ hsm _ HC).mono ?_
  rintro e w' ⟨rfl, hb⟩
  replace HB := HB.trans (hb.mono HB.size)
  clear hb
  go_wp2_with fail
  refine (KK.out _).mono ?_
  rintro e w' ⟨rfl, hb⟩
  replace HB := HB.trans (hb.mono HB.size)
  clear hb
  go_wp2_with fail
  refine (alive_any _).mono ?_
  rintro e w' ⟨rfl, hb⟩
  replace HB := HB.trans (hb.mono HB.size)
  clear hb
  go_wp2_with fail
  go_ret
  exact ⟨rfl, HB⟩

set_option maxHeartbeats 1000000 in
set_option maxRecDepth 1000000 in
theorem walk2 (x : Int) (n : Nat) (hnb : 0 ≤ x ∧ x ≤ 4294967295) (hn : x % 2097152 = (n : Int)) (hlo : 127 ≤ n) (hhi : n < 128) (w : World) :
    Calls Try.prog 6 #[.int .u32 x] w fun e w' => e = .returned (.bool true) ∧ Below w.heap.size w w' := by
  have HB : Below w.heap.size w w := Below.refl _ _
  have hr : IsRune n := by unfold IsRune; omega
  obtain ⟨S, hS⟩ : ∃ S, S = str (enc n) := ⟨_, rfl⟩
  have hd : S.data.toList = enc n := by rw [hS]; rfl
  have hsz : S.size ≤ 4 := by rw [Lib.size_eq, hd]; exact enc_le n
  have HV : Hid (runes S.data.toList = some [n]) := by show _ = _; rw [hd, runes_enc (by omega), if_pos hr]
  have HC : Hid (cnt S.data.toList = 1) := cnt_some HV.out
  have HL : Hid (decide (0 ≤ cnt S.data.toList) = true) := by show _ = _; rw [HC.out]; rfl
  have HK : Hid ((((kind (⟨#[35]⟩ ++ S : ByteArray).data.toList : Nat) : Int) != 0) = false) := by
    have e : (⟨#[35]⟩ ++ S : ByteArray).data.toList = 35 :: enc n := by rw [ByteArray.data_append, Array.toList_append, hd]; rfl
    show _ = _
    rw [e, kind_hash (by omega), if_neg (by intro h; have := h.2; simp [ctl] at this; omega)]; rfl
  have hcv := fun W => conv1 W (n : Int) S (by show _ = _; rw [hS, show (n : Int).toNat = n by omega]; unfold enc; rw [if_pos (by omega)])
  have hcat : (⟨#[35]⟩ ++ S : ByteArray).size ≤ maxLen := by rw [ByteArray.size_append]; unfold maxLen; show 1 + S.size ≤ _; omega
  have hsm : S.size ≤ maxLen := by unfold maxLen; omega
  have KK := Lib.hid (fun W => Key_at (⟨#[35]⟩ ++ S) W hcat _ HK)
  have d0 : decide ((n : Int) < 128) = true := by simp; omega
  have d1 : decide ((n : Int) < 2048) = true := by simp; omega
  have d2 : decide ((n : Int) < 65536) = true := by simp; omega
  have d3 : decide ((n : Int) ≤ 1114111) = true := by simp; omega
  have d4 : decide ((n : Int) < 55296) = true := by simp; omega
  have d5 : decide (57343 < (n : Int)) = false := by simp; omega
  have d6 : decide (32 ≤ (n : Int)) = true := by simp; omega
  have d7 : decide ((n : Int) < 127) = false := by simp; omega
  have d8 : decide (159 < (n : Int)) = false := by simp; omega
  clear hS hd hr hcat
  go_enter Try.func6, Try.ntmps6
  go_wp2_with fail
  replace HB := HB.alloc (Nat.le_refl _) (.cells #[.int .u8 (n : Int)] 5)
  refine (Valid_at S _ hsm _ HL).mono ?_
  rintro e w' ⟨rfl, hb⟩
  replace HB := HB.trans (hb.mono HB.size)
  clear hb hcv hn hnb
  go_wp2_with fail
  refine (Runes_at S _ hsm _ HC).mono ?_
  rintro e w' ⟨rfl, hb⟩
  replace HB := HB.trans (hb.mono HB.size)
  clear hb
  go_wp2_with fail
  refine (KK.out _).mono ?_
  rintro e w' ⟨rfl, hb⟩
  replace HB := HB.trans (hb.mono HB.size)
  clear hb
  go_wp2_with fail
  refine (alive_any _).mono ?_
  rintro e w' ⟨rfl, hb⟩
  replace HB := HB.trans (hb.mono HB.size)
  clear hb
  go_wp2_with fail
  go_ret
  exact ⟨rfl, HB⟩

set_option maxHeartbeats 1000000 in
set_option maxRecDepth 1000000 in
theorem walk3 (x : Int) (n : Nat) (hnb : 0 ≤ x ∧ x ≤ 4294967295) (hn : x % 2097152 = (n : Int)) (hlo : 128 ≤ n) (hhi : n < 160) (w : World) :
    Calls Try.prog 6 #[.int .u32 x] w fun e w' => e = .returned (.bool true) ∧ Below w.heap.size w w' := by
  have HB : Below w.heap.size w w := Below.refl _ _
  have hr : IsRune n := by unfold IsRune; omega
  obtain ⟨S, hS⟩ : ∃ S, S = str (enc n) := ⟨_, rfl⟩
  have hd : S.data.toList = enc n := by rw [hS]; rfl
  have hsz : S.size ≤ 4 := by rw [Lib.size_eq, hd]; exact enc_le n
  have HV : Hid (runes S.data.toList = some [n]) := by show _ = _; rw [hd, runes_enc (by omega), if_pos hr]
  have HC : Hid (cnt S.data.toList = 1) := cnt_some HV.out
  have HL : Hid (decide (0 ≤ cnt S.data.toList) = true) := by show _ = _; rw [HC.out]; rfl
  have HK : Hid ((((kind (⟨#[35]⟩ ++ S : ByteArray).data.toList : Nat) : Int) != 0) = false) := by
    have e : (⟨#[35]⟩ ++ S : ByteArray).data.toList = 35 :: enc n := by rw [ByteArray.data_append, Array.toList_append, hd]; rfl
    show _ = _
    rw [e, kind_hash (by omega), if_neg (by intro h; have := h.2; simp [ctl] at this; omega)]; rfl
  have hcv := fun W => conv2 W (192 + (n : Int) / 64) (128 + (n : Int) % 64) S (by show _ = _; rw [hS, show (192 + (n : Int) / 64).toNat = (192 + n / 64) by omega, show (128 + (n : Int) % 64).toNat = (128 + n % 64) by omega]; unfold enc; rw [if_neg (by omega), if_pos (by omega)])
  have hcat : (⟨#[35]⟩ ++ S : ByteArray).size ≤ maxLen := by rw [ByteArray.size_append]; unfold maxLen; show 1 + S.size ≤ _; omega
  have hsm : S.size ≤ maxLen := by unfold maxLen; omega
  have hb0 : bits BinOp.and IntKind.i64 ((n : Nat) : Int) 63 = ((n : Nat) : Int) % 64 := by rw [show ((n : Nat) : Int) = (((n) : Nat) : Int) by omega]; exact (and63 _ (by omega)).trans (by omega)
  have KK := Lib.hid (fun W => Key_at (⟨#[35]⟩ ++ S) W hcat _ HK)
  have d0 : decide ((n : Int) < 128) = false := by simp; omega
  have d1 : decide ((n : Int) < 2048) = true := by simp; omega
  have d2 : decide ((n : Int) < 65536) = true := by simp; omega
  have d3 : decide ((n : Int) ≤ 1114111) = true := by simp; omega
  have d4 : decide ((n : Int) < 55296) = true := by simp; omega
  have d5 : decide (57343 < (n : Int)) = false := by simp; omega
  have d6 : decide (32 ≤ (n : Int)) = true := by simp; omega
  have d7 : decide ((n : Int) < 127) = false := by simp; omega
  have d8 : decide (159 < (n : Int)) = false := by simp; omega
  clear hS hd hr hcat
  go_enter Try.func6, Try.ntmps6
  go_wp2_with fail
  replace HB := HB.alloc (Nat.le_refl _) (.cells #[.int .u8 (192 + (n : Int) / 64), .int .u8 (128 + (n : Int) % 64)] 5)
  refine (Valid_at S _ hsm _ HL).mono ?_
  rintro e w' ⟨rfl, hb⟩
  replace HB := HB.trans (hb.mono HB.size)
  clear hb hcv hn hnb hb0
  go_wp2_with fail
  refine (Runes_at S _ hsm _ HC).mono ?_
  rintro e w' ⟨rfl, hb⟩
  replace HB := HB.trans (hb.mono HB.size)
  clear hb
  go_wp2_with fail
  refine (KK.out _).mono ?_
  rintro e w' ⟨rfl, hb⟩
  replace HB := HB.trans (hb.mono HB.size)
  clear hb
  go_wp2_with fail
  refine (alive_any _).mono ?_
  rintro e w' ⟨rfl, hb⟩
  replace HB := HB.trans (hb.mono HB.size)
  clear hb
  go_wp2_with fail
  go_ret
  exact ⟨rfl, HB⟩

set_option maxHeartbeats 1000000 in
set_option maxRecDepth 1000000 in
theorem walk4 (x : Int) (n : Nat) (hnb : 0 ≤ x ∧ x ≤ 4294967295) (hn : x % 2097152 = (n : Int)) (hlo : 160 ≤ n) (hhi : n < 2048) (w : World) :
    Calls Try.prog 6 #[.int .u32 x] w fun e w' => e = .returned (.bool true) ∧ Below w.heap.size w w' := by
  have HB : Below w.heap.size w w := Below.refl _ _
  have hr : IsRune n := by unfold IsRune; omega
  obtain ⟨S, hS⟩ : ∃ S, S = str (enc n) := ⟨_, rfl⟩
  have hd : S.data.toList = enc n := by rw [hS]; rfl
  have hsz : S.size ≤ 4 := by rw [Lib.size_eq, hd]; exact enc_le n
  have HV : Hid (runes S.data.toList = some [n]) := by show _ = _; rw [hd, runes_enc (by omega), if_pos hr]
  have HC : Hid (cnt S.data.toList = 1) := cnt_some HV.out
  have HL : Hid (decide (0 ≤ cnt S.data.toList) = true) := by show _ = _; rw [HC.out]; rfl
  have HK : Hid ((((kind (⟨#[35]⟩ ++ S : ByteArray).data.toList : Nat) : Int) != 0) = true) := by
    have e : (⟨#[35]⟩ ++ S : ByteArray).data.toList = 35 :: enc n := by rw [ByteArray.data_append, Array.toList_append, hd]; rfl
    show _ = _
    rw [e, kind_hash (by omega), if_pos ⟨hr, by simp [ctl]; omega⟩]; rfl
  have hcv := fun W => conv2 W (192 + (n : Int) / 64) (128 + (n : Int) % 64) S (by show _ = _; rw [hS, show (192 + (n : Int) / 64).toNat = (192 + n / 64) by omega, show (128 + (n : Int) % 64).toNat = (128 + n % 64) by omega]; unfold enc; rw [if_neg (by omega), if_pos (by omega)])
  have hcat : (⟨#[35]⟩ ++ S : ByteArray).size ≤ maxLen := by rw [ByteArray.size_append]; unfold maxLen; show 1 + S.size ≤ _; omega
  have hsm : S.size ≤ maxLen := by unfold maxLen; omega
  have hb0 : bits BinOp.and IntKind.i64 ((n : Nat) : Int) 63 = ((n : Nat) : Int) % 64 := by rw [show ((n : Nat) : Int) = (((n) : Nat) : Int) by omega]; exact (and63 _ (by omega)).trans (by omega)
  have KK := Lib.hid (fun W => Key_at (⟨#[35]⟩ ++ S) W hcat _ HK)
  have d0 : decide ((n : Int) < 128) = false := by simp; omega
  have d1 : decide ((n : Int) < 2048) = true := by simp; omega
  have d2 : decide ((n : Int) < 65536) = true := by simp; omega
  have d3 : decide ((n : Int) ≤ 1114111) = true := by simp; omega
  have d4 : decide ((n : Int) < 55296) = true := by simp; omega
  have d5 : decide (57343 < (n : Int)) = false := by simp; omega
  have d6 : decide (32 ≤ (n : Int)) = true := by simp; omega
  have d7 : decide ((n : Int) < 127) = false := by simp; omega
  have d8 : decide (159 < (n : Int)) = true := by simp; omega
  clear hS hd hr hcat
  go_enter Try.func6, Try.ntmps6
  go_wp2_with fail
  replace HB := HB.alloc (Nat.le_refl _) (.cells #[.int .u8 (192 + (n : Int) / 64), .int .u8 (128 + (n : Int) % 64)] 5)
  refine (Valid_at S _ hsm _ HL).mono ?_
  rintro e w' ⟨rfl, hb⟩
  replace HB := HB.trans (hb.mono HB.size)
  clear hb hcv hn hnb hb0
  go_wp2_with fail
  refine (Runes_at S _ hsm _ HC).mono ?_
  rintro e w' ⟨rfl, hb⟩
  replace HB := HB.trans (hb.mono HB.size)
  clear hb
  go_wp2_with fail
  refine (KK.out _).mono ?_
  rintro e w' ⟨rfl, hb⟩
  replace HB := HB.trans (hb.mono HB.size)
  clear hb
  go_wp2_with fail
  refine (alive_any _).mono ?_
  rintro e w' ⟨rfl, hb⟩
  replace HB := HB.trans (hb.mono HB.size)
  clear hb
  go_wp2_with fail
  go_ret
  exact ⟨rfl, HB⟩

set_option maxHeartbeats 1000000 in
set_option maxRecDepth 1000000 in
theorem walk5 (x : Int) (n : Nat) (hnb : 0 ≤ x ∧ x ≤ 4294967295) (hn : x % 2097152 = (n : Int)) (hlo : 2048 ≤ n) (hhi : n < 55296) (w : World) :
    Calls Try.prog 6 #[.int .u32 x] w fun e w' => e = .returned (.bool true) ∧ Below w.heap.size w w' := by
  have HB : Below w.heap.size w w := Below.refl _ _
  have hr : IsRune n := by unfold IsRune; omega
  obtain ⟨S, hS⟩ : ∃ S, S = str (enc n) := ⟨_, rfl⟩
  have hd : S.data.toList = enc n := by rw [hS]; rfl
  have hsz : S.size ≤ 4 := by rw [Lib.size_eq, hd]; exact enc_le n
  have HV : Hid (runes S.data.toList = some [n]) := by show _ = _; rw [hd, runes_enc (by omega), if_pos hr]
  have HC : Hid (cnt S.data.toList = 1) := cnt_some HV.out
  have HL : Hid (decide (0 ≤ cnt S.data.toList) = true) := by show _ = _; rw [HC.out]; rfl
  have HK : Hid ((((kind (⟨#[35]⟩ ++ S : ByteArray).data.toList : Nat) : Int) != 0) = true) := by
    have e : (⟨#[35]⟩ ++ S : ByteArray).data.toList = 35 :: enc n := by rw [ByteArray.data_append, Array.toList_append, hd]; rfl
    show _ = _
    rw [e, kind_hash (by omega), if_pos ⟨hr, by simp [ctl]; omega⟩]; rfl
  have hcv := fun W => conv3 W (224 + (n : Int) / 4096) (128 + (n : Int) / 64 % 64) (128 + (n : Int) % 64) S (by show _ = _; rw [hS, show (224 + (n : Int) / 4096).toNat = (224 + n / 4096) by omega, show (128 + (n : Int) / 64 % 64).toNat = (128 + n / 64 % 64) by omega, show (128 + (n : Int) % 64).toNat = (128 + n % 64) by omega]; unfold enc; rw [if_neg (by omega), if_neg (by omega), if_pos (by omega)])
  have hcat : (⟨#[35]⟩ ++ S : ByteArray).size ≤ maxLen := by rw [ByteArray.size_append]; unfold maxLen; show 1 + S.size ≤ _; omega
  have hsm : S.size ≤ maxLen := by unfold maxLen; omega
  have hb0 : bits BinOp.and IntKind.i64 ((n : Nat) : Int) 63 = ((n : Nat) : Int) % 64 := by rw [show ((n : Nat) : Int) = (((n) : Nat) : Int) by omega]; exact (and63 _ (by omega)).trans (by omega)
  have hb1 : bits BinOp.and IntKind.i64 (((n : Nat) : Int) / 64) 63 = (((n : Nat) : Int) / 64) % 64 := by rw [show (((n : Nat) : Int) / 64) = (((n / 64) : Nat) : Int) by omega]; exact (and63 _ (by omega)).trans (by omega)
  have KK := Lib.hid (fun W => Key_at (⟨#[35]⟩ ++ S) W hcat _ HK)
  have d0 : decide ((n : Int) < 128) = false := by simp; omega
  have d1 : decide ((n : Int) < 2048) = false := by simp; omega
  have d2 : decide ((n : Int) < 65536) = true := by simp; omega
  have d3 : decide ((n : Int) ≤ 1114111) = true := by simp; omega
  have d4 : decide ((n : Int) < 55296) = true := by simp; omega
  have d5 : decide (57343 < (n : Int)) = false := by simp; omega
  have d6 : decide (32 ≤ (n : Int)) = true := by simp; omega
  have d7 : decide ((n : Int) < 127) = false := by simp; omega
  have d8 : decide (159 < (n : Int)) = true := by simp; omega
  clear hS hd hr hcat
  go_enter Try.func6, Try.ntmps6
  go_wp2_with fail
  replace HB := HB.alloc (Nat.le_refl _) (.cells #[.int .u8 (224 + (n : Int) / 4096), .int .u8 (128 + (n : Int) / 64 % 64), .int .u8 (128 + (n : Int) % 64)] 5)
  refine (Valid_at S _ hsm _ HL).mono ?_
  rintro e w' ⟨rfl, hb⟩
  replace HB := HB.trans (hb.mono HB.size)
  clear hb hcv hn hnb hb0 hb1
  go_wp2_with fail
  refine (Runes_at S _ hsm _ HC).mono ?_
  rintro e w' ⟨rfl, hb⟩
  replace HB := HB.trans (hb.mono HB.size)
  clear hb
  go_wp2_with fail
  refine (KK.out _).mono ?_
  rintro e w' ⟨rfl, hb⟩
  replace HB := HB.trans (hb.mono HB.size)
  clear hb
  go_wp2_with fail
  refine (alive_any _).mono ?_
  rintro e w' ⟨rfl, hb⟩
  replace HB := HB.trans (hb.mono HB.size)
  clear hb
  go_wp2_with fail
  go_ret
  exact ⟨rfl, HB⟩

set_option maxHeartbeats 1000000 in
set_option maxRecDepth 1000000 in
theorem walk6 (x : Int) (n : Nat) (hnb : 0 ≤ x ∧ x ≤ 4294967295) (hn : x % 2097152 = (n : Int)) (hlo : 55296 ≤ n) (hhi : n < 57344) (w : World) :
    Calls Try.prog 6 #[.int .u32 x] w fun e w' => e = .returned (.bool true) ∧ Below w.heap.size w w' := by
  have HB : Below w.heap.size w w := Below.refl _ _
  have hr : ¬ IsRune n := by unfold IsRune; omega
  obtain ⟨S, hS⟩ : ∃ S, S = str (enc n) := ⟨_, rfl⟩
  have hd : S.data.toList = enc n := by rw [hS]; rfl
  have hsz : S.size ≤ 4 := by rw [Lib.size_eq, hd]; exact enc_le n
  have HV : Hid (runes S.data.toList = none) := by show _ = _; rw [hd, runes_enc (by omega), if_neg hr]
  have HC : Hid (cnt S.data.toList = -1) := cnt_none HV.out
  have HL : Hid (decide (0 ≤ cnt S.data.toList) = false) := by show _ = _; rw [HC.out]; rfl
  have HK : Hid ((((kind (⟨#[35]⟩ ++ S : ByteArray).data.toList : Nat) : Int) != 0) = false) := by
    have e : (⟨#[35]⟩ ++ S : ByteArray).data.toList = 35 :: enc n := by rw [ByteArray.data_append, Array.toList_append, hd]; rfl
    show _ = _
    rw [e, kind_hash (by omega), if_neg (by intro h; exact hr h.1)]; rfl
  have hcv := fun W => conv3 W (224 + (n : Int) / 4096) (128 + (n : Int) / 64 % 64) (128 + (n : Int) % 64) S (by show _ = _; rw [hS, show (224 + (n : Int) / 4096).toNat = (224 + n / 4096) by omega, show (128 + (n : Int) / 64 % 64).toNat = (128 + n / 64 % 64) by omega, show (128 + (n : Int) % 64).toNat = (128 + n % 64) by omega]; unfold enc; rw [if_neg (by omega), if_neg (by omega), if_pos (by omega)])
  have hcat : (⟨#[35]⟩ ++ S : ByteArray).size ≤ maxLen := by rw [ByteArray.size_append]; unfold maxLen; show 1 + S.size ≤ _; omega
  have hsm : S.size ≤ maxLen := by unfold maxLen; omega
  have hb0 : bits BinOp.and IntKind.i64 ((n : Nat) : Int) 63 = ((n : Nat) : Int) % 64 := by rw [show ((n : Nat) : Int) = (((n) : Nat) : Int) by omega]; exact (and63 _ (by omega)).trans (by omega)
  have hb1 : bits BinOp.and IntKind.i64 (((n : Nat) : Int) / 64) 63 = (((n : Nat) : Int) / 64) % 64 := by rw [show (((n : Nat) : Int) / 64) = (((n / 64) : Nat) : Int) by omega]; exact (and63 _ (by omega)).trans (by omega)
  have KK := Lib.hid (fun W => Key_at (⟨#[35]⟩ ++ S) W hcat _ HK)
  have d0 : decide ((n : Int) < 128) = false := by simp; omega
  have d1 : decide ((n : Int) < 2048) = false := by simp; omega
  have d2 : decide ((n : Int) < 65536) = true := by simp; omega
  have d3 : decide ((n : Int) ≤ 1114111) = true := by simp; omega
  have d4 : decide ((n : Int) < 55296) = false := by simp; omega
  have d5 : decide (57343 < (n : Int)) = false := by simp; omega
  have d6 : decide (32 ≤ (n : Int)) = true := by simp; omega
  have d7 : decide ((n : Int) < 127) = false := by simp; omega
  have d8 : decide (159 < (n : Int)) = true := by simp; omega
  clear hS hd hr hcat
  go_enter Try.func6, Try.ntmps6
  go_wp2_with fail
  replace HB := HB.alloc (Nat.le_refl _) (.cells #[.int .u8 (224 + (n : Int) / 4096), .int .u8 (128 + (n : Int) / 64 % 64), .int .u8 (128 + (n : Int) % 64)] 5)
  refine (Valid_at S _ hsm _ HL).mono ?_
  rintro e w' ⟨rfl, hb⟩
  replace HB := HB.trans (hb.mono HB.size)
  clear hb hcv hn hnb hb0 hb1
  go_wp2_with fail
  refine (Runes_at S _ hsm _ HC).mono ?_
  rintro e w' ⟨rfl, hb⟩
  replace HB := HB.trans (hb.mono HB.size)
  clear hb
  go_wp2_with fail
  refine (KK.out _).mono ?_
  rintro e w' ⟨rfl, hb⟩
  replace HB := HB.trans (hb.mono HB.size)
  clear hb
  go_wp2_with fail
  refine (alive_any _).mono ?_
  rintro e w' ⟨rfl, hb⟩
  replace HB := HB.trans (hb.mono HB.size)
  clear hb
  go_wp2_with fail
  go_ret
  exact ⟨rfl, HB⟩

set_option maxHeartbeats 1000000 in
set_option maxRecDepth 1000000 in
theorem walk7 (x : Int) (n : Nat) (hnb : 0 ≤ x ∧ x ≤ 4294967295) (hn : x % 2097152 = (n : Int)) (hlo : 57344 ≤ n) (hhi : n < 65536) (w : World) :
    Calls Try.prog 6 #[.int .u32 x] w fun e w' => e = .returned (.bool true) ∧ Below w.heap.size w w' := by
  have HB : Below w.heap.size w w := Below.refl _ _
  have hr : IsRune n := by unfold IsRune; omega
  obtain ⟨S, hS⟩ : ∃ S, S = str (enc n) := ⟨_, rfl⟩
  have hd : S.data.toList = enc n := by rw [hS]; rfl
  have hsz : S.size ≤ 4 := by rw [Lib.size_eq, hd]; exact enc_le n
  have HV : Hid (runes S.data.toList = some [n]) := by show _ = _; rw [hd, runes_enc (by omega), if_pos hr]
  have HC : Hid (cnt S.data.toList = 1) := cnt_some HV.out
  have HL : Hid (decide (0 ≤ cnt S.data.toList) = true) := by show _ = _; rw [HC.out]; rfl
  have HK : Hid ((((kind (⟨#[35]⟩ ++ S : ByteArray).data.toList : Nat) : Int) != 0) = true) := by
    have e : (⟨#[35]⟩ ++ S : ByteArray).data.toList = 35 :: enc n := by rw [ByteArray.data_append, Array.toList_append, hd]; rfl
    show _ = _
    rw [e, kind_hash (by omega), if_pos ⟨hr, by simp [ctl]; omega⟩]; rfl
  have hcv := fun W => conv3 W (224 + (n : Int) / 4096) (128 + (n : Int) / 64 % 64) (128 + (n : Int) % 64) S (by show _ = _; rw [hS, show (224 + (n : Int) / 4096).toNat = (224 + n / 4096) by omega, show (128 + (n : Int) / 64 % 64).toNat = (128 + n / 64 % 64) by omega, show (128 + (n : Int) % 64).toNat = (128 + n % 64) by omega]; unfold enc; rw [if_neg (by omega), if_neg (by omega), if_pos (by omega)])
  have hcat : (⟨#[35]⟩ ++ S : ByteArray).size ≤ maxLen := by rw [ByteArray.size_append]; unfold maxLen; show 1 + S.size ≤ _; omega
  have hsm : S.size ≤ maxLen := by unfold maxLen; omega
  have hb0 : bits BinOp.and IntKind.i64 ((n : Nat) : Int) 63 = ((n : Nat) : Int) % 64 := by rw [show ((n : Nat) : Int) = (((n) : Nat) : Int) by omega]; exact (and63 _ (by omega)).trans (by omega)
  have hb1 : bits BinOp.and IntKind.i64 (((n : Nat) : Int) / 64) 63 = (((n : Nat) : Int) / 64) % 64 := by rw [show (((n : Nat) : Int) / 64) = (((n / 64) : Nat) : Int) by omega]; exact (and63 _ (by omega)).trans (by omega)
  have KK := Lib.hid (fun W => Key_at (⟨#[35]⟩ ++ S) W hcat _ HK)
  have d0 : decide ((n : Int) < 128) = false := by simp; omega
  have d1 : decide ((n : Int) < 2048) = false := by simp; omega
  have d2 : decide ((n : Int) < 65536) = true := by simp; omega
  have d3 : decide ((n : Int) ≤ 1114111) = true := by simp; omega
  have d4 : decide ((n : Int) < 55296) = false := by simp; omega
  have d5 : decide (57343 < (n : Int)) = true := by simp; omega
  have d6 : decide (32 ≤ (n : Int)) = true := by simp; omega
  have d7 : decide ((n : Int) < 127) = false := by simp; omega
  have d8 : decide (159 < (n : Int)) = true := by simp; omega
  clear hS hd hr hcat
  go_enter Try.func6, Try.ntmps6
  go_wp2_with fail
  replace HB := HB.alloc (Nat.le_refl _) (.cells #[.int .u8 (224 + (n : Int) / 4096), .int .u8 (128 + (n : Int) / 64 % 64), .int .u8 (128 + (n : Int) % 64)] 5)
  refine (Valid_at S _ hsm _ HL).mono ?_
  rintro e w' ⟨rfl, hb⟩
  replace HB := HB.trans (hb.mono HB.size)
  clear hb hcv hn hnb hb0 hb1
  go_wp2_with fail
  refine (Runes_at S _ hsm _ HC).mono ?_
  rintro e w' ⟨rfl, hb⟩
  replace HB := HB.trans (hb.mono HB.size)
  clear hb
  go_wp2_with fail
  refine (KK.out _).mono ?_
  rintro e w' ⟨rfl, hb⟩
  replace HB := HB.trans (hb.mono HB.size)
  clear hb
  go_wp2_with fail
  refine (alive_any _).mono ?_
  rintro e w' ⟨rfl, hb⟩
  replace HB := HB.trans (hb.mono HB.size)
  clear hb
  go_wp2_with fail
  go_ret
  exact ⟨rfl, HB⟩

set_option maxHeartbeats 1000000 in
set_option maxRecDepth 1000000 in
theorem walk8 (x : Int) (n : Nat) (hnb : 0 ≤ x ∧ x ≤ 4294967295) (hn : x % 2097152 = (n : Int)) (hlo : 65536 ≤ n) (hhi : n < 1114112) (w : World) :
    Calls Try.prog 6 #[.int .u32 x] w fun e w' => e = .returned (.bool true) ∧ Below w.heap.size w w' := by
  have HB : Below w.heap.size w w := Below.refl _ _
  have hr : IsRune n := by unfold IsRune; omega
  obtain ⟨S, hS⟩ : ∃ S, S = str (enc n) := ⟨_, rfl⟩
  have hd : S.data.toList = enc n := by rw [hS]; rfl
  have hsz : S.size ≤ 4 := by rw [Lib.size_eq, hd]; exact enc_le n
  have HV : Hid (runes S.data.toList = some [n]) := by show _ = _; rw [hd, runes_enc (by omega), if_pos hr]
  have HC : Hid (cnt S.data.toList = 1) := cnt_some HV.out
  have HL : Hid (decide (0 ≤ cnt S.data.toList) = true) := by show _ = _; rw [HC.out]; rfl
  have HK : Hid ((((kind (⟨#[35]⟩ ++ S : ByteArray).data.toList : Nat) : Int) != 0) = true) := by
    have e : (⟨#[35]⟩ ++ S : ByteArray).data.toList = 35 :: enc n := by rw [ByteArray.data_append, Array.toList_append, hd]; rfl
    show _ = _
    rw [e, kind_hash (by omega), if_pos ⟨hr, by simp [ctl]; omega⟩]; rfl
  have hcv := fun W => conv4 W (240 + (n : Int) / 262144) (128 + (n : Int) / 4096 % 64) (128 + (n : Int) / 64 % 64) (128 + (n : Int) % 64) S (by show _ = _; rw [hS, show (240 + (n : Int) / 262144).toNat = (240 + n / 262144) by omega, show (128 + (n : Int) / 4096 % 64).toNat = (128 + n / 4096 % 64) by omega, show (128 + (n : Int) / 64 % 64).toNat = (128 + n / 64 % 64) by omega, show (128 + (n : Int) % 64).toNat = (128 + n % 64) by omega]; unfold enc; rw [if_neg (by omega), if_neg (by omega), if_neg (by omega)])
  have hcat : (⟨#[35]⟩ ++ S : ByteArray).size ≤ maxLen := by rw [ByteArray.size_append]; unfold maxLen; show 1 + S.size ≤ _; omega
  have hsm : S.size ≤ maxLen := by unfold maxLen; omega
  have hb0 : bits BinOp.and IntKind.i64 ((n : Nat) : Int) 63 = ((n : Nat) : Int) % 64 := by rw [show ((n : Nat) : Int) = (((n) : Nat) : Int) by omega]; exact (and63 _ (by omega)).trans (by omega)
  have hb1 : bits BinOp.and IntKind.i64 (((n : Nat) : Int) / 64) 63 = (((n : Nat) : Int) / 64) % 64 := by rw [show (((n : Nat) : Int) / 64) = (((n / 64) : Nat) : Int) by omega]; exact (and63 _ (by omega)).trans (by omega)
  have hb2 : bits BinOp.and IntKind.i64 (((n : Nat) : Int) / 4096) 63 = (((n : Nat) : Int) / 4096) % 64 := by rw [show (((n : Nat) : Int) / 4096) = (((n / 4096) : Nat) : Int) by omega]; exact (and63 _ (by omega)).trans (by omega)
  have KK := Lib.hid (fun W => Key_at (⟨#[35]⟩ ++ S) W hcat _ HK)
  have d0 : decide ((n : Int) < 128) = false := by simp; omega
  have d1 : decide ((n : Int) < 2048) = false := by simp; omega
  have d2 : decide ((n : Int) < 65536) = false := by simp; omega
  have d3 : decide ((n : Int) ≤ 1114111) = true := by simp; omega
  have d4 : decide ((n : Int) < 55296) = false := by simp; omega
  have d5 : decide (57343 < (n : Int)) = true := by simp; omega
  have d6 : decide (32 ≤ (n : Int)) = true := by simp; omega
  have d7 : decide ((n : Int) < 127) = false := by simp; omega
  have d8 : decide (159 < (n : Int)) = true := by simp; omega
  clear hS hd hr hcat
  go_enter Try.func6, Try.ntmps6
  go_wp2_with fail
  replace HB := HB.alloc (Nat.le_refl _) (.cells #[.int .u8 (240 + (n : Int) / 262144), .int .u8 (128 + (n : Int) / 4096 % 64), .int .u8 (128 + (n : Int) / 64 % 64), .int .u8 (128 + (n : Int) % 64)] 5)
  refine (Valid_at S _ hsm _ HL).mono ?_
  rintro e w' ⟨rfl, hb⟩
  replace HB := HB.trans (hb.mono HB.size)
  clear hb hcv hn hnb hb0 hb1 hb2
  go_wp2_with fail
  refine (Runes_at S _ hsm _ HC).mono ?_
  rintro e w' ⟨rfl, hb⟩
  replace HB := HB.trans (hb.mono HB.size)
  clear hb
  go_wp2_with fail
  refine (KK.out _).mono ?_
  rintro e w' ⟨rfl, hb⟩
  replace HB := HB.trans (hb.mono HB.size)
  clear hb
  go_wp2_with fail
  refine (alive_any _).mono ?_
  rintro e w' ⟨rfl, hb⟩
  replace HB := HB.trans (hb.mono HB.size)
  clear hb
  go_wp2_with fail
  go_ret
  exact ⟨rfl, HB⟩

set_option maxHeartbeats 1000000 in
set_option maxRecDepth 1000000 in
theorem walk9 (x : Int) (n : Nat) (hnb : 0 ≤ x ∧ x ≤ 4294967295) (hn : x % 2097152 = (n : Int)) (hlo : 1114112 ≤ n) (hhi : n < 2097152) (w : World) :
    Calls Try.prog 6 #[.int .u32 x] w fun e w' => e = .returned (.bool true) ∧ Below w.heap.size w w' := by
  have HB : Below w.heap.size w w := Below.refl _ _
  have hr : ¬ IsRune n := by unfold IsRune; omega
  obtain ⟨S, hS⟩ : ∃ S, S = str (enc n) := ⟨_, rfl⟩
  have hd : S.data.toList = enc n := by rw [hS]; rfl
  have hsz : S.size ≤ 4 := by rw [Lib.size_eq, hd]; exact enc_le n
  have HV : Hid (runes S.data.toList = none) := by show _ = _; rw [hd, runes_enc (by omega), if_neg hr]
  have HC : Hid (cnt S.data.toList = -1) := cnt_none HV.out
  have HL : Hid (decide (0 ≤ cnt S.data.toList) = false) := by show _ = _; rw [HC.out]; rfl
  have HK : Hid ((((kind (⟨#[35]⟩ ++ S : ByteArray).data.toList : Nat) : Int) != 0) = false) := by
    have e : (⟨#[35]⟩ ++ S : ByteArray).data.toList = 35 :: enc n := by rw [ByteArray.data_append, Array.toList_append, hd]; rfl
    show _ = _
    rw [e, kind_hash (by omega), if_neg (by intro h; exact hr h.1)]; rfl
  have hcv := fun W => conv4 W (240 + (n : Int) / 262144) (128 + (n : Int) / 4096 % 64) (128 + (n : Int) / 64 % 64) (128 + (n : Int) % 64) S (by show _ = _; rw [hS, show (240 + (n : Int) / 262144).toNat = (240 + n / 262144) by omega, show (128 + (n : Int) / 4096 % 64).toNat = (128 + n / 4096 % 64) by omega, show (128 + (n : Int) / 64 % 64).toNat = (128 + n / 64 % 64) by omega, show (128 + (n : Int) % 64).toNat = (128 + n % 64) by omega]; unfold enc; rw [if_neg (by omega), if_neg (by omega), if_neg (by omega)])
  have hcat : (⟨#[35]⟩ ++ S : ByteArray).size ≤ maxLen := by rw [ByteArray.size_append]; unfold maxLen; show 1 + S.size ≤ _; omega
  have hsm : S.size ≤ maxLen := by unfold maxLen; omega
  have hb0 : bits BinOp.and IntKind.i64 ((n : Nat) : Int) 63 = ((n : Nat) : Int) % 64 := by rw [show ((n : Nat) : Int) = (((n) : Nat) : Int) by omega]; exact (and63 _ (by omega)).trans (by omega)
  have hb1 : bits BinOp.and IntKind.i64 (((n : Nat) : Int) / 64) 63 = (((n : Nat) : Int) / 64) % 64 := by rw [show (((n : Nat) : Int) / 64) = (((n / 64) : Nat) : Int) by omega]; exact (and63 _ (by omega)).trans (by omega)
  have hb2 : bits BinOp.and IntKind.i64 (((n : Nat) : Int) / 4096) 63 = (((n : Nat) : Int) / 4096) % 64 := by rw [show (((n : Nat) : Int) / 4096) = (((n / 4096) : Nat) : Int) by omega]; exact (and63 _ (by omega)).trans (by omega)
  have KK := Lib.hid (fun W => Key_at (⟨#[35]⟩ ++ S) W hcat _ HK)
  have d0 : decide ((n : Int) < 128) = false := by simp; omega
  have d1 : decide ((n : Int) < 2048) = false := by simp; omega
  have d2 : decide ((n : Int) < 65536) = false := by simp; omega
  have d3 : decide ((n : Int) ≤ 1114111) = false := by simp; omega
  have d4 : decide ((n : Int) < 55296) = false := by simp; omega
  have d5 : decide (57343 < (n : Int)) = true := by simp; omega
  have d6 : decide (32 ≤ (n : Int)) = true := by simp; omega
  have d7 : decide ((n : Int) < 127) = false := by simp; omega
  have d8 : decide (159 < (n : Int)) = true := by simp; omega
  clear hS hd hr hcat
  go_enter Try.func6, Try.ntmps6
  go_wp2_with fail
  replace HB := HB.alloc (Nat.le_refl _) (.cells #[.int .u8 (240 + (n : Int) / 262144), .int .u8 (128 + (n : Int) / 4096 % 64), .int .u8 (128 + (n : Int) / 64 % 64), .int .u8 (128 + (n : Int) % 64)] 5)
  refine (Valid_at S _ hsm _ HL).mono ?_
  rintro e w' ⟨rfl, hb⟩
  replace HB := HB.trans (hb.mono HB.size)
  clear hb hcv hn hnb hb0 hb1 hb2
  go_wp2_with fail
  refine (Runes_at S _ hsm _ HC).mono ?_
  rintro e w' ⟨rfl, hb⟩
  replace HB := HB.trans (hb.mono HB.size)
  clear hb
  go_wp2_with fail
  refine (KK.out _).mono ?_
  rintro e w' ⟨rfl, hb⟩
  replace HB := HB.trans (hb.mono HB.size)
  clear hb
  go_wp2_with fail
  refine (alive_any _).mono ?_
  rintro e w' ⟨rfl, hb⟩
  replace HB := HB.trans (hb.mono HB.size)
  clear hb
  go_wp2_with fail
  go_ret
  exact ⟨rfl, HB⟩

theorem walk (x : Int) (hx : (Lit.int .u32 x).wf = true) (w : World) :
    Calls Try.prog 6 #[.int .u32 x] w fun e w' => e = .returned (.bool true) ∧ Below w.heap.size w w' := by
  have hnb := bounds_u32 hx
  obtain ⟨n, hn⟩ : ∃ n : Nat, x % 2097152 = (n : Int) := ⟨(x % 2097152).toNat, by omega⟩
  by_cases h0 : n < 32
  · exact walk0 x n hnb hn (by omega) h0 w
  by_cases h1 : n < 127
  · exact walk1 x n hnb hn (by omega) h1 w
  by_cases h2 : n < 128
  · exact walk2 x n hnb hn (by omega) h2 w
  by_cases h3 : n < 160
  · exact walk3 x n hnb hn (by omega) h3 w
  by_cases h4 : n < 2048
  · exact walk4 x n hnb hn (by omega) h4 w
  by_cases h5 : n < 55296
  · exact walk5 x n hnb hn (by omega) h5 w
  by_cases h6 : n < 57344
  · exact walk6 x n hnb hn (by omega) h6 w
  by_cases h7 : n < 65536
  · exact walk7 x n hnb hn (by omega) h7 w
  by_cases h8 : n < 1114112
  · exact walk8 x n hnb hn (by omega) h8 w
  exact walk9 x n hnb hn (by omega) (by omega) w

end Go.Proofs.Ytjlnlidbdngbpaa.textBytes
