/-
  The walk of the law TextSpoilt.
-/
import Derived.Test.YtjlnlidbdngbpaaAlive
import Derived.Test.YtjlnlidbdngbpaaConv
import Derived.Deep.RegionWith
import Derived.Lib.QuietBelow
import Derived.BigQuiet
namespace Go.Proofs.Ytjlnlidbdngbpaa.textSpoilt
open Go.RowKit

theorem conv1_drew (W : World) (a : Int) (S : ByteArray) (h : Hid (str [UInt8.ofNat a.toNat] = S)) :
    (convert 34 9 (.slice (some ⟨W.heap.size, 0, none⟩) 1 1)).run Try.prog (W.alloc (.cells #[.int .u8 a] 5)).drew = .ok (.string S) (W.alloc (.cells #[.int .u8 a] 5)).drew := by
  rw [← h.out]
  refine run_convert_bytes_arg _ 34 5 Try.underlying34 Try.underlying5 W.heap.size 0 1 1 [a] rfl (fun i hi => ?_) 9 Try.underlying9
  obtain rfl : i = 0 := by omega
  show (W.alloc (.cells #[.int .u8 a] 5)).cell? ⟨W.heap.size, 0, none⟩ = _
  rw [World.cell?_alloc_at _ _ _ _ rfl]
  rfl

theorem encs_mono (xs : List Nat) {i j : Nat} (h : i ≤ j) : (encs (xs.take i)).length ≤ (encs (xs.take j)).length := by
  have e : xs.take j = xs.take i ++ (xs.take j).drop i := by
    have := (List.take_append_drop i (xs.take j)).symm
    rw [List.take_take, Nat.min_eq_left h] at this
    exact this
  rw [e, encs_append, List.length_append]; omega

theorem cut_mono {l : List UInt8} {ys : List Nat} (h : runes l = some ys) {i j : Int} (hij : i ≤ j) : (cut l i).length ≤ (cut l j).length := by
  rw [cut_eq h, cut_eq h]; exact encs_mono ys (by omega)

/-- One rune more, of two bytes or more. -/
theorem cut_next {l : List UInt8} {ys : List Nat} (h : runes l = some ys) (n : Int) (hn : 0 ≤ n) (hlong : 2 ≤ (cut l (n + 1)).length - (cut l n).length) :
    ∃ x, ys[n.toNat]? = some x ∧ IsRune x ∧ 2 ≤ (enc x).length ∧ cut l (n + 1) = cut l n ++ enc x := by
  rw [cut_eq h, cut_eq h] at hlong ⊢
  have e1 : (n + 1).toNat = n.toNat + 1 := by omega
  rw [e1] at hlong ⊢
  by_cases hk : n.toNat < ys.length
  · rw [List.take_succ_eq_append_getElem hk, encs_append] at hlong ⊢
    have e2 : encs [ys[n.toNat]] = enc ys[n.toNat] := by simp [encs]
    rw [e2] at hlong ⊢
    refine ⟨ys[n.toNat], List.getElem?_eq_getElem hk, (runes_sound h).1 _ (List.getElem_mem hk), ?_, rfl⟩
    rw [List.length_append] at hlong; omega
  · rw [List.take_of_length_le (by omega), List.take_of_length_le (by omega)] at hlong; omega

set_option maxHeartbeats 2000000 in
set_option maxRecDepth 100000 in
theorem walk_long (s : ByteArray) (n c : Int) (hs : s.size ≤ 4096) (hn : 0 ≤ n ∧ n ≤ 255) (hc : 0 ≤ c ∧ c ≤ 255) (ys : List Nat) (hy : runes s.data.toList = some ys)
    (hlong : 2 ≤ (cut s.data.toList (n + 1)).length - (cut s.data.toList n).length) (w : World) :
    Calls Try.prog 9 #[.string s, .int .u8 n, .int .u8 c] w fun e w' => e = .returned (.bool true) ∧ Below w.heap.size w w' := by
  have HB : Below w.heap.size w w := Below.refl _ _
  have HL : Hid (decide (0 ≤ cnt s.data.toList) = true) := by show _ = _; rw [cnt_eq hy]; simp
  have hsm : s.size ≤ maxLen := by unfold maxLen; omega
  have hs2 : s.size ≤ 281474976710656 := by omega
  obtain ⟨A, hA⟩ : ∃ A, A = str (cut s.data.toList n) := ⟨_, rfl⟩
  have HA : Hid (str (cut s.data.toList n) = A) := hA.symm
  have hAd : A.data.toList = cut s.data.toList n := by rw [hA]; rfl
  have hAs : A.size ≤ s.size := by rw [Lib.size_eq, Lib.size_eq, hAd]; exact cut_len hy n
  obtain ⟨B, hB⟩ : ∃ B, B = str (cut s.data.toList (n + 1)) := ⟨_, rfl⟩
  have HBc : Hid (str (cut s.data.toList (n + 1)) = B) := hB.symm
  have hBd : B.data.toList = cut s.data.toList (n + 1) := by rw [hB]; rfl
  have hBs : B.size ≤ s.size := by rw [Lib.size_eq, Lib.size_eq, hBd]; exact cut_len hy (n + 1)
  have hAB : A.size ≤ B.size := by rw [Lib.size_eq, Lib.size_eq, hAd, hBd]; exact cut_mono hy (by omega)
  have hAl : A.size = (cut s.data.toList n).length := by rw [Lib.size_eq, hAd]
  have hBl : B.size = (cut s.data.toList (n + 1)).length := by rw [Lib.size_eq, hBd]
  rw [← hAl, ← hBl] at hlong
  obtain ⟨R, hR⟩ : ∃ R, R = str [UInt8.ofNat (128 + c % 64).toNat] := ⟨_, rfl⟩
  have hRd : R.data.toList = [UInt8.ofNat (128 + c % 64).toNat] := by rw [hR]; rfl
  have hRs : R.size = 1 := by rw [Lib.size_eq, hRd]; rfl
  have hRs2 : R.size ≤ 1 := by omega
  have hcv := fun W => conv1_drew W (128 + c % 64) R hR.symm
  have hTd : (A ++ R ++ s.extract A.size s.size).data.toList = encs (ys.take n.toNat) ++ [UInt8.ofNat (128 + c % 64).toNat] ++ encs (ys.drop n.toNat) := by
    rw [ByteArray.data_append, Array.toList_append, ByteArray.data_append, Array.toList_append, hRd, Lib.extract_data, List.take_of_length_le (by rw [List.length_drop, ← Lib.size_eq]; exact Nat.le_refl _), hAd, hAl, drop_cut hy n, cut_eq hy n]
  have HT : Hid (decide (0 ≤ cnt (A ++ R ++ s.extract A.size s.size).data.toList) = false) := by
    show _ = _
    rw [hTd]
    have := spoilt_put (take_runes (runes_sound hy).1 n.toNat) (UInt8.ofNat (128 + c % 64).toNat) (encs (ys.drop n.toNat)) (by rw [toNat_ofNat (by omega)]; omega) (by rw [toNat_ofNat (by omega)]; omega)
    unfold cnt; rw [this]; rfl
  have hTm : (A ++ R ++ s.extract A.size s.size).size ≤ maxLen := by rw [ByteArray.size_append, ByteArray.size_append, ByteArray.size_extract]; unfold maxLen; omega
  have cT := Lib.hid (fun W => Valid_at (A ++ R ++ s.extract A.size s.size) W hTm false HT)
  obtain ⟨x, hx, hxr, hx2, hBA⟩ := cut_next hy n hn.1 (by rw [← hAl, ← hBl]; exact hlong)
  have hT1d : (B.extract 0 (B.size - 1)).data.toList = encs (ys.take n.toNat) ++ (enc x).dropLast := by
    rw [Lib.extract_data, List.drop_zero, Nat.sub_zero, Lib.size_eq B, ← List.dropLast_eq_take, hBd, hBA, cut_eq hy n, List.dropLast_append_of_ne_nil (enc_ne x)]
  have hT2d : (B.extract 0 (B.size - 1) ++ s.extract B.size s.size).data.toList = encs (ys.take n.toNat) ++ ((enc x).dropLast ++ encs (ys.drop (n + 1).toNat)) := by
    have e2 : (s.extract B.size s.size).data.toList = encs (ys.drop (n + 1).toNat) := by
      rw [Lib.extract_data, List.take_of_length_le (by rw [List.length_drop, ← Lib.size_eq]; exact Nat.le_refl _), hBl, drop_cut hy (n + 1)]
    rw [ByteArray.data_append, Array.toList_append, hT1d, e2, List.append_assoc]
  have HT1 : Hid (decide (0 ≤ cnt (B.extract 0 (B.size - 1)).data.toList) = false) := by
    show _ = _
    have := spoilt_take (ys := []) (take_runes (runes_sound hy).1 n.toNat) hxr (by simp) hx2
    rw [encs_nil, List.append_nil] at this
    rw [hT1d]; unfold cnt; rw [this]; rfl
  have HT2 : Hid (decide (0 ≤ cnt (B.extract 0 (B.size - 1) ++ s.extract B.size s.size).data.toList) = false) := by
    show _ = _
    have := spoilt_take (take_runes (runes_sound hy).1 n.toNat) hxr (drop_runes (runes_sound hy).1 (n + 1).toNat) hx2
    rw [hT2d]; unfold cnt; rw [this]; rfl
  have hT1m : (B.extract 0 (B.size - 1)).size ≤ maxLen := by rw [ByteArray.size_extract]; unfold maxLen; omega
  have hT2m : (B.extract 0 (B.size - 1) ++ s.extract B.size s.size).size ≤ maxLen := by rw [ByteArray.size_append, ByteArray.size_extract, ByteArray.size_extract]; unfold maxLen; omega
  have cT1 := Lib.hid (fun W => Valid_at (B.extract 0 (B.size - 1)) W hT1m false HT1)
  have cT2 := Lib.hid (fun W => Valid_at (B.extract 0 (B.size - 1) ++ s.extract B.size s.size) W hT2m false HT2)
  clear hx hxr hx2 hBA hT1d hT2d HT1 HT2 hT1m hT2m
  have d1 : decide (s.size < A.size) = false := by simp; omega
  have d2 : decide ((s.size : Int) < (A.size : Int)) = false := by simp; omega
  clear hy hA hAd hR hRd hRs hB hBd hAl hBl hTd hTm HT
  go_enter Try.func9, Try.ntmps9
  go_wp2_with fail
  refine (Valid_at s _ hsm _ HL).mono ?_
  rintro e w' ⟨rfl, hb⟩
  replace HB := HB.trans (hb.mono HB.size)
  clear hb
  go_wp2_with fail
  refine (Cut_at s n _ hs2 (by omega) (by omega) A HA).mono ?_
  rintro e w1 ⟨rfl, hb⟩
  replace HB := HB.trans (hb.mono HB.size)
  clear hb
  go_wp2_with fail
  refine wp_region_any (by kernel_rfl) ?_
  change wpAny _ _ _ _ _ _ _ (World.drew _)
  refine wpAny_take (i := 0) (v := .string A) rfl (by kernel_rfl) (by kernel_rfl) (by kernel_rfl) (fun _ _ _ h => h) (Or.inl ⟨by kernel_rfl, ?_⟩) ?_
  · intro w
    go_simp
  refine wpAny_take (i := 1) (v := .int .i64 (A.size : Nat)) rfl (by kernel_rfl) (by kernel_rfl) (by kernel_rfl) (fun _ _ _ h => h) (Or.inl ⟨by kernel_rfl, ?_⟩) ?_
  · intro w
    go_simp
  refine wpAny_take (i := 2) (v := .string s) rfl (by kernel_rfl) (by kernel_rfl) (by kernel_rfl) (fun _ _ _ h => h) (Or.inl ⟨by kernel_rfl, ?_⟩) ?_
  · intro w
    go_simp
  refine wpAny_take (i := 3) (v := .int .i64 (s.size : Nat)) rfl (by kernel_rfl) (by kernel_rfl) (by kernel_rfl) (fun _ _ _ h => h) (Or.inl ⟨by kernel_rfl, ?_⟩) ?_
  · intro w
    go_simp
  refine wpAny_take (i := 4) (v := .bool false) rfl (by kernel_rfl) (by kernel_rfl) (by kernel_rfl) (fun _ _ _ h => h) (Or.inl ⟨by kernel_rfl, ?_⟩) ?_
  · intro w
    go_simp
  refine wpAny_take (i := 5) (v := .bool false) rfl (by kernel_rfl) (by kernel_rfl) (by kernel_rfl) (fun _ _ _ h => h) (Or.inl ⟨by kernel_rfl, ?_⟩) ?_
  · intro w
    go_simp
  refine wpAny_take (i := 6) (v := .string A) rfl (by kernel_rfl) (by kernel_rfl) (by kernel_rfl) (fun _ _ _ h => h) (Or.inl ⟨by kernel_rfl, ?_⟩) ?_
  · intro w
    go_simp
  refine wpAny_take (i := 7) (v := .int .u8 c) rfl (by kernel_rfl) (by kernel_rfl) (by kernel_rfl) (fun _ _ _ h => h) (Or.inl ⟨by kernel_rfl, ?_⟩) ?_
  · intro w
    go_simp
  refine wpAny_take (i := 8) (v := .int .u8 (c % 64)) rfl (by kernel_rfl) (by kernel_rfl) (by kernel_rfl) (fun _ _ _ h => h) (Or.inl ⟨by kernel_rfl, ?_⟩) ?_
  · intro w
    go_simp
    exact Int.tmod_eq_emod_of_nonneg hc.1
  refine wpAny_take (i := 9) (v := .int .u8 (128 + c % 64)) rfl (by kernel_rfl) (by kernel_rfl) (by kernel_rfl) (fun _ _ _ h => h) (Or.inl ⟨by kernel_rfl, ?_⟩) ?_
  · intro w
    go_simp
    rw [IntKind.wrap_u8]; omega
  refine wpAny_take (i := 13) (v := .string s) rfl (by kernel_rfl) (by kernel_rfl) (by kernel_rfl) (fun _ _ _ h => h) (Or.inl ⟨by kernel_rfl, ?_⟩) ?_
  · intro w
    go_simp
  refine wpAny_take (i := 14) (v := .string A) rfl (by kernel_rfl) (by kernel_rfl) (by kernel_rfl) (fun _ _ _ h => h) (Or.inl ⟨by kernel_rfl, ?_⟩) ?_
  · intro w
    go_simp
  refine wpAny_take (i := 15) (v := .int .i64 (A.size : Nat)) rfl (by kernel_rfl) (by kernel_rfl) (by kernel_rfl) (fun _ _ _ h => h) (Or.inl ⟨by kernel_rfl, ?_⟩) ?_
  · intro w
    go_simp
  refine wpAny_take (i := 16) (v := .string (s.extract A.size s.size)) rfl (by kernel_rfl) (by kernel_rfl) (by kernel_rfl) (fun _ _ _ h => h) (Or.inl ⟨by kernel_rfl, ?_⟩) ?_
  · intro w
    go_simp
  refine wpAny_ready (rs := [10]) (by kernel_rfl) (by simp) ?_
  refine AllReady.cons rfl (fun K hK => ?_) AllReady.nil
  go_simp
  refine hK _ _ ?_
  clear hK K
  refine wpAny_ready (rs := [11]) (by kernel_rfl) (by simp) ?_
  refine AllReady.cons rfl (fun K hK => ?_) AllReady.nil
  go_simp
  refine hK _ _ ?_
  clear hK K
  refine wpAny_take (i := 12) (v := .string (A ++ R)) rfl (by kernel_rfl) (by kernel_rfl) (by kernel_rfl) (fun _ _ _ h => h) (Or.inl ⟨by kernel_rfl, ?_⟩) ?_
  · intro w
    go_simp
    omega
  refine wpAny_take (i := 17) (v := .string (A ++ R ++ s.extract A.size s.size)) rfl (by kernel_rfl) (by kernel_rfl) (by kernel_rfl) (fun _ _ _ h => h) (Or.inl ⟨by kernel_rfl, ?_⟩) ?_
  · intro w
    go_simp
    omega
  refine wpAny_ready (rs := [18]) (by kernel_rfl) (by simp) ?_
  refine AllReady.cons rfl (fun K hK => ?_) AllReady.nil
  go_simp
  replace HB := (HB.alloc HB.size (.cells #[.int .u8 (128 + c % 64)] 5)).drew
  refine (cT.out _).mono ?_
  rintro e w2 ⟨rfl, hb⟩
  replace HB := HB.trans (hb.mono HB.size)
  clear hb
  refine hK _ _ ?_
  clear hK K
  refine wpAny_take (i := 19) (v := .bool false) rfl (by kernel_rfl) (by kernel_rfl) (by kernel_rfl) (fun _ _ _ h => h) (Or.inl ⟨by kernel_rfl, ?_⟩) ?_
  · intro w
    go_simp
  refine wpAny_done (by kernel_rfl) ?_ _
  clear hcv cT d1 d2
  go_wp2_with fail
  refine (Cut_at s (n + 1) _ hs2 (by omega) (by omega) B HBc).mono ?_
  rintro e w3 ⟨rfl, hb⟩
  replace HB := HB.trans (hb.mono HB.size)
  clear hb
  go_wp2_with fail
  have d3 : decide (B.size ≤ s.size) = true := by simp; omega
  have d4 : decide ((B.size : Int) ≤ (s.size : Int)) = true := by simp; omega
  have e1 : IntKind.i64.wrap ((B.size : Int) - (A.size : Int)) = (B.size : Int) - (A.size : Int) := IntWalk.i64_in _ (by omega)
  have d5 : decide ((B.size : Int) - (A.size : Int) < 2) = false := by simp; omega
  have e2 : IntKind.i64.wrap ((B.size : Int) - 1) = (B.size : Int) - 1 := IntWalk.i64_in _ (by omega)
  have e3 : 0 ≤ (B.size : Int) - 1 := by omega
  have e4 : ((B.size : Int) - 1).toNat = B.size - 1 := by omega
  have e5 : (B.size : Int) - 1 ≤ (B.size : Int) := by omega
  refine wp_region_quiet_below (by kernel_rfl) (by kernel_rfl) ?_
  repeat (go_big_quiet_step (first | (go_at_call 13; exact Calls.regrown_of (cT1.out _)) | (go_at_call 13; exact Calls.regrown_of (cT2.out _)) | (go_at_call 10; exact Calls.regrown_of (alive_any _))))
  refine wpQuiet_nil ?_
  intro _ hw'
  obtain ⟨⟨dq, osq⟩, hw''⟩ := hw'
  subst hw''
  go_wp2_with fail
  go_ret
  exact ⟨rfl, HB.trans ((below_regrown w3 dq osq).mono HB.size)⟩

set_option maxHeartbeats 2000000 in
set_option maxRecDepth 100000 in
theorem walk_short (s : ByteArray) (n c : Int) (hs : s.size ≤ 4096) (hn : 0 ≤ n ∧ n ≤ 255) (hc : 0 ≤ c ∧ c ≤ 255) (ys : List Nat) (hy : runes s.data.toList = some ys)
    (hlong : (cut s.data.toList (n + 1)).length - (cut s.data.toList n).length < 2) (w : World) :
    Calls Try.prog 9 #[.string s, .int .u8 n, .int .u8 c] w fun e w' => e = .returned (.bool true) ∧ Below w.heap.size w w' := by
  have HB : Below w.heap.size w w := Below.refl _ _
  have HL : Hid (decide (0 ≤ cnt s.data.toList) = true) := by show _ = _; rw [cnt_eq hy]; simp
  have hsm : s.size ≤ maxLen := by unfold maxLen; omega
  have hs2 : s.size ≤ 281474976710656 := by omega
  obtain ⟨A, hA⟩ : ∃ A, A = str (cut s.data.toList n) := ⟨_, rfl⟩
  have HA : Hid (str (cut s.data.toList n) = A) := hA.symm
  have hAd : A.data.toList = cut s.data.toList n := by rw [hA]; rfl
  have hAs : A.size ≤ s.size := by rw [Lib.size_eq, Lib.size_eq, hAd]; exact cut_len hy n
  obtain ⟨B, hB⟩ : ∃ B, B = str (cut s.data.toList (n + 1)) := ⟨_, rfl⟩
  have HBc : Hid (str (cut s.data.toList (n + 1)) = B) := hB.symm
  have hBd : B.data.toList = cut s.data.toList (n + 1) := by rw [hB]; rfl
  have hBs : B.size ≤ s.size := by rw [Lib.size_eq, Lib.size_eq, hBd]; exact cut_len hy (n + 1)
  have hAB : A.size ≤ B.size := by rw [Lib.size_eq, Lib.size_eq, hAd, hBd]; exact cut_mono hy (by omega)
  have hAl : A.size = (cut s.data.toList n).length := by rw [Lib.size_eq, hAd]
  have hBl : B.size = (cut s.data.toList (n + 1)).length := by rw [Lib.size_eq, hBd]
  rw [← hAl, ← hBl] at hlong
  obtain ⟨R, hR⟩ : ∃ R, R = str [UInt8.ofNat (128 + c % 64).toNat] := ⟨_, rfl⟩
  have hRd : R.data.toList = [UInt8.ofNat (128 + c % 64).toNat] := by rw [hR]; rfl
  have hRs : R.size = 1 := by rw [Lib.size_eq, hRd]; rfl
  have hRs2 : R.size ≤ 1 := by omega
  have hcv := fun W => conv1_drew W (128 + c % 64) R hR.symm
  have hTd : (A ++ R ++ s.extract A.size s.size).data.toList = encs (ys.take n.toNat) ++ [UInt8.ofNat (128 + c % 64).toNat] ++ encs (ys.drop n.toNat) := by
    rw [ByteArray.data_append, Array.toList_append, ByteArray.data_append, Array.toList_append, hRd, Lib.extract_data, List.take_of_length_le (by rw [List.length_drop, ← Lib.size_eq]; exact Nat.le_refl _), hAd, hAl, drop_cut hy n, cut_eq hy n]
  have HT : Hid (decide (0 ≤ cnt (A ++ R ++ s.extract A.size s.size).data.toList) = false) := by
    show _ = _
    rw [hTd]
    have := spoilt_put (take_runes (runes_sound hy).1 n.toNat) (UInt8.ofNat (128 + c % 64).toNat) (encs (ys.drop n.toNat)) (by rw [toNat_ofNat (by omega)]; omega) (by rw [toNat_ofNat (by omega)]; omega)
    unfold cnt; rw [this]; rfl
  have hTm : (A ++ R ++ s.extract A.size s.size).size ≤ maxLen := by rw [ByteArray.size_append, ByteArray.size_append, ByteArray.size_extract]; unfold maxLen; omega
  have cT := Lib.hid (fun W => Valid_at (A ++ R ++ s.extract A.size s.size) W hTm false HT)
  have d1 : decide (s.size < A.size) = false := by simp; omega
  have d2 : decide ((s.size : Int) < (A.size : Int)) = false := by simp; omega
  clear hy hA hAd hR hRd hRs hB hBd hAl hBl hTd hTm HT
  go_enter Try.func9, Try.ntmps9
  go_wp2_with fail
  refine (Valid_at s _ hsm _ HL).mono ?_
  rintro e w' ⟨rfl, hb⟩
  replace HB := HB.trans (hb.mono HB.size)
  clear hb
  go_wp2_with fail
  refine (Cut_at s n _ hs2 (by omega) (by omega) A HA).mono ?_
  rintro e w1 ⟨rfl, hb⟩
  replace HB := HB.trans (hb.mono HB.size)
  clear hb
  go_wp2_with fail
  refine wp_region_any (by kernel_rfl) ?_
  change wpAny _ _ _ _ _ _ _ (World.drew _)
  refine wpAny_take (i := 0) (v := .string A) rfl (by kernel_rfl) (by kernel_rfl) (by kernel_rfl) (fun _ _ _ h => h) (Or.inl ⟨by kernel_rfl, ?_⟩) ?_
  · intro w
    go_simp
  refine wpAny_take (i := 1) (v := .int .i64 (A.size : Nat)) rfl (by kernel_rfl) (by kernel_rfl) (by kernel_rfl) (fun _ _ _ h => h) (Or.inl ⟨by kernel_rfl, ?_⟩) ?_
  · intro w
    go_simp
  refine wpAny_take (i := 2) (v := .string s) rfl (by kernel_rfl) (by kernel_rfl) (by kernel_rfl) (fun _ _ _ h => h) (Or.inl ⟨by kernel_rfl, ?_⟩) ?_
  · intro w
    go_simp
  refine wpAny_take (i := 3) (v := .int .i64 (s.size : Nat)) rfl (by kernel_rfl) (by kernel_rfl) (by kernel_rfl) (fun _ _ _ h => h) (Or.inl ⟨by kernel_rfl, ?_⟩) ?_
  · intro w
    go_simp
  refine wpAny_take (i := 4) (v := .bool false) rfl (by kernel_rfl) (by kernel_rfl) (by kernel_rfl) (fun _ _ _ h => h) (Or.inl ⟨by kernel_rfl, ?_⟩) ?_
  · intro w
    go_simp
  refine wpAny_take (i := 5) (v := .bool false) rfl (by kernel_rfl) (by kernel_rfl) (by kernel_rfl) (fun _ _ _ h => h) (Or.inl ⟨by kernel_rfl, ?_⟩) ?_
  · intro w
    go_simp
  refine wpAny_take (i := 6) (v := .string A) rfl (by kernel_rfl) (by kernel_rfl) (by kernel_rfl) (fun _ _ _ h => h) (Or.inl ⟨by kernel_rfl, ?_⟩) ?_
  · intro w
    go_simp
  refine wpAny_take (i := 7) (v := .int .u8 c) rfl (by kernel_rfl) (by kernel_rfl) (by kernel_rfl) (fun _ _ _ h => h) (Or.inl ⟨by kernel_rfl, ?_⟩) ?_
  · intro w
    go_simp
  refine wpAny_take (i := 8) (v := .int .u8 (c % 64)) rfl (by kernel_rfl) (by kernel_rfl) (by kernel_rfl) (fun _ _ _ h => h) (Or.inl ⟨by kernel_rfl, ?_⟩) ?_
  · intro w
    go_simp
    exact Int.tmod_eq_emod_of_nonneg hc.1
  refine wpAny_take (i := 9) (v := .int .u8 (128 + c % 64)) rfl (by kernel_rfl) (by kernel_rfl) (by kernel_rfl) (fun _ _ _ h => h) (Or.inl ⟨by kernel_rfl, ?_⟩) ?_
  · intro w
    go_simp
    rw [IntKind.wrap_u8]; omega
  refine wpAny_take (i := 13) (v := .string s) rfl (by kernel_rfl) (by kernel_rfl) (by kernel_rfl) (fun _ _ _ h => h) (Or.inl ⟨by kernel_rfl, ?_⟩) ?_
  · intro w
    go_simp
  refine wpAny_take (i := 14) (v := .string A) rfl (by kernel_rfl) (by kernel_rfl) (by kernel_rfl) (fun _ _ _ h => h) (Or.inl ⟨by kernel_rfl, ?_⟩) ?_
  · intro w
    go_simp
  refine wpAny_take (i := 15) (v := .int .i64 (A.size : Nat)) rfl (by kernel_rfl) (by kernel_rfl) (by kernel_rfl) (fun _ _ _ h => h) (Or.inl ⟨by kernel_rfl, ?_⟩) ?_
  · intro w
    go_simp
  refine wpAny_take (i := 16) (v := .string (s.extract A.size s.size)) rfl (by kernel_rfl) (by kernel_rfl) (by kernel_rfl) (fun _ _ _ h => h) (Or.inl ⟨by kernel_rfl, ?_⟩) ?_
  · intro w
    go_simp
  refine wpAny_ready (rs := [10]) (by kernel_rfl) (by simp) ?_
  refine AllReady.cons rfl (fun K hK => ?_) AllReady.nil
  go_simp
  refine hK _ _ ?_
  clear hK K
  refine wpAny_ready (rs := [11]) (by kernel_rfl) (by simp) ?_
  refine AllReady.cons rfl (fun K hK => ?_) AllReady.nil
  go_simp
  refine hK _ _ ?_
  clear hK K
  refine wpAny_take (i := 12) (v := .string (A ++ R)) rfl (by kernel_rfl) (by kernel_rfl) (by kernel_rfl) (fun _ _ _ h => h) (Or.inl ⟨by kernel_rfl, ?_⟩) ?_
  · intro w
    go_simp
    omega
  refine wpAny_take (i := 17) (v := .string (A ++ R ++ s.extract A.size s.size)) rfl (by kernel_rfl) (by kernel_rfl) (by kernel_rfl) (fun _ _ _ h => h) (Or.inl ⟨by kernel_rfl, ?_⟩) ?_
  · intro w
    go_simp
    omega
  refine wpAny_ready (rs := [18]) (by kernel_rfl) (by simp) ?_
  refine AllReady.cons rfl (fun K hK => ?_) AllReady.nil
  go_simp
  replace HB := (HB.alloc HB.size (.cells #[.int .u8 (128 + c % 64)] 5)).drew
  refine (cT.out _).mono ?_
  rintro e w2 ⟨rfl, hb⟩
  replace HB := HB.trans (hb.mono HB.size)
  clear hb
  refine hK _ _ ?_
  clear hK K
  refine wpAny_take (i := 19) (v := .bool false) rfl (by kernel_rfl) (by kernel_rfl) (by kernel_rfl) (fun _ _ _ h => h) (Or.inl ⟨by kernel_rfl, ?_⟩) ?_
  · intro w
    go_simp
  refine wpAny_done (by kernel_rfl) ?_ _
  clear hcv cT d1 d2
  go_wp2_with fail
  refine (Cut_at s (n + 1) _ hs2 (by omega) (by omega) B HBc).mono ?_
  rintro e w3 ⟨rfl, hb⟩
  replace HB := HB.trans (hb.mono HB.size)
  clear hb
  go_wp2_with fail
  have d3 : decide (B.size ≤ s.size) = true := by simp; omega
  have d4 : decide ((B.size : Int) ≤ (s.size : Int)) = true := by simp; omega
  have e1 : IntKind.i64.wrap ((B.size : Int) - (A.size : Int)) = (B.size : Int) - (A.size : Int) := IntWalk.i64_in _ (by omega)
  have d5 : decide ((B.size : Int) - (A.size : Int) < 2) = true := by simp; omega
  refine wp_region_quiet_below (by kernel_rfl) (by kernel_rfl) ?_
  repeat (go_big_quiet_step (first | (go_at_call 10; exact Calls.regrown_of (alive_any _))))
  refine wpQuiet_nil ?_
  intro _ hw'
  obtain ⟨⟨dq, osq⟩, hw''⟩ := hw'
  subst hw''
  go_wp2_with fail
  go_ret
  exact ⟨rfl, HB.trans ((below_regrown w3 dq osq).mono HB.size)⟩

set_option maxHeartbeats 1000000 in
set_option maxRecDepth 100000 in
theorem walk (s : ByteArray) (n c : Int) (hs : s.size ≤ maxLen) (hn : (Lit.int .u8 n).wf = true) (hc : (Lit.int .u8 c).wf = true) (w : World) :
    Calls Try.prog 9 #[.string s, .int .u8 n, .int .u8 c] w fun e w' => e = .returned (.bool true) ∧ Below w.heap.size w w' := by
  have hnb := bounds_u8 hn
  have hcb := bounds_u8 hc
  clear hn hc
  have hs1 := hs
  unfold maxLen at hs1
  have HB : Below w.heap.size w w := Below.refl _ _
  by_cases h1 : 4096 < s.size
  · go_enter Try.func9, Try.ntmps9
    go_wp2_with (go_at_call 10; refine (alive_any _).mono ?_; rintro e w' ⟨rfl, hb⟩; replace HB := HB.trans (hb.mono HB.size); clear hb)
    go_ret
    exact ⟨rfl, HB⟩
  cases hy : runes s.data.toList with
  | none =>
    have HL : Hid (decide (0 ≤ cnt s.data.toList) = false) := by show _ = _; unfold cnt; rw [hy]; rfl
    clear hy
    go_enter Try.func9, Try.ntmps9
    go_wp2_with (first
      | (go_at_call 10; refine (alive_any _).mono ?_; rintro e w' ⟨rfl, hb⟩; replace HB := HB.trans (hb.mono HB.size); clear hb)
      | (go_at_call 13; refine (Valid_at s _ hs _ HL).mono ?_; rintro e w' ⟨rfl, hb⟩; replace HB := HB.trans (hb.mono HB.size); clear hb))
    go_ret
    exact ⟨rfl, HB⟩
  | some ys =>
    by_cases hl : 2 ≤ (cut s.data.toList (n + 1)).length - (cut s.data.toList n).length
    · exact walk_long s n c (by omega) hnb hcb ys hy hl w
    · exact walk_short s n c (by omega) hnb hcb ys hy (by omega) w

end Go.Proofs.Ytjlnlidbdngbpaa.textSpoilt
