/-
  FrameTurned, the walk.
-/
import Derived.Test.YtjjhgfbemfbplaaDoorFWorks
import Derived.OpenShut
namespace Go.Proofs.YtjjhgfbemfbplaaDoor.frameTurned
open Go.RowKit

theorem vl_append : ∀ (x y : List UInt8), vl (x ++ y) = vl x ^^^ (vl y <<< (8 * x.length))
  | [], y => by simp [vl]
  | b :: x, y => by
    rw [List.cons_append, vl, vl_append x y, vl, Nat.shiftLeft_xor_distrib, Nat.xor_assoc, ← Nat.shiftLeft_add, List.length_cons, show 8 * x.length + 8 = 8 * (x.length + 1) by omega]

theorem turn_toNat (X : UInt8) (t : Nat) (ht : t < 8) : (UInt8.ofNat (X.toNat ^^^ 2 ^ t)).toNat = X.toNat ^^^ 2 ^ t := by
  have h : X.toNat ^^^ 2 ^ t < 2 ^ 8 := Nat.xor_lt_two_pow (UInt8.toNat_lt X) (Nat.pow_lt_pow_right (by decide) ht)
  simp only [UInt8.toNat_ofNat']
  exact Nat.mod_eq_of_lt h
theorem turn_byte (X : UInt8) (t : Nat) (ht : t < 8) : bits .xor .u8 (X.toNat : Int) ((2 : Int) ^ t % 256) = ((UInt8.ofNat (X.toNat ^^^ 2 ^ t)).toNat : Int) := by
  have h2 : (2 : Nat) ^ t < 2 ^ 8 := Nat.pow_lt_pow_right (by decide) ht
  have e : ((2 : Int) ^ t % 256) = ((2 ^ t : Nat) : Int) := by
    have e1 : ((2 : Int) ^ t) = ((2 ^ t : Nat) : Int) := by simp
    rw [e1]
    exact Int.emod_eq_of_lt (Int.natCast_nonneg _) (Int.ofNat_lt.2 h2)
  rw [turn_toNat X t ht, e]
  exact u8_xor_nat _ _ (UInt8.toNat_lt X) h2

/-- The head, and under it the text that is turned bit by bit. -/
structure Row (wr : World) (g : Nat) (t : List UInt8) (f q p : Nat) (u : List UInt8) : Prop where
  small : p < 2 ^ q
  len : u.length = t.length
  val : vl u = vl t ^^^ (p <<< f)
  row : BRow wr g (le4 t.length ++ (le4 (ck t) ++ u))
theorem row_get (t u : List UInt8) (j : Nat) (hj : j < u.length) (h : 8 + j < (le4 t.length ++ (le4 (ck t) ++ u)).length) : (le4 t.length ++ (le4 (ck t) ++ u))[8 + j] = u[j] := by
  simp only [← List.append_assoc]
  rw [List.getElem_append_right (by simp [le4_len])]
  congr 1
  simp [le4_len]
theorem row_set (t u : List UInt8) (j : Nat) (c : UInt8) : (le4 t.length ++ (le4 (ck t) ++ u)).set (8 + j) c = le4 t.length ++ (le4 (ck t) ++ u.set j c) := by
  rw [List.set_append_right _ _ (by simp [le4_len]; omega), List.set_append_right _ _ (by simp [le4_len]; omega)]
  congr 3
  simp [le4_len]
  omega
theorem row_len (t u : List UInt8) : (le4 t.length ++ (le4 (ck t) ++ u)).length = 8 + u.length := by simp only [List.length_append, le4_len]; omega

/-- What one turned bit does to all that the loop knows. -/
theorem turned {wr : World} {g f q p : Nat} {t u : List UInt8} {X : UInt8} (h : Row wr g t f q p u) (hj : (f + q) / 8 < u.length) (hX : X = u[(f + q) / 8]) :
    p ^^^ 2 ^ q ≠ 0 ∧ Row (wr.setCell ⟨g, 8 + (f + q) / 8, none⟩ (.int .u8 (bits .xor .u8 (X.toNat : Int) ((2 : Int) ^ ((f + q) % 8) % 256)))) g t f (q + 1) (p ^^^ 2 ^ q) (u.set ((f + q) / 8) (UInt8.ofNat (X.toNat ^^^ 2 ^ ((f + q) % 8)))) := by
  have ht : (f + q) % 8 < 8 := Nat.mod_lt _ (by decide)
  have hp := h.small
  refine ⟨?_, ?_, by simpa using h.len, ?_, ?_⟩
  · intro e
    have h1 := xor_back p (2 ^ q)
    rw [e, Nat.xor_zero] at h1
    omega
  · exact Nat.xor_lt_two_pow (Nat.lt_trans hp (Nat.pow_lt_pow_right (by decide) (by omega))) (Nat.pow_lt_pow_right (by decide) (by omega))
  · rw [vl_turn (2 ^ ((f + q) % 8)) u _ hj _ (by rw [turn_toNat X _ ht, hX]), h.val, Nat.shiftLeft_xor_distrib, Nat.xor_assoc]
    congr 2
    rw [Nat.shiftLeft_eq, Nat.shiftLeft_eq, ← Nat.pow_add, ← Nat.pow_add]
    congr 1
    omega
  · rw [turn_byte X _ ht, ← row_set]
    exact h.row.store _ (by rw [row_len]; omega) _

/-- The end: what Cut says of it. -/
theorem told {wr : World} {g f q p : Nat} {t u : List UInt8} (h : Row wr g t f q p u) (hq : q ≤ 32) (hf : f ≤ 8 * t.length) (ht : t.length ≤ 4096) :
    (p ≠ 0 → cE (le4 t.length ++ (le4 (ck t) ++ u)) = 60) ∧ (p = 0 → cE (le4 t.length ++ (le4 (ck t) ++ u)) = 0) := by
  have hp : p < 4294967296 := Nat.lt_of_lt_of_le h.small (Nat.pow_le_pow_right (n := 2) (by decide) hq)
  have hB := burst (a := le4 t.length ++ t) (b := le4 t.length ++ u) (p := p) (f := 32 + f) (by simp [h.len]) hp (by simp [le4_len]; omega) (by
    rw [vl_append, vl_append, h.val, Nat.shiftLeft_xor_distrib, ← Nat.xor_assoc, ← Nat.shiftLeft_add, le4_len, show f + 8 * 4 = 32 + f by omega])
  rw [cE_turn t u (by omega) h.len]
  exact ⟨fun e => if_pos (hB.2 e), fun e => if_neg (fun e2 => hB.1 e2 e)⟩

set_option maxHeartbeats 1000000 in
set_option maxRecDepth 100000 in
theorem walk_n (s : ByteArray) (a b : Nat) (ha : a < 4294967296) (h0 : 0 < s.size) (hs : s.size ≤ 4096) (w : World) (hT : Hid (Tab w)) :
    Calls Tryd.prog 5 #[.string s, .int .u32 a, .int .u32 b] w fun e w' => e = .returned (.bool true) ∧ Below w.heap.size w w' := by
  obtain ⟨F, hF⟩ : ∃ F, str (fr s.data.toList) = F := ⟨_, rfl⟩
  have hFs : F.size = s.size + 8 := by rw [← hF, str_size, fr_len, ← size_len]; omega
  have hFd : Hid (F.data.toList = le4 s.data.toList.length ++ (le4 (ck s.data.toList) ++ s.data.toList)) := by show _ = _; rw [← hF]; rfl
  have KA := Lib.hid (fun W hW => Put_at s F (by omega) W hW hF)
  have e0 : (8 * (s.size : Int) == 0) = false := by rw [beq_eq_false_iff_ne]; omega
  obtain ⟨f, hf⟩ : ∃ f, f = a % (8 * s.size) := ⟨_, rfl⟩
  have hf2 : f < 8 * s.size := by rw [hf]; exact Nat.mod_lt _ (by omega)
  have HF : Hid (Value.int .i64 ((a : Int) % (8 * (s.size : Int))) = .int .i64 (f : Int)) := by show _ = _; rw [hf]; congr 1
  clear hf hF
  go_enter Tryd.func5, Tryd.ntmps5
  go_wp2_with fail
  refine (KA.out _ hT).mono ?_
  rintro e w1 ⟨rfl, hb⟩
  have HB1 := Lib.hid hb
  have HT1 : Hid (Tab w1) := hT.out.below hb
  clear hb
  obtain ⟨cap, w2, hcv, hrow, hbel, hsz⟩ := BRow.conv w1 F
  rw [hFs] at hcv
  obtain ⟨g, hg⟩ : ∃ g, g = w1.heap.size := ⟨_, rfl⟩
  rw [← hg] at hcv hrow
  have HG := Lib.hid hg
  have Hrow := Lib.hid hrow
  have HB2 := Lib.hid (HB1.out.trans (hbel.mono HB1.out.size))
  have HB3 : Hid (Below g w1 w2) := by show Below _ _ _; rw [hg]; exact hbel
  have HW1 := Lib.hid HB1.out.size
  clear hg hrow hsz hbel HB1
  go_wp2_with fail
  rw [HF.out]
  clear hcv HF
  go_loopw [12, 13] (fun sm k wr => ∃ (q p : Nat) (u : List UInt8) (y : Bool), q ≤ 32 ∧ k = .int .i64 q ∧ sm = .bool y ∧ Hid (y = decide (p ≠ 0)) ∧ Hid (Row wr g s.data.toList f q p u) ∧ Hid (Below w.heap.size w wr) ∧ Hid (Below g w1 wr)) (fun _ k _ => 32 - (intOf k).toNat)
  case atStart => exact ⟨0, 0, s.data.toList, false, by omega, rfl, rfl, rfl, ⟨by omega, rfl, by rw [Nat.zero_shiftLeft, Nat.xor_zero], by rw [← hFd.out]; exact Hrow.out⟩, HB2, HB3⟩
  case round =>
    clear HB2 HB3 Hrow
    obtain ⟨q, p, u, y, hq, rfl, rfl, HY, HR, HB, HB1⟩ := hrel
    have HL : Hid (u.length = s.size) := by show _ = _; rw [HR.out.len, ← size_len]
    by_cases hgo : q < 32 ∧ f + q < 8 * s.size
    · have c1 := hgo.1
      have c2 := hgo.2
      clear hgo
      have hj : (f + q) / 8 < u.length := by rw [HL.out]; omega
      have hj2 : 8 + (f + q) / 8 < s.size + 8 := by omega
      obtain ⟨X, hX⟩ : ∃ X, X = u[(f + q) / 8] := ⟨_, rfl⟩
      obtain ⟨hc, hz⟩ : wr.cell? ⟨g, 8 + (f + q) / 8, none⟩ = some (.int .u8 (X.toNat : Int)) ∧ wr.frozen? ⟨g, 8 + (f + q) / 8, none⟩ = false := by
        have h := HR.out.row.2 (8 + (f + q) / 8) (by rw [row_len]; omega)
        rw [row_get _ _ _ hj, ← hX] at h
        exact h
      have HX := Lib.hid hX
      clear hX
      by_cases ht : (bits .and .u32 ((b : Int) / 2 ^ q) 1 == 1) = true
      · go_wp2_with fail
        clear hc hz
        go_roundw
        case rel =>
          have T := turned HR.out hj HX.out
          exact ⟨q + 1, p ^^^ 2 ^ q, _, true, by omega, by go_num, rfl, by show _ = _; rw [decide_eq_true T.1], T.2, HB.out.setCell (by show w.heap.size ≤ g; rw [HG.out]; exact HW1.out) _, HB1.out.setCell (Nat.le_refl _) _⟩
        case measure => simp [intOf]; omega
      · have ht : (bits .and .u32 ((b : Int) / 2 ^ q) 1 == 1) = false := by simpa using ht
        clear hc hz
        go_wp2_with fail
        go_roundw
        case rel => exact ⟨q + 1, p, u, y, by omega, by go_num, rfl, HY, ⟨Nat.lt_trans HR.out.small (Nat.pow_lt_pow_right (by decide) (by omega)), HR.out.len, HR.out.val, HR.out.row⟩, HB, HB1⟩
        case measure => simp [intOf]; omega
    · obtain ⟨S2, hS2⟩ : ∃ S2, str (le4 s.data.toList.length ++ (le4 (ck s.data.toList) ++ u)) = S2 := ⟨_, rfl⟩
      have hd : S2.data.toList = le4 s.data.toList.length ++ (le4 (ck s.data.toList) ++ u) := by rw [← hS2]; rfl
      have hbk : (convert 39 9 (.slice (some ⟨g, 0, none⟩) (s.size + 8) cap)).run Tryd.prog wr = .ok (.string S2) wr := by
        have := HR.out.row.back (s.size + 8) cap (by rw [row_len, HL.out]; omega)
        rw [this, ← hS2]; rfl
      have hz2 : S2.size ≤ 1099511627776 := by rw [size_len, hd, row_len, HL.out]; omega
      obtain ⟨T, hT3⟩ : ∃ T, str (cT S2.data.toList) = T := ⟨_, rfl⟩
      obtain ⟨R, hR3⟩ : ∃ R, str (cR S2.data.toList) = R := ⟨_, rfl⟩
      have HTw : Hid (Tab wr) := HT1.out.below (HB1.out.mono (Nat.le_of_eq HG.out.symm))
      have K := told HR.out hq (by rw [← size_len]; omega) (by rw [← size_len]; exact hs)
      rw [← hd] at K
      by_cases hp0 : p = 0
      · obtain rfl : y = false := by rw [HY.out]; simp [hp0]
        have KC := Lib.hid (Cut_at S2 T R 0 hz2 wr HTw (K.2 hp0) hT3 hR3)
        clear K hT3 hR3 hd hS2 hp0 HY HR
        by_cases c1 : q < 32
        · have c2 : 8 * s.size ≤ f + q := by omega
          clear hgo
          go_wp2_with (simp only [hbk])
          refine KC.out.mono ?_
          rintro e w3 ⟨rfl, hb⟩
          have HT3 : Hid (Tab w3) := HTw.out.below hb
          have HB3 := Lib.hid (HB.out.trans (hb.mono HB.out.size))
          clear hb hbk
          go_wp2_with (go_at_call 8; refine (works_any _ HT3).mono ?_; rintro e w4 ⟨rfl, hb⟩)
          go_ret
          exact ⟨rfl, HB3.out.trans (hb.mono HB3.out.size)⟩
        · clear hgo
          go_wp2_with (simp only [hbk])
          refine KC.out.mono ?_
          rintro e w3 ⟨rfl, hb⟩
          have HT3 : Hid (Tab w3) := HTw.out.below hb
          have HB3 := Lib.hid (HB.out.trans (hb.mono HB.out.size))
          clear hb hbk
          go_wp2_with (go_at_call 8; refine (works_any _ HT3).mono ?_; rintro e w4 ⟨rfl, hb⟩)
          go_ret
          exact ⟨rfl, HB3.out.trans (hb.mono HB3.out.size)⟩
      · obtain rfl : y = true := by rw [HY.out]; simp [hp0]
        have hTn : T = ⟨#[]⟩ := by rw [← hT3, cT_bad (by rw [K.1 hp0]; decide)]; rfl
        subst hTn
        have KC := Lib.hid (Cut_at S2 ⟨#[]⟩ R 60 hz2 wr HTw (K.1 hp0) hT3 hR3)
        clear K hT3 hR3 hd hS2 hp0 HY HR
        by_cases c1 : q < 32
        · have c2 : 8 * s.size ≤ f + q := by omega
          clear hgo
          go_wp2_with (simp only [hbk])
          refine KC.out.mono ?_
          rintro e w3 ⟨rfl, hb⟩
          have HT3 : Hid (Tab w3) := HTw.out.below hb
          have HB3 := Lib.hid (HB.out.trans (hb.mono HB.out.size))
          clear hb hbk
          go_wp2_with (go_at_call 8; refine (works_any _ HT3).mono ?_; rintro e w4 ⟨rfl, hb⟩)
          go_ret
          exact ⟨rfl, HB3.out.trans (hb.mono HB3.out.size)⟩
        · clear hgo
          go_wp2_with (simp only [hbk])
          refine KC.out.mono ?_
          rintro e w3 ⟨rfl, hb⟩
          have HT3 : Hid (Tab w3) := HTw.out.below hb
          have HB3 := Lib.hid (HB.out.trans (hb.mono HB.out.size))
          clear hb hbk
          go_wp2_with (go_at_call 8; refine (works_any _ HT3).mono ?_; rintro e w4 ⟨rfl, hb⟩)
          go_ret
          exact ⟨rfl, HB3.out.trans (hb.mono HB3.out.size)⟩

theorem walk (s : ByteArray) (a b : Int) (hs : s.size ≤ maxLen) (ha : (Lit.int .u32 a).wf = true) (hb : (Lit.int .u32 b).wf = true) (w : World) (hT : Tab w) :
    Calls Tryd.prog 5 #[.string s, .int .u32 a, .int .u32 b] w fun e w' => e = .returned (.bool true) ∧ Below w.heap.size w w' := by
  have hab := bounds_u32 ha
  have hbb := bounds_u32 hb
  obtain ⟨a, rfl⟩ := Int.eq_ofNat_of_zero_le hab.1
  obtain ⟨b, rfl⟩ := Int.eq_ofNat_of_zero_le hbb.1
  have hs1 := hs
  unfold maxLen at hs1
  have HT := Lib.hid hT
  clear hT
  by_cases h1 : 4096 < s.size
  · go_enter Tryd.func5, Tryd.ntmps5
    go_wp2_with (go_at_call 8; refine (works_any _ HT).mono ?_; rintro e w' ⟨rfl, hb⟩)
    go_ret
    exact ⟨rfl, hb⟩
  by_cases h0 : 0 < s.size
  · exact walk_n s a b (by omega) h0 (by omega) w HT
  · have e0 : ((s.size : Int) == 0) = true := by rw [beq_iff_eq]; omega
    have hz : s.size = 0 := by omega
    obtain ⟨F, hF⟩ : ∃ F, str (fr s.data.toList) = F := ⟨_, rfl⟩
    have hFs : F.size = 8 := by rw [← hF, str_size, fr_len, ← size_len]; omega
    have KA := Lib.hid (fun W hW => Put_at s F (by omega) W hW hF)
    clear hF
    go_enter Tryd.func5, Tryd.ntmps5
    go_wp2_with fail
    refine (KA.out _ HT).mono ?_
    rintro e w1 ⟨rfl, hb⟩
    have HB1 := Lib.hid hb
    have HT1 : Hid (Tab w1) := HT.out.below hb
    clear hb
    obtain ⟨cap, w2, hcv, hrow, hbel, hsz⟩ := BRow.conv w1 F
    rw [hFs] at hcv
    have HB2 := Lib.hid (HB1.out.trans (hbel.mono HB1.out.size))
    have HT2 : Hid (Tab w2) := HT1.out.below hbel
    clear hrow hsz hbel HB1 HT1
    go_wp2_with fail
    refine (works_any _ HT2).mono ?_
    rintro e w' ⟨rfl, hb⟩
    have HB3 := Lib.hid (HB2.out.trans (hb.mono HB2.out.size))
    clear hb
    go_wp2_with fail
    go_ret
    exact ⟨rfl, HB3.out⟩

end Go.Proofs.YtjjhgfbemfbplaaDoor.frameTurned
