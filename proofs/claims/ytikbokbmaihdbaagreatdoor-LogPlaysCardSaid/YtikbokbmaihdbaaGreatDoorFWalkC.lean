/-
  Contracts of layer 6: front, Put, Cut.
  Contracts of layer 6: Scan; the document's Four, number, Put, Cut, Scan.
-/
import Derived.Test.YtikbokbmaihdbaaGreatDoorFWalkA
import Derived.Test.YtikbokbmaihdbaaGreatDoorBRow
import Derived.OwnWalk
import Derived.WalkMore
import Derived.Deep.LoopGhost
namespace Go.Proofs.YtikbokbmaihdbaaGreatDoor
open Go.RowKit

theorem ret_two {s : ByteArray} {a b : Int} (h : a = b) : Ending.returned (.tuple #[.string s, .int .i64 a]) = Ending.returned (.tuple #[.string s, .int .i64 b]) := by rw [h]

/-- What stands at the front of bytes that are a head at least. -/
structure Head (s A B C : ByteArray) (n : Nat) : Prop where
  a : A.data.toList = s.data.toList.take 4
  b : B.data.toList = (s.data.toList.drop 4).take 4
  c : C.data.toList = s.data.toList.drop 8
  n : n = v4 s.data.toList
  za : A.size = 4
  zb : B.size = 4
  zc : C.size = s.size - 8
theorem Head.mk8 (s : ByteArray) (h : 8 ≤ s.size) : Head s (s.extract 0 4) (s.extract 4 8) (s.extract 8 s.size) (v4 s.data.toList) := by
  refine ⟨?_, ?_, ?_, rfl, ?_, ?_, ?_⟩
  · rw [Lib.extract_data]; rfl
  · rw [Lib.extract_data]
  · rw [Lib.extract_data, List.take_of_length_le (by simp)]
  · rw [ByteArray.size_extract]; omega
  · rw [ByteArray.size_extract]; omega
  · rw [ByteArray.size_extract]; omega
theorem Head.va {s A B C : ByteArray} {n : Nat} (h : Head s A B C n) : v4 A.data.toList = n := by rw [h.a, v4_take _ _ (Nat.le_refl _), h.n]
theorem Head.vb {s A B C : ByteArray} {n : Nat} (h : Head s A B C n) : v4 B.data.toList = v4 (s.data.toList.drop 4) := by rw [h.b, v4_take _ _ (Nat.le_refl _)]
theorem Head.d {s A B C : ByteArray} {n : Nat} (h : Head s A B C n) (hn : n ≤ C.size) : (C.extract 0 n).data.toList = (s.data.toList.drop 8).take (v4 s.data.toList) ∧ (C.extract 0 n).size = n := by
  refine ⟨by rw [Lib.extract_data, h.c, List.drop_zero, Nat.sub_zero, h.n], ?_⟩
  rw [ByteArray.size_extract]
  omega

set_option maxHeartbeats 1000000 in
theorem front_at (s T : ByteArray) (e : Nat) (hs : s.size ≤ 1099511627776) (w : World) (hW : Hid (Tab w)) (hE : Hid (cE s.data.toList = e)) (hT : Hid (str (cT s.data.toList) = T)) :
    Calls Tryz.prog 57 #[.string s] w fun r w' => r = .returned (.tuple #[.string T, .int .i64 (e : Nat)]) ∧ ∃ n, w' = w.drewN n := by
  have bad : e ≠ 0 → T = ⟨#[]⟩ := fun h => by rw [← hT.out, cT_bad (by rw [hE.out]; exact h)]; rfl
  by_cases h8 : s.size < 8
  · obtain rfl : e = 20 := by rw [← hE.out, cE_short (by rw [← size_len]; exact h8)]
    obtain rfl := bad (by decide)
    clear hE hT bad
    go_enter Tryz.func57, Tryz.ntmps57
    go_wp2_with fail
    go_ret2
    exact ⟨rfl, 0, rfl⟩
  have h8' : 8 ≤ s.size := by omega
  have HD := Lib.hid (Head.mk8 s h8')
  obtain ⟨n, hn⟩ : ∃ n, v4 s.data.toList = n := ⟨_, rfl⟩
  have hnl : n < 4294967296 := by rw [← hn]; exact v4_lt _
  rw [hn] at HD
  have HL8 : Hid (8 ≤ s.data.toList.length) := by show _ ≤ _; rw [← size_len]; exact h8'
  obtain ⟨A, hA⟩ : ∃ A, s.extract 0 4 = A := ⟨_, rfl⟩
  obtain ⟨B, hB⟩ : ∃ B, s.extract 4 8 = B := ⟨_, rfl⟩
  obtain ⟨C, hC⟩ : ∃ C, s.extract 8 s.size = C := ⟨_, rfl⟩
  rw [hA, hB, hC] at HD
  have HN := Lib.hid hn
  have hzc := HD.out.zc
  have HZ := Lib.hid hzc
  have hzc' : C.size ≤ 1099511627776 := by omega
  have KA := Lib.hid (fun W => number_at A (by rw [HD.out.za]; decide) (by rw [HD.out.za]; decide) W n HD.out.va)
  clear hn hzc h8
  by_cases h1 : 1048576 < n
  · obtain rfl : e = 4 := by rw [← hE.out, cE_long HL8.out (by rw [HN.out]; exact h1)]
    obtain rfl := bad (by decide)
    clear hE hT bad
    go_enter Tryz.func57, Tryz.ntmps57
    go_wp2_with fail
    go_quiet (fail)
    go_wp2_with fail
    refine (KA.out _).mono ?_
    rintro e w1 ⟨rfl, rfl⟩
    go_wp2_with fail
    go_ret2
    exact ⟨rfl, nq, rfl⟩
  by_cases h2 : C.size < n
  · obtain rfl : e = 20 := by rw [← hE.out, cE_want HL8.out (by rw [HN.out]; omega) (by rw [HN.out, ← size_len]; have := HZ.out; omega)]
    obtain rfl := bad (by decide)
    clear hE hT bad
    go_enter Tryz.func57, Tryz.ntmps57
    go_wp2_with fail
    go_quiet (fail)
    go_wp2_with fail
    refine (KA.out _).mono ?_
    rintro e w1 ⟨rfl, rfl⟩
    go_wp2_with fail
    go_ret2
    exact ⟨rfl, nq, rfl⟩
  have h2' : n ≤ C.size := by omega
  have h1' : n ≤ 1048576 := by omega
  obtain ⟨D, hD⟩ : ∃ D, C.extract 0 n = D := ⟨_, rfl⟩
  have HDD := Lib.hid (HD.out.d h2')
  rw [hD] at HDD
  obtain ⟨m1, hm1⟩ : ∃ m, v4 B.data.toList = m := ⟨_, rfl⟩
  obtain ⟨m2, hm2⟩ : ∃ m, ofN (A.data.toList ++ D.data.toList) = m := ⟨_, rfl⟩
  have KB := Lib.hid (fun W => (number_at B (by rw [HD.out.zb]; decide) (by rw [HD.out.zb]; decide) W m1 hm1).mono (fun _ _ h => And.intro h.1 h.2.symm))
  have KS := Lib.hid (fun W HW => (sum_at A D (by rw [HD.out.za]; decide) (by rw [HDD.out.2]; unfold maxLen; omega) W HW m2 hm2).mono (fun _ _ h => And.intro h.1 h.2.symm))
  have e1 : v4 (s.data.toList.drop 4) = m1 := by rw [← hm1, HD.out.vb]
  have e2 : ofN (s.data.toList.take 4 ++ (s.data.toList.drop 8).take (v4 s.data.toList)) = m2 := by rw [← hm2, HDD.out.1, HD.out.a]
  have E1 := Lib.hid e1
  have E2 := Lib.hid e2
  have hlen : Hid (8 + v4 s.data.toList ≤ s.data.toList.length) := by show _ ≤ _; rw [HN.out, ← size_len]; have := HZ.out; omega
  have hv : Hid (v4 s.data.toList ≤ 1048576) := by show _ ≤ _; rw [HN.out]; exact h1'
  clear hm1 hm2 e1 e2 h1 h2
  by_cases h3 : m1 = m2
  · obtain rfl : e = 0 := by rw [← hE.out, cE_good HL8.out hv.out hlen.out (by rw [E1.out, E2.out, h3])]
    have hTD : T = D := by rw [← hT.out, cT, if_pos hE.out, ← HDD.out.1, str_of]
    have HTD := Lib.hid hTD
    have ht : ((m1 : Int) != (m2 : Int)) = false := by subst h3; simp
    clear hTD bad hE hT h3
    go_enter Tryz.func57, Tryz.ntmps57
    go_wp2_with fail
    go_quiet (fail)
    obtain ⟨w1, hw1⟩ : ∃ w1, w1 = w.drewN nq := ⟨_, rfl⟩
    rw [← hw1]
    have HW1 : Hid (∃ n, w1 = w.drewN n) := ⟨nq, hw1⟩
    have HT1 : Hid (Tab w1) := by rw [hw1]; exact hW.out.drewN nq
    clear hw1
    go_wp2_with fail
    refine (KA.out _).mono ?_
    rintro e w1' ⟨rfl, rfl⟩
    go_wp2_with fail
    go_quiet ((first | (go_at_call 75; exact Calls.quiet_of_same (KB.out _)) | (go_at_call 66; exact Calls.quiet_of_same (KS.out _ (HT1.out.drewN _)))))
    go_wp2_with fail
    go_ret2
    obtain ⟨k, hk⟩ := HW1.out
    exact ⟨by rw [HTD.out]; rfl, k + nq, by rw [hk, World.drewN_drewN]⟩
  · obtain rfl : e = 60 := by rw [← hE.out, cE_sum HL8.out hv.out hlen.out (by rw [E1.out, E2.out]; exact h3)]
    obtain rfl := bad (by decide)
    have ht : ((m1 : Int) != (m2 : Int)) = true := by have h' : (m1 : Int) ≠ m2 := by omega
                                                      simp [h']
    clear bad hE hT h3
    go_enter Tryz.func57, Tryz.ntmps57
    go_wp2_with fail
    go_quiet (fail)
    obtain ⟨w1, hw1⟩ : ∃ w1, w1 = w.drewN nq := ⟨_, rfl⟩
    rw [← hw1]
    have HW1 : Hid (∃ n, w1 = w.drewN n) := ⟨nq, hw1⟩
    have HT1 : Hid (Tab w1) := by rw [hw1]; exact hW.out.drewN nq
    clear hw1
    go_wp2_with fail
    refine (KA.out _).mono ?_
    rintro e w1' ⟨rfl, rfl⟩
    go_wp2_with fail
    go_quiet ((first | (go_at_call 75; exact Calls.quiet_of_same (KB.out _)) | (go_at_call 66; exact Calls.quiet_of_same (KS.out _ (HT1.out.drewN _)))))
    go_wp2_with fail
    go_ret2
    obtain ⟨k, hk⟩ := HW1.out
    exact ⟨rfl, k + nq, by rw [hk, World.drewN_drewN]⟩

theorem Put_long (t : ByteArray) (ht : 1048576 < t.size) (hs : t.size ≤ 1099511627776) (w : World) : Calls Tryz.prog 36 #[.string t] w fun r w' => r = .returned (.tuple #[.string ⟨#[]⟩, .int .i64 4]) ∧ w = w' := by
  go_enter Tryz.func36, Tryz.ntmps36
  go_wp2_with fail
  go_ret2
  exact ⟨rfl, rfl⟩

set_option maxHeartbeats 1000000 in
theorem Put_at (t F : ByteArray) (ht : t.size ≤ 1048576) (w : World) (hW : Hid (Tab w)) (hF : Hid (str (fr t.data.toList) = F)) :
    Calls Tryz.prog 36 #[.string t] w fun r w' => r = .returned (.tuple #[.string F, .int .i64 0]) ∧ Below w.heap.size w w' := by
  obtain ⟨X, hX⟩ : ∃ X, str (le4 t.size) = X := ⟨_, rfl⟩
  obtain ⟨c, hc⟩ : ∃ c, ck t.data.toList = c := ⟨_, rfl⟩
  obtain ⟨Y, hY⟩ : ∃ Y, str (le4 c) = Y := ⟨_, rfl⟩
  have HXY : Hid (X ++ Y ++ t = F) := by
    show _ = _
    rw [← hF.out, ← hX, ← hY, ← hc]
    conv => lhs; rw [← str_of t]
    rw [str_append, str_append, fr, List.append_assoc, ← size_len]
    rfl
  have HS : Hid (ofN (X.data.toList ++ t.data.toList) = c) := by
    show _ = _
    rw [← hc, ← hX, ck, ← size_len]; rfl
  have HXz : X.size = 4 := by rw [← hX, str_size]; rfl
  have HYz : Y.size = 4 := by rw [← hY, str_size]; rfl
  have hXs : X.size ≤ 1099511627776 := by omega
  have hYs : Y.size ≤ 1099511627776 := by omega
  have hXm : X.size ≤ maxLen := by unfold maxLen; omega
  have htm : t.size ≤ maxLen := by unfold maxLen; omega
  have HXs : (X ++ Y).size ≤ 1099511627776 := by rw [ByteArray.size_append]; omega
  have k1 : ∀ W, Calls Tryz.prog 65 #[.int .u32 (t.size : Int)] W fun e w' => e = .returned (.string X) ∧ Below W.heap.size W w' := fun W => by rw [← hX]; exact four_any t.size W
  have k2 : ∀ W, Calls Tryz.prog 65 #[.int .u32 (c : Int)] W fun e w' => e = .returned (.string Y) ∧ Below W.heap.size W w' := fun W => by rw [← hY]; exact four_any c W
  have K1 := Lib.hid k1
  have K2 := Lib.hid k2
  have hu : IntKind.u32.wrap (t.size : Int) = t.size := by rw [IntKind.wrap_u32']; omega
  clear hX hc hY HXz HYz k1 k2
  go_enter Tryz.func36, Tryz.ntmps36
  go_wp2_with fail
  refine (K1.out _).mono ?_
  rintro e w1 ⟨rfl, hb⟩
  have HB1 := Lib.hid hb
  have HT1 : Hid (Tab w1) := hW.out.below hb
  clear hb
  go_wp2_with fail
  refine (sum_at X t hXm htm _ HT1 c HS).mono ?_
  rintro e w2 ⟨rfl, rfl⟩
  go_wp2_with fail
  refine (K2.out _).mono ?_
  rintro e w3 ⟨rfl, hb⟩
  have HB3 := Lib.hid (HB1.out.trans (hb.mono HB1.out.size))
  clear hb HB1
  go_wp2_with fail
  go_ret2
  exact ⟨by rw [HXY.out]; rfl, HB3.out⟩

end Go.Proofs.YtikbokbmaihdbaaGreatDoor

namespace Go.Proofs.YtikbokbmaihdbaaGreatDoor
open Go.RowKit Go.ChangeShapes Go.WideShapes

theorem one_text (w : World) (v : Value) (t : TypeId) : ∀ (j : Nat) (u : Value), [v][j]? = some u → (w.alloc (.cells #[v] t)).cell? ((⟨w.heap.size, 0, none⟩ : Addr).add j) = some u := by
  intro j u hj
  match j, hj with
  | 0, hj => simp at hj; subst hj; simp [Addr.add]
theorem one_str (t : ByteArray) : ∀ u ∈ [Value.string t], u.oneCell' = true := by intro u hu; simp at hu; subst hu; rfl

/-- 'append(texts, t)'. -/
theorem wpList_append_text {ops : Array Oper} {rest : List Oper} {o : Oper} {a : Act} {w1 : World} {Q : Exit → Act → World → Prop} (hgd : o.guard = none) (s x : Operand)
    (ho : o.op = .call { callee := .builtin .append, args := #[s, x], argTypes := #[33, 33] }) (w : World) (t : ByteArray) (base : Nat) (hbase : base ≤ w.heap.size) (v : Value) (ts : List ByteArray) (hs : a.eval s = v) (hown : w.ownsRow base 9 1 v ts.length (txt ts)) (hl : ts.length ≤ 1000000)
    (hx : a.eval x = .slice (some ⟨w.heap.size, 0, none⟩) 1 1) (h1 : w1 = w.alloc (.cells #[.string t] 9))
    (h : ∀ v' w', w'.ownsRow base 9 1 v' (ts ++ [t]).length (txt (ts ++ [t])) → Below base w w' → wpList Tryz.prog ops Q rest (a.put o.dst v') w') : wpList Tryz.prog ops Q (o :: rest) a w1 := by
  subst h1
  obtain ⟨i, hi, hz, hs1, hb⟩ : ∃ i, Tryz.prog.info? 9 = some i ∧ i.zero = some (.string ByteArray.empty) ∧ i.size = 1 ∧ i.bytes = 16 := by
    have h := info9
    cases hq : Tryz.prog.info? 9 with
    | none => rw [hq] at h; cases h
    | some i => rw [hq] at h; simp at h; exact ⟨i, rfl, h.1, h.2.1, h.2.2⟩
  have hown1 := hown.alloc (.cells #[.string t] 9)
  refine wpList_append_own _ hgd s x 33 ho base 9 i (.string ByteArray.empty) 1 16 Tryz.underlying33 hi hz hs1 hb rfl (by decide) v ts.length (txt ts) hs hown1 ⟨w.heap.size, 0, none⟩ 1 1 [.string t] hx (by simp) (one_text w _ _) (one_str t) (by unfold maxLen; omega) (by omega) (by simp; omega) ?_
  intro v' w' hown' hg _
  refine h v' w' ?_ (((Below.refl _ w).alloc hbase _).grown hg (by simp; omega) (fun k hk => (hown1.lt k hk).1))
  rw [txt_snoc] at hown'
  simpa using hown'

set_option maxHeartbeats 1000000 in
theorem Scan_any0 (s : ByteArray) (hs : s.size ≤ 1048576) (w : World) (hW : Hid (Tab w)) (ts : List ByteArray) (k e : Nat) (hS : Hid (sc s.data.toList = (ts, k, e))) :
    Calls Tryz.prog 25 #[.string s] w fun r w' => ∃ A cap, r = .returned (.tuple #[.slice A ts.length cap, .int .i64 k, .int .i64 e]) ∧ Strs w' A ts.length ts ∧ Below w.heap.size w w' ∧ (A = none → cap = 0) ∧ ∀ ad, A = some ad → w.heap.size ≤ ad.block := by
  go_enter Tryz.func25, Tryz.ntmps25
  go_wp2
  go_step3
  go_wp2
  go_step3
  go_wp2
  go_loopw [2, 3, 4] (fun tv kv ev wr => ∃ (i : Nat) (us : List ByteArray), i ≤ s.size ∧ kv = .int .i64 i ∧ ev = .int .i64 0 ∧ us.length ≤ 1000000 ∧ Hid (At s.data.toList i us) ∧ Hid (wr.ownsRow w.heap.size 9 1 tv us.length (txt us)) ∧ Hid (Below w.heap.size w wr)) (fun _ kv _ _ => s.size - (intOf kv).toNat)
  case atStart => exact ⟨0, [], Nat.zero_le _, rfl, rfl, by decide, At.start _, ⟨rfl, .inl ⟨rfl, rfl⟩⟩, Below.refl _ _⟩
  case round =>
    obtain ⟨i, us, hi, rfl, rfl, hul, HA, HO, HB⟩ := hrel
    have hsz := HB.out.size
    by_cases hlt : i < s.size
    · obtain ⟨Z, hZ⟩ : ∃ Z, s.extract i s.size = Z := ⟨_, rfl⟩
      have HZ : Hid (Z.data.toList = s.data.toList.drop i) := by show _ = _; rw [← hZ, Lib.extract_data, List.take_of_length_le (by simp)]
      have hZs : Z.size ≤ 1099511627776 := by rw [← hZ, ByteArray.size_extract]; omega
      have hZi : Z.size ≤ s.size - i := by rw [← hZ, ByteArray.size_extract]; omega
      obtain ⟨ce, hce⟩ : ∃ c, cE Z.data.toList = c := ⟨_, rfl⟩
      obtain ⟨T, hT⟩ : ∃ T, str (cT Z.data.toList) = T := ⟨_, rfl⟩
      have HCE := Lib.hid hce
      have HT := Lib.hid hT
      have HW1 : Hid (Tab wr) := hW.out.below HB.out
      clear hce hT
      by_cases h0 : ce = 0
      · subst h0
        have hTs : 8 + T.size ≤ Z.size := by rw [← HT.out, str_size, cT_len HCE.out, size_len Z]; exact (cE_zero HCE.out).1
        have hus : us.length + 1 ≤ 1000000 := by have := HA.out.2.1; omega
        have HN : Hid (At s.data.toList (i + (8 + T.size)) (us ++ [T])) := by
          have h := HA.out.step (by rw [← HZ.out]; exact HCE.out)
          rw [← HZ.out, HT.out] at h
          rw [← HT.out, str_size, HT.out]
          exact h
        clear HA
        go_wp2_with fail
        refine (front_at Z T 0 hZs _ HW1 HCE HT).mono ?_
        rintro e w1 ⟨rfl, hb⟩
        have HO1 := Lib.hid (owns_below HO.out (of_drewN hb))
        have HB1 := Lib.hid (HB.out.trans (of_drewN hb))
        clear hb HO HB HW1
        go_wp2_with fail
        refine (Clone_any T _ (by omega)).mono ?_
        rintro e w2 ⟨rfl, hb⟩
        have HO2 := Lib.hid (owns_below HO1.out hb)
        have HB2 := Lib.hid (HB1.out.trans (hb.mono HB1.out.size))
        clear hb HO1 HB1
        go_wp2_with (at_builtin; refine wpList_append_text (by rfl) (.tmp 22) (.tmp 25) (by rfl) w2 T w.heap.size HB2.out.size _ us (by rfl) HO2.out (by omega) (by rfl) rfl ?_; intro v' w3 hown hb)
        have HO3 := Lib.hid hown
        have HB3 := Lib.hid (HB2.out.trans hb)
        clear hown hb HO2 HB2
        go_wp2_with fail
        refine (Size_any T (by omega) _).mono ?_
        rintro e w4 ⟨rfl, rfl⟩
        go_wp2_with fail
        go_roundw
        case rel => exact ⟨i + (8 + T.size), us ++ [T], by omega, by go_num, rfl, by simp; omega, HN, HO3, HB3⟩
        case measure => simp [intOf]; omega
      · have HD : Hid (sc s.data.toList = (us, i, ce)) := by
          have h := HA.out.wrong (by rw [← size_len]; exact hlt) (by rw [← HZ.out, HCE.out]; exact h0)
          rw [← HZ.out, HCE.out] at h
          exact h
        have hne : ((ce : Int) == 0) = false := by rw [beq_eq_false_iff_ne]; omega
        obtain ⟨rfl, rfl, rfl⟩ : ts = us ∧ k = i ∧ e = ce := by simpa using hS.out.symm.trans HD.out
        obtain ⟨A, cap, rfl, hst, hA0, hAn⟩ := owns_strs0 HO.out rfl
        have HA0 := Lib.hid hA0
        have HAN := Lib.hid hAn
        clear hA0 hAn
        have HST := Lib.hid hst
        clear HA h0 hst HD HO
        go_wp2_with fail
        refine (front_at Z T e hZs _ HW1 HCE HT).mono ?_
        rintro e w1 ⟨rfl, hb⟩
        have HS1 := Lib.hid (HST.out.below (of_drewN hb))
        have HB1 := Lib.hid (HB.out.trans (of_drewN hb))
        clear hb HST HB HW1
        go_wp2_with fail
        rw [Exit.noGoto_ret]
        go_ret3
        exact ⟨A, cap, rfl, HS1.out, HB1.out, HA0.out, HAN.out⟩
    · have HD : Hid (sc s.data.toList = (us, i, 0)) := HA.out.done (by rw [← size_len]; exact hlt)
      obtain ⟨rfl, rfl, rfl⟩ : ts = us ∧ k = i ∧ e = 0 := by simpa using hS.out.symm.trans HD.out
      obtain ⟨A, cap, rfl, hst, hA0, hAn⟩ := owns_strs0 HO.out rfl
      have HA0 := Lib.hid hA0
      have HAN := Lib.hid hAn
      clear hA0 hAn
      have HST := Lib.hid hst
      clear HA hst HD HO
      go_wp2_with fail
      rw [Exit.noGoto_ret]
      go_ret3
      exact ⟨A, cap, rfl, HST.out, HB.out, HA0.out, HAN.out⟩
theorem Scan_any (s : ByteArray) (hs : s.size ≤ 1048576) (w : World) (hW : Hid (Tab w)) (ts : List ByteArray) (k e : Nat) (hS : Hid (sc s.data.toList = (ts, k, e))) :
    Calls Tryz.prog 25 #[.string s] w fun r w' => ∃ A cap, r = .returned (.tuple #[.slice A ts.length cap, .int .i64 k, .int .i64 e]) ∧ Strs w' A ts.length ts ∧ Below w.heap.size w w' := by
  refine (Scan_any0 s hs w hW ts k e hS).mono ?_
  rintro r w' ⟨A, cap, rfl, h1, h2, _⟩
  exact ⟨A, cap, rfl, h1, h2⟩
/-- .. of no bytes: the table is not read. -/
theorem Scan_nil (s : ByteArray) (hs : s.size = 0) (w : World) :
    Calls Tryz.prog 25 #[.string s] w fun r w' => r = .returned (.tuple #[.slice none 0 0, .int .i64 (0 : Nat), .int .i64 (0 : Nat)]) ∧ w' = w := by
  have d : decide ((0 : Int) < (s.size : Int)) = false := decide_eq_false (by omega)
  go_enter Tryz.func25, Tryz.ntmps25
  go_wp2
  go_step3
  go_wp2
  go_step3
  go_wp2
  go_loopw [2, 3, 4] (fun tv kv ev wr => tv = .slice none 0 0 ∧ kv = .int .i64 0 ∧ ev = .int .i64 0 ∧ wr = w) (fun _ _ _ _ => 0)
  case atStart => exact ⟨rfl, rfl, rfl, rfl⟩
  case round =>
    obtain ⟨rfl, rfl, rfl, rfl⟩ := hrel
    go_wp2_with fail
    rw [Exit.noGoto_ret]
    go_ret3
    exact ⟨rfl, rfl⟩

end Go.Proofs.YtikbokbmaihdbaaGreatDoor
