/-
  Contracts of layer 6: Scan; the document's Four, number, Put, Cut, Scan.
-/
import Derived.Test.YtikbokbmaihdbaaDoorFWalkB
import Derived.Test.YtikbokbmaihdbaaDoorTxt
import Derived.Test.YtikbokbmaihdbaaDoorStrArgs
import Derived.OwnWalk
import Derived.WalkMore
import Derived.Deep.LoopGhost
namespace Go.Proofs.YtikbokbmaihdbaaDoor
open Go.RowKit Go.ChangeShapes Go.WideShapes

theorem one_text (w : World) (v : Value) (t : TypeId) : ∀ (j : Nat) (u : Value), [v][j]? = some u → (w.alloc (.cells #[v] t)).cell? ((⟨w.heap.size, 0, none⟩ : Addr).add j) = some u := by
  intro j u hj
  match j, hj with
  | 0, hj => simp at hj; subst hj; simp [Addr.add]
theorem one_str (t : ByteArray) : ∀ u ∈ [Value.string t], u.oneCell' = true := by intro u hu; simp at hu; subst hu; rfl

/-- 'append(texts, t)'. -/
theorem wpList_append_text {ops : Array Oper} {rest : List Oper} {o : Oper} {a : Act} {w1 : World} {Q : Exit → Act → World → Prop} (hgd : o.guard = none) (s x : Operand)
    (ho : o.op = .call { callee := .builtin .append, args := #[s, x], argTypes := #[25, 25] }) (w : World) (t : ByteArray) (base : Nat) (hbase : base ≤ w.heap.size) (v : Value) (ts : List ByteArray) (hs : a.eval s = v) (hown : w.ownsRow base 9 1 v ts.length (txt ts)) (hl : ts.length ≤ 1000000)
    (hx : a.eval x = .slice (some ⟨w.heap.size, 0, none⟩) 1 1) (h1 : w1 = w.alloc (.cells #[.string t] 9))
    (h : ∀ v' w', w'.ownsRow base 9 1 v' (ts ++ [t]).length (txt (ts ++ [t])) → Below base w w' → wpList Tryd.prog ops Q rest (a.put o.dst v') w') : wpList Tryd.prog ops Q (o :: rest) a w1 := by
  subst h1
  obtain ⟨i, hi, hz, hs1, hb⟩ : ∃ i, Tryd.prog.info? 9 = some i ∧ i.zero = some (.string ByteArray.empty) ∧ i.size = 1 ∧ i.bytes = 16 := by
    have h := info9
    cases hq : Tryd.prog.info? 9 with
    | none => rw [hq] at h; cases h
    | some i => rw [hq] at h; simp at h; exact ⟨i, rfl, h.1, h.2.1, h.2.2⟩
  have hown1 := hown.alloc (.cells #[.string t] 9)
  refine wpList_append_own _ hgd s x 25 ho base 9 i (.string ByteArray.empty) 1 16 Tryd.underlying25 hi hz hs1 hb rfl (by decide) v ts.length (txt ts) hs hown1 ⟨w.heap.size, 0, none⟩ 1 1 [.string t] hx (by simp) (one_text w _ _) (one_str t) (by unfold maxLen; omega) (by omega) (by simp; omega) ?_
  intro v' w' hown' hg _
  refine h v' w' ?_ (((Below.refl _ w).alloc hbase _).grown hg (by simp; omega) (fun k hk => (hown1.lt k hk).1))
  rw [txt_snoc] at hown'
  simpa using hown'

set_option maxHeartbeats 1000000 in
theorem Scan_any0 (s : ByteArray) (hs : s.size ≤ 1048576) (w : World) (hW : Hid (Tab w)) (ts : List ByteArray) (k e : Nat) (hS : Hid (sc s.data.toList = (ts, k, e))) :
    Calls Tryd.prog 25 #[.string s] w fun r w' => ∃ A cap, r = .returned (.tuple #[.slice A ts.length cap, .int .i64 k, .int .i64 e]) ∧ Strs w' A ts.length ts ∧ Below w.heap.size w w' ∧ (A = none → cap = 0) ∧ ∀ ad, A = some ad → w.heap.size ≤ ad.block := by
  go_enter Tryd.func25, Tryd.ntmps25
  go_wp2
  go_step3
  go_wp2
  go_step3
  go_wp2
  go_loopw [2, 3, 4] (fun tv kv ev wr => ∃ (i : Nat) (us : List ByteArray), i ≤ s.size ∧ kv = .int .i64 i ∧ ev = .int .i64 0 ∧ us.length ≤ 1000000 ∧ Hid (At s.data.toList i us) ∧ Hid (wr.ownsRow w.heap.size 9 1 tv us.length (txt us)) ∧ Hid (Below w.heap.size w wr)) (fun _ kv _ _ => s.size - (intOf kv).toNat)
  case atStart => exact ⟨0, [], Nat.zero_le _, rfl, rfl, by decide, At.start _, ⟨rfl, .inl ⟨rfl, rfl⟩⟩, Below.refl _ _⟩
  case round =>
    obtain ⟨i, us, hi, rfl, rfl, hul, HA, HO, HB⟩ := hrel
    have hsz := HB.out.size
    by_cases hlt : i < s.size
    · obtain ⟨Z, hZ⟩ : ∃ Z, s.extract i s.size = Z := ⟨_, rfl⟩
      have HZ : Hid (Z.data.toList = s.data.toList.drop i) := by show _ = _; rw [← hZ, Lib.extract_data, List.take_of_length_le (by simp)]
      have hZs : Z.size ≤ 1099511627776 := by rw [← hZ, ByteArray.size_extract]; omega
      have hZi : Z.size ≤ s.size - i := by rw [← hZ, ByteArray.size_extract]; omega
      obtain ⟨ce, hce⟩ : ∃ c, cE Z.data.toList = c := ⟨_, rfl⟩
      obtain ⟨T, hT⟩ : ∃ T, str (cT Z.data.toList) = T := ⟨_, rfl⟩
      have HCE := Lib.hid hce
      have HT := Lib.hid hT
      have HW1 : Hid (Tab wr) := hW.out.below HB.out
      clear hce hT
      by_cases h0 : ce = 0
      · subst h0
        have hTs : 8 + T.size ≤ Z.size := by rw [← HT.out, str_size, cT_len HCE.out, size_len Z]; exact (cE_zero HCE.out).1
        have hus : us.length + 1 ≤ 1000000 := by have := HA.out.2.1; omega
        have HN : Hid (At s.data.toList (i + (8 + T.size)) (us ++ [T])) := by
          have h := HA.out.step (by rw [← HZ.out]; exact HCE.out)
          rw [← HZ.out, HT.out] at h
          rw [← HT.out, str_size, HT.out]
          exact h
        clear HA
        go_wp2_with fail
        refine (front_at Z T 0 hZs _ HW1 HCE HT).mono ?_
        rintro e w1 ⟨rfl, hb⟩
        have HO1 := Lib.hid (owns_below HO.out (of_drewN hb))
        have HB1 := Lib.hid (HB.out.trans (of_drewN hb))
        clear hb HO HB HW1
        go_wp2_with fail
        refine (Clone_any T _ (by omega)).mono ?_
        rintro e w2 ⟨rfl, hb⟩
        have HO2 := Lib.hid (owns_below HO1.out hb)
        have HB2 := Lib.hid (HB1.out.trans (hb.mono HB1.out.size))
        clear hb HO1 HB1
        go_wp2_with (at_builtin; refine wpList_append_text (by rfl) (.tmp 22) (.tmp 25) (by rfl) w2 T w.heap.size HB2.out.size _ us (by rfl) HO2.out (by omega) (by rfl) rfl ?_; intro v' w3 hown hb)
        have HO3 := Lib.hid hown
        have HB3 := Lib.hid (HB2.out.trans hb)
        clear hown hb HO2 HB2
        go_wp2_with fail
        refine (Size_any T (by omega) _).mono ?_
        rintro e w4 ⟨rfl, rfl⟩
        go_wp2_with fail
        go_roundw
        case rel => exact ⟨i + (8 + T.size), us ++ [T], by omega, by go_num, rfl, by simp; omega, HN, HO3, HB3⟩
        case measure => simp [intOf]; omega
      · have HD : Hid (sc s.data.toList = (us, i, ce)) := by
          have h := HA.out.wrong (by rw [← size_len]; exact hlt) (by rw [← HZ.out, HCE.out]; exact h0)
          rw [← HZ.out, HCE.out] at h
          exact h
        have hne : ((ce : Int) == 0) = false := by rw [beq_eq_false_iff_ne]; omega
        obtain ⟨rfl, rfl, rfl⟩ : ts = us ∧ k = i ∧ e = ce := by simpa using hS.out.symm.trans HD.out
        obtain ⟨A, cap, rfl, hst, hA0, hAn⟩ := owns_strs0 HO.out rfl
        have HA0 := Lib.hid hA0
        have HAN := Lib.hid hAn
        clear hA0 hAn
        have HST := Lib.hid hst
        clear HA h0 hst HD HO
        go_wp2_with fail
        refine (front_at Z T e hZs _ HW1 HCE HT).mono ?_
        rintro e w1 ⟨rfl, hb⟩
        have HS1 := Lib.hid (HST.out.below (of_drewN hb))
        have HB1 := Lib.hid (HB.out.trans (of_drewN hb))
        clear hb HST HB HW1
        go_wp2_with fail
        rw [Exit.noGoto_ret]
        go_ret3
        exact ⟨A, cap, rfl, HS1.out, HB1.out, HA0.out, HAN.out⟩
    · have HD : Hid (sc s.data.toList = (us, i, 0)) := HA.out.done (by rw [← size_len]; exact hlt)
      obtain ⟨rfl, rfl, rfl⟩ : ts = us ∧ k = i ∧ e = 0 := by simpa using hS.out.symm.trans HD.out
      obtain ⟨A, cap, rfl, hst, hA0, hAn⟩ := owns_strs0 HO.out rfl
      have HA0 := Lib.hid hA0
      have HAN := Lib.hid hAn
      clear hA0 hAn
      have HST := Lib.hid hst
      clear HA hst HD HO
      go_wp2_with fail
      rw [Exit.noGoto_ret]
      go_ret3
      exact ⟨A, cap, rfl, HST.out, HB.out, HA0.out, HAN.out⟩
theorem Scan_any (s : ByteArray) (hs : s.size ≤ 1048576) (w : World) (hW : Hid (Tab w)) (ts : List ByteArray) (k e : Nat) (hS : Hid (sc s.data.toList = (ts, k, e))) :
    Calls Tryd.prog 25 #[.string s] w fun r w' => ∃ A cap, r = .returned (.tuple #[.slice A ts.length cap, .int .i64 k, .int .i64 e]) ∧ Strs w' A ts.length ts ∧ Below w.heap.size w w' := by
  refine (Scan_any0 s hs w hW ts k e hS).mono ?_
  rintro r w' ⟨A, cap, rfl, h1, h2, _⟩
  exact ⟨A, cap, rfl, h1, h2⟩
/-- .. of no bytes: the table is not read. -/
theorem Scan_nil (s : ByteArray) (hs : s.size = 0) (w : World) :
    Calls Tryd.prog 25 #[.string s] w fun r w' => r = .returned (.tuple #[.slice none 0 0, .int .i64 (0 : Nat), .int .i64 (0 : Nat)]) ∧ w' = w := by
  have d : decide ((0 : Int) < (s.size : Int)) = false := decide_eq_false (by omega)
  go_enter Tryd.func25, Tryd.ntmps25
  go_wp2
  go_step3
  go_wp2
  go_step3
  go_wp2
  go_loopw [2, 3, 4] (fun tv kv ev wr => tv = .slice none 0 0 ∧ kv = .int .i64 0 ∧ ev = .int .i64 0 ∧ wr = w) (fun _ _ _ _ => 0)
  case atStart => exact ⟨rfl, rfl, rfl, rfl⟩
  case round =>
    obtain ⟨rfl, rfl, rfl, rfl⟩ := hrel
    go_wp2_with fail
    rw [Exit.noGoto_ret]
    go_ret3
    exact ⟨rfl, rfl⟩

end Go.Proofs.YtikbokbmaihdbaaDoor
