/-
  ShaPieces, the walk.
-/
import Derived.Test.YteajhimmhlccdaaDoorSOne
import Derived.Test.YteajhimmhlccdaaDoorStrArgs
import Derived.Test.YteajhimmhlccdaaDoorSQTail
namespace Go.Proofs.YteajhimmhlccdaaDoor.shaPieces
open Go.RowKit Go.ChangeShapes Go.WideShapes

set_option maxRecDepth 100000 in
set_option maxHeartbeats 1000000 in
theorem walk (A : Option Addr) (len cap : Nat) (ss : List ByteArray) (w : World) (hv : StrsView w A len cap ss) (hT : Tab w) :
    Calls Tryd.prog 4 #[.slice A len cap] w fun e w' => e = .returned (.bool true) ∧ Below w.heap.size w w' := by
  have HT0 := Lib.hid hT
  have HV := Lib.hid hv
  have hfew := hv.few
  clear hT hv
  go_enter Tryd.func4, Tryd.ntmps4
  go_wp2_with fail
  go_loopw [3, 4] (fun nv iv wr => ∃ i : Nat, i ≤ len ∧ i ≤ 300 ∧ nv = .int .i64 ((cats (ss.take i)).length : Nat) ∧ iv = .int .i64 i ∧ (cats (ss.take i)).length ≤ i * 140737488351232 ∧ w = wr) (fun _ iv _ => len - (intOf iv).toNat)
  case atStart => exact ⟨0, Nat.zero_le _, Nat.zero_le _, rfl, rfl, by simp [cats], rfl⟩
  case round =>
    obtain ⟨i, hi', hi3, rfl, rfl, hN, rfl⟩ := hrel
    have HL := Lib.hid HV.out.row.len
    obtain ⟨N, hNN⟩ : ∃ N, (cats (ss.take i)).length = N := ⟨_, rfl⟩
    rw [hNN] at hN ⊢
    have HNN := Lib.hid hNN
    clear hNN
    by_cases hlt : i < len ∧ i < 300
    · obtain ⟨hlt, hlt3⟩ := hlt
      have hil : i < ss.length := by rw [HL.out]; exact hlt
      obtain ⟨b, off, rfl, hbl, hc⟩ := HV.out.row.cell i hil
      have hxs := HV.out.short ss[i] (List.getElem_mem _)
      obtain ⟨x, hx⟩ : ∃ x, ss[i] = x := ⟨_, rfl⟩
      rw [hx] at hc hxs
      have HE : Hid ((cats (ss.take (i + 1))).length = N + x.size) := by show _ = _; rw [cats_snoc ss i hil, hx, List.length_append, HNN.out]; simp
      clear hx
      go_wp2_with fail
      go_roundw
      case rel => exact ⟨i + 1, by omega, by omega, by rw [HE.out]; go_num, by go_num, by rw [HE.out]; omega, trivial⟩
      case measure => simp [intOf]; omega
    · by_cases hlong : 200 < len
      · by_cases h1 : i < len
        · have h2 : ¬ i < 300 := fun h => hlt ⟨h1, h⟩
          clear hlt
          go_wp2_with fail
          refine (works_any _ HT0).mono ?_
          rintro e w5 ⟨rfl, hb⟩
          have HB5 := Lib.hid hb
          clear hb
          go_wp2_with fail
          go_ret
          exact ⟨rfl, HB5.out⟩
        · clear hlt
          go_wp2_with fail
          refine (works_any _ HT0).mono ?_
          rintro e w5 ⟨rfl, hb⟩
          have HB5 := Lib.hid hb
          clear hb
          go_wp2_with fail
          go_ret
          exact ⟨rfl, HB5.out⟩
      · have h1 : ¬ i < len := fun h => hlt ⟨h, by omega⟩
        clear hlt
        by_cases hbig : 8192 < N
        · go_wp2_with fail
          refine (works_any _ HT0).mono ?_
          rintro e w5 ⟨rfl, hb⟩
          have HB5 := Lib.hid hb
          clear hb
          go_wp2_with fail
          go_ret
          exact ⟨rfl, HB5.out⟩
        · have HN : Hid ((cats ss).length ≤ 8192) := by
            show _ ≤ _
            have h3 := HNN.out
            rw [List.take_of_length_le (by rw [HL.out]; omega)] at h3
            omega
          go_wp2_with fail
          refine (New_any _).mono ?_
          rintro e w1 ⟨g, rfl, hg, hh, hb1⟩
          have HG := Lib.hid hg
          have HH1 : Hid (Hash w1 g (cats (ss.take 0))) := hh
          have HB1 := Lib.hid hb1
          clear hh hb1 hg HNN hN hbig h1 hi' hi3
          go_wp2_with fail
          go_loopw [6, 7] (fun sv iv wr => ∃ (i : Nat) (s : ByteArray), i ≤ len ∧ sv = .string s ∧ iv = .int .i64 i ∧ Hid (s.data.toList = cats (ss.take i)) ∧ s.size ≤ 8192 ∧ Hid (Hash wr g (cats (ss.take i))) ∧ Hid (Below w.heap.size w wr)) (fun _ iv _ => len - (intOf iv).toNat)
          case atStart => exact ⟨0, _, Nat.zero_le _, rfl, rfl, rfl, by decide, HH1, HB1⟩
          case round =>
            clear HH1 HB1
            obtain ⟨i, s, hi', rfl, rfl, HS, hsz, HH, HB⟩ := hrel
            by_cases hlt : i < len
            · have hil : i < ss.length := by rw [HL.out]; exact hlt
              obtain ⟨b, off, hA, hbl, hc0⟩ := HV.out.row.cell i hil
              obtain ⟨x, hx⟩ : ∃ x, ss[i] = x := ⟨_, rfl⟩
              rw [hx] at hc0
              have hc : wr.cell? ⟨b, off + i, none⟩ = some (.string x) := (HB.out.cell (p := ⟨b, off + i, none⟩) hbl).trans hc0
              have HE : Hid (cats (ss.take (i + 1)) = cats (ss.take i) ++ x.data.toList) := by show _ = _; rw [cats_snoc ss i hil, hx]
              have HSx : Hid ((s ++ x).data.toList = cats (ss.take (i + 1))) := by show _ = _; rw [HE.out, ← HS.out, ByteArray.data_append, Array.toList_append]
              have hle : s.size + x.size ≤ 8192 := by
                have h1 := cats_le ss (i + 1)
                have h2 := HN.out
                rw [← HSx.out, ByteArray.data_append, Array.toList_append, List.length_append] at h1
                have e1 : s.data.toList.length = s.size := by simp
                have e2 : x.data.toList.length = x.size := by simp
                omega
              have hl1 : (cats (ss.take i)).length + x.size ≤ 1099511627776 := by
                rw [← HS.out]
                have e1 : s.data.toList.length = s.size := by simp
                omega
              have HL1 := Lib.hid hl1
              have HTx : Hid (Tab wr) := HT0.out.below HB.out
              subst hA
              clear hx hc0 hl1
              go_wp2_with fail
              refine (Add_any g (cats (ss.take i)) x HL1.out _ HH HTx).mono ?_
              rintro e w2 ⟨rfl, hh2, hg2⟩
              rw [← HE.out] at hh2
              have hb2 : Below w.heap.size w w2 := HB.out.grown hg2 HB.out.size (fun k hk => by injection hk with hk; have := HG.out; omega)
              have hcw := (hb2.cell (p := ⟨b, off + i, none⟩) hbl).trans ((HB.out.cell (p := ⟨b, off + i, none⟩) hbl).symm.trans hc)
              have HT2 : Hid (Tab w2) := HT0.out.below hb2
              have HH2 := Lib.hid hh2
              have HB2 := Lib.hid hb2
              clear hc hh2 hb2 hg2 HH HTx
              go_wp2_with fail
              have hTz : (s ++ x).size ≤ 8192 := by rw [ByteArray.size_append]; exact hle
              generalize hTT : s ++ x = T at HSx hTz ⊢
              obtain ⟨X, hX⟩ : ∃ X, dg (cats (ss.take (i + 1))) = X := ⟨_, rfl⟩
              have HX := Lib.hid hX
              have HX1 : Hid (dg (cats [T]) = X) := by show _ = _; rw [cats1, HSx.out]; exact hX
              have HLN : Hid ((cats (ss.take (i + 1))).length = T.size) := by show _ = _; rw [← HSx.out]; simp
              have HR : Hid (Strs w (some ⟨b, off, none⟩) (i + 1) (ss.take (i + 1))) := by
                refine ⟨by rw [List.length_take, HL.out]; omega, fun k hk => ?_⟩
                have hk' : k < ss.length := by rw [List.length_take] at hk; omega
                obtain ⟨b', off', e, hl', hc'⟩ := HV.out.row.cell k hk'
                exact ⟨b', off', e, hl', by rw [hc', List.getElem_take]⟩
              have HQ : Hid (i + 1 ≤ 200 ∧ i + 1 ≤ len) := ⟨by omega, by omega⟩
              have hcap : i + 1 ≤ cap := by have := HV.out.fits; omega
              clear hX hTT hle hcw HE HL1
              refine wp_region_any (by kernel_rfl) ?_
              change wpAny _ _ _ _ _ _ _ (World.drew _)
              have HH3 : Hid (Hash w2.drew g (cats (ss.take (i + 1)))) := HH2.out.below ((Below.refl w2.heap.size w2).drew) HH2.out.lt
              have HT3 : Hid (Tab w2.drew) := HT2
              have HB3 : Hid (Below w.heap.size w w2.drew) := HB2.out.drew
              clear HH2 HT2 HB2
              generalize w2.drew = w3 at *
              clear w2
              refine wpAny_take (i := 0) (v := .pointer (some ⟨g, 0, none⟩)) rfl (by kernel_rfl) (by kernel_rfl) (by kernel_rfl) (fun _ _ _ h => h) (Or.inl ⟨by kernel_rfl, ?_⟩) ?_
              · intro w; go_simp
              refine wpAny_take (i := 2) (v := .string T) rfl (by kernel_rfl) (by kernel_rfl) (by kernel_rfl) (fun _ _ _ h => h) (Or.inl ⟨by kernel_rfl, ?_⟩) ?_
              · intro w; go_simp
              refine wpAny_ready (rs := [1, 3]) (by kernel_rfl) (by simp) ?_
              refine AllReady.cons rfl (fun K hK => ?_) (AllReady.cons rfl (fun K hK => ?_) AllReady.nil)
              · go_simp
                refine (Sum_at g _ X HX (by rw [HLN.out]; omega) _ HH3 HT3).mono ?_
                rintro e w4 ⟨rfl, hb⟩
                have HH4 : Hid (Hash w4 g _) := HH3.out.below hb HH3.out.lt
                have HT4 : Hid (Tab w4) := HT3.out.below hb
                have HB4 : Hid (Below w.heap.size w w4) := HB3.out.trans (hb.mono HB3.out.size)
                clear hb HH3 HT3 HB3
                refine hK _ _ ?_
                clear hK K
                refine wpAny_ready (rs := [3]) (by kernel_rfl) (by simp) ?_
                refine AllReady.cons rfl (fun K hK => ?_) AllReady.nil
                go_simp
                refine hK _ _ ?_
                clear hK K
                have HS5 := Strs.built w4 [T] 1 rfl
                have HH5 : Hid (Hash (w4.alloc (.cells ([T].map Value.string).toArray 9)) g _) := HH4.out.below ((Below.refl w4.heap.size w4).alloc (Nat.le_refl _) _) HH4.out.lt
                have HT5 : Hid (Tab (w4.alloc (.cells ([T].map Value.string).toArray 9))) := HT4.out.below ((Below.refl w4.heap.size w4).alloc (Nat.le_refl _) _)
                have HB5 : Hid (Below w.heap.size w (w4.alloc (.cells ([T].map Value.string).toArray 9))) := HB4.out.alloc HB4.out.size _
                clear HH4 HT4 HB4
                simp only [List.map_cons, List.map_nil] at HS5 HH5 HT5 HB5
                generalize w4.alloc (.cells #[Value.string T] 9) = w5 at *
                generalize w4.heap.size = B at *
                clear w4
                refine wpAny_quiet_tail (C := fun w' => ∃ p : Regrown, w' = Sort.grow (redrawn w5 p.d) p.os) 4 23 (by rfl) (by kernel_rfl) ⟨⟨w5.drawn, #[]⟩, by rw [Sort.grow_empty]; rfl⟩ ?_
                simp only [List.take_succ_cons, List.take_zero, List.drop_succ_cons, List.drop_zero]
                go_simp
                go_big_quiet_step ((go_at_call 8; exact Calls.regrown_of (Of_at _ 1 1 [T] X HX1 (by decide) (by rw [cats1, HSx.out, HLN.out]; omega) _ (HS5.out.below (below_regrown w5 _ _)) (HT5.out.below (below_regrown w5 _ _)))))
                iterate 3 (go_big_quiet_step (fail))
                go_big_quiet_step ((go_at_call 12; exact Calls.regrown_of (Sum_at g _ X HX (by rw [HLN.out]; omega) _ (HH5.out.below (below_regrown w5 _ _) HH5.out.lt) (HT5.out.below (below_regrown w5 _ _)))))
                iterate 3 (go_big_quiet_step (fail))
                go_big_quiet_step (fail)
                go_big_quiet_step ((go_at_call 8; exact Calls.regrown_of (Of_at _ (i + 1) cap (ss.take (i + 1)) X HX (by have := HQ.out; omega) (by rw [HLN.out]; omega) _ ((HR.out.below HB5.out).below (below_regrown w5 _ _)) (HT5.out.below (below_regrown w5 _ _)))))
                iterate 4 (go_big_quiet_step (fail))
                go_big_quiet_step ((go_at_call 13; exact Calls.regrown_of ((Len_at g _ T.size HLN _ (HH5.out.below (below_regrown w5 _ _) HH5.out.lt)).mono fun e w' h => ⟨h.1, by rw [← h.2]; exact Below.refl _ _⟩)))
                iterate 4 (go_big_quiet_step (fail))
                refine wpQuiet_nil ?_
                intro p
                have HH6 : Hid (Hash (Sort.grow (redrawn w5 p.d) p.os) g _) := HH5.out.below (below_regrown w5 p.d p.os) HH5.out.lt
                have HB6 : Hid (Below w.heap.size w (Sort.grow (redrawn w5 p.d) p.os)) := HB5.out.trans ((below_regrown w5 p.d p.os).mono HB5.out.size)
                clear HH5 HB5 HT5 HS5
                generalize Sort.grow (redrawn w5 p.d) p.os = w6 at *
                clear w5
                go_wp2_with fail
                go_roundw
                case rel => exact ⟨i + 1, T, by omega, rfl, by go_num, HSx, hTz, HH6, HB6⟩
                case measure => simp [intOf]; omega
              · go_simp
                refine hK _ _ ?_
                clear hK K
                have HS4 := Strs.built w3 [T] 1 rfl
                have HH4 : Hid (Hash (w3.alloc (.cells ([T].map Value.string).toArray 9)) g _) := HH3.out.below ((Below.refl w3.heap.size w3).alloc (Nat.le_refl _) _) HH3.out.lt
                have HT4 : Hid (Tab (w3.alloc (.cells ([T].map Value.string).toArray 9))) := HT3.out.below ((Below.refl w3.heap.size w3).alloc (Nat.le_refl _) _)
                have HB4 : Hid (Below w.heap.size w (w3.alloc (.cells ([T].map Value.string).toArray 9))) := HB3.out.alloc HB3.out.size _
                clear HH3 HT3 HB3
                simp only [List.map_cons, List.map_nil] at HS4 HH4 HT4 HB4
                generalize w3.alloc (.cells #[Value.string T] 9) = w4 at *
                generalize w3.heap.size = B at *
                clear w3
                refine wpAny_ready (rs := [1]) (by kernel_rfl) (by simp) ?_
                refine AllReady.cons rfl (fun K hK => ?_) AllReady.nil
                go_simp
                refine (Sum_at g _ X HX (by rw [HLN.out]; omega) _ HH4 HT4).mono ?_
                rintro e w5 ⟨rfl, hb⟩
                have HH5 : Hid (Hash w5 g _) := HH4.out.below hb HH4.out.lt
                have HT5 : Hid (Tab w5) := HT4.out.below hb
                have HB5 : Hid (Below w.heap.size w w5) := HB4.out.trans (hb.mono HB4.out.size)
                have HS5 : Hid (Strs w5 (some ⟨B, 0, none⟩) 1 [T]) := HS4.out.below hb
                clear hb HH4 HT4 HB4 HS4
                refine hK _ _ ?_
                clear hK K
                refine wpAny_quiet_tail (C := fun w' => ∃ p : Regrown, w' = Sort.grow (redrawn w5 p.d) p.os) 4 23 (by rfl) (by kernel_rfl) ⟨⟨w5.drawn, #[]⟩, by rw [Sort.grow_empty]; rfl⟩ ?_
                simp only [List.take_succ_cons, List.take_zero, List.drop_succ_cons, List.drop_zero]
                go_simp
                go_big_quiet_step ((go_at_call 8; exact Calls.regrown_of (Of_at _ 1 1 [T] X HX1 (by decide) (by rw [cats1, HSx.out, HLN.out]; omega) _ (HS5.out.below (below_regrown w5 _ _)) (HT5.out.below (below_regrown w5 _ _)))))
                iterate 3 (go_big_quiet_step (fail))
                go_big_quiet_step ((go_at_call 12; exact Calls.regrown_of (Sum_at g _ X HX (by rw [HLN.out]; omega) _ (HH5.out.below (below_regrown w5 _ _) HH5.out.lt) (HT5.out.below (below_regrown w5 _ _)))))
                iterate 3 (go_big_quiet_step (fail))
                go_big_quiet_step (fail)
                go_big_quiet_step ((go_at_call 8; exact Calls.regrown_of (Of_at _ (i + 1) cap (ss.take (i + 1)) X HX (by have := HQ.out; omega) (by rw [HLN.out]; omega) _ ((HR.out.below HB5.out).below (below_regrown w5 _ _)) (HT5.out.below (below_regrown w5 _ _)))))
                iterate 4 (go_big_quiet_step (fail))
                go_big_quiet_step ((go_at_call 13; exact Calls.regrown_of ((Len_at g _ T.size HLN _ (HH5.out.below (below_regrown w5 _ _) HH5.out.lt)).mono fun e w' h => ⟨h.1, by rw [← h.2]; exact Below.refl _ _⟩)))
                iterate 4 (go_big_quiet_step (fail))
                refine wpQuiet_nil ?_
                intro p
                have HH6 : Hid (Hash (Sort.grow (redrawn w5 p.d) p.os) g _) := HH5.out.below (below_regrown w5 p.d p.os) HH5.out.lt
                have HB6 : Hid (Below w.heap.size w (Sort.grow (redrawn w5 p.d) p.os)) := HB5.out.trans ((below_regrown w5 p.d p.os).mono HB5.out.size)
                clear HH5 HB5 HT5 HS5
                generalize Sort.grow (redrawn w5 p.d) p.os = w6 at *
                clear w5
                go_wp2_with fail
                go_roundw
                case rel => exact ⟨i + 1, T, by omega, rfl, by go_num, HSx, hTz, HH6, HB6⟩
                case measure => simp [intOf]; omega
            · have HT7 : Hid (Tab wr) := HT0.out.below HB.out
              clear HH HS hsz
              go_wp2_with fail
              refine (Add_nil ⟨#[120]⟩ _).mono ?_
              rintro e _ ⟨rfl, rfl⟩
              go_wp2_with fail
              refine (Sum_nil _).mono ?_
              rintro e _ ⟨rfl, rfl⟩
              go_wp2_with fail
              refine (Len_nil _).mono ?_
              rintro e _ ⟨rfl, rfl⟩
              go_wp2_with fail
              refine (works_any _ HT7).mono ?_
              rintro e w8 ⟨rfl, hb⟩
              have HB8 := Lib.hid (HB.out.trans (hb.mono HB.out.size))
              clear hb HB HT7
              go_wp2_with fail
              go_ret
              exact ⟨rfl, HB8.out⟩
end Go.Proofs.YteajhimmhlccdaaDoor.shaPieces
