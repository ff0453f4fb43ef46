/-
  ShaOfs, the walk.
-/
import Derived.Test.YteajhimmhlccdaaDoorSOne
import Derived.Test.YteajhimmhlccdaaDoorStrArgs
import Derived.Laws.AppendOwnNone
namespace Go.Proofs.YteajhimmhlccdaaDoor.shaOfs
open Go.RowKit Go.ChangeShapes Go.WideShapes

theorem info9 : (Tryd.prog.info? 9).map (fun i => (i.zero, i.size, i.bytes)) = some (some (.string ByteArray.empty), 1, 16) := by kernel_rfl

/-- 'append([]string(nil), l...)'. -/
theorem wpList_copy_strs {ops : Array Oper} {rest : List Oper} {o : Oper} {a : Act} {w : World} {Q : Exit → Act → World → Prop} (hgd : o.guard = none) (s x : Operand)
    (ho : o.op = .call { callee := .builtin .append, args := #[s, x], argTypes := #[22, 22] }) (hs : a.eval s = .slice none 0 0) (A : Option Addr) (len cap : Nat) (ss : List ByteArray) (hx : a.eval x = .slice A len cap) (hv : StrsView w A len cap ss)
    (h : ∀ A' cap' w', Hid (Strs w' A' len ss) → Hid (Below w.heap.size w w') → wpList Tryd.prog ops Q rest (a.put o.dst (.slice A' len cap')) w') : wpList Tryd.prog ops Q (o :: rest) a w := by
  obtain ⟨i, hi, hz, hs1, hb⟩ : ∃ i, Tryd.prog.info? 9 = some i ∧ i.zero = some (.string ByteArray.empty) ∧ i.size = 1 ∧ i.bytes = 16 := by
    have h := info9
    cases hq : Tryd.prog.info? 9 with
    | none => rw [hq] at h; cases h
    | some i => rw [hq] at h; simp at h; exact ⟨i, rfl, h.1, h.2.1, h.2.2⟩
  have hfew := hv.few
  have hlen := hv.row.len
  cases A with
  | none =>
    obtain ⟨rfl, rfl⟩ := hv.none rfl
    exact wpList_append_own_none hgd s x 22 ho 0 9 i 1 Tryd.underlying22 hi (.slice none 0 0) 0 [] hs ⟨rfl, .inl ⟨rfl, rfl⟩⟩ hx (h none 0 w hv.row (Below.refl _ _))
  | some ad =>
    refine wpList_append_own w hgd s x 22 ho 0 9 i (.string ByteArray.empty) 1 16 Tryd.underlying22 hi hz hs1 hb rfl (by decide) (.slice none 0 0) 0 [] hs ⟨rfl, .inl ⟨rfl, rfl⟩⟩ ad len cap (ss.map .string) hx (by simp [hlen]) ?_ ?_ (by unfold maxLen; omega) (by omega) (Nat.zero_le _) ?_
    · intro j u hj
      obtain ⟨y, hy, rfl⟩ := List.mem_map.1 (List.mem_of_getElem? hj)
      have hjl : j < ss.length := by have := (List.getElem?_eq_some_iff.1 hj).1; simpa using this
      obtain ⟨b, off, e, _, hc⟩ := hv.row.cell j hjl
      injection e with e
      subst e
      rw [add_plain, hc]
      simp [List.getElem?_eq_getElem hjl] at hj
      rw [hj]
    · intro u hu
      obtain ⟨y, _, rfl⟩ := List.mem_map.1 hu
      rfl
    · intro v' w' hown hg _
      obtain ⟨A', cap', rfl, hf⟩ := owns_slice hown
      rw [Nat.zero_add]
      refine h A' cap' w' ⟨hlen, fun k hk => ?_⟩ ((Below.refl _ w).grown hg (Nat.le_refl _) (fun k hk => by cases hk))
      obtain ⟨g, rfl, _, hgl, _, _, hc⟩ := hf (by omega)
      refine ⟨g, 0, rfl, hgl, ?_⟩
      rw [Nat.zero_add, (hc k (by omega)).1]
      simp [List.getElem?_eq_getElem hk]

set_option maxRecDepth 100000 in
set_option maxHeartbeats 1000000 in
theorem walk (A : Option Addr) (len cap : Nat) (ss : List ByteArray) (w : World) (hv : StrsView w A len cap ss) (hT : Tab w) :
    Calls Tryd.prog 3 #[.slice A len cap] w fun e w' => e = .returned (.bool true) ∧ Below w.heap.size w w' := by
  have HT0 := Lib.hid hT
  have HV := Lib.hid hv
  have hfew := hv.few
  clear hT hv
  go_enter Tryd.func3, Tryd.ntmps3
  go_wp2_with fail
  go_loopw [3, 4] (fun sv iv wr => ∃ (i : Nat) (s : ByteArray), i ≤ len ∧ sv = .string s ∧ iv = .int .i64 i ∧ Hid (s.data.toList = cats (ss.take i)) ∧ s.size ≤ 140737488353280 ∧ wr = w) (fun _ iv _ => len - (intOf iv).toNat)
  case atStart => exact ⟨0, _, Nat.zero_le _, rfl, rfl, rfl, by decide, rfl⟩
  case round =>
    obtain ⟨i, s, hi', rfl, rfl, HS, hsz, rfl⟩ := hrel
    have HL := Lib.hid HV.out.row.len
    by_cases hlt : i < len
    · have hil : i < ss.length := by rw [HL.out]; exact hlt
      by_cases hbig : s.size ≤ 2048
      · obtain ⟨b, off, rfl, hbl, hc⟩ := HV.out.row.cell i hil
        have hxs := HV.out.short ss[i] (List.getElem_mem _)
        obtain ⟨x, hx⟩ : ∃ x, ss[i] = x := ⟨_, rfl⟩
        rw [hx] at hc hxs
        have HE : Hid ((s ++ x).data.toList = cats (ss.take (i + 1))) := by show _ = _; rw [cats_snoc ss i hil, hx, ← HS.out, ByteArray.data_append, Array.toList_append]
        have HZ : Hid ((s ++ x).size ≤ 140737488353280) := by show _ ≤ _; rw [ByteArray.size_append]; omega
        clear hx
        go_wp2_with fail
        go_roundw
        case rel => exact ⟨i + 1, _, by omega, rfl, by go_num, HE, HZ.out, trivial⟩
        case measure => simp [intOf]; omega
      · have hbig' : 2048 < s.size := by omega
        clear hbig
        go_wp2_with fail
        refine (works_any _ HT0).mono ?_
        rintro e w5 ⟨rfl, hb⟩
        have HB5 := Lib.hid hb
        clear hb
        go_wp2_with fail
        go_ret
        exact ⟨rfl, HB5.out⟩
    · by_cases hbig : 2048 < s.size
      · go_wp2_with fail
        refine (works_any _ HT0).mono ?_
        rintro e w5 ⟨rfl, hb⟩
        have HB5 := Lib.hid hb
        clear hb
        go_wp2_with fail
        go_ret
        exact ⟨rfl, HB5.out⟩
      · by_cases hlong : 200 < len
        · go_wp2_with fail
          refine (works_any _ HT0).mono ?_
          rintro e w5 ⟨rfl, hb⟩
          have HB5 := Lib.hid hb
          clear hb
          go_wp2_with fail
          go_ret
          exact ⟨rfl, HB5.out⟩
        · go_wp2_with (refine wpList_copy_strs (by rfl) (.const (.slice none 0 0)) (.tmp 31) (by rfl) (by rfl) A len cap ss (by rfl) HV.out ?_; intro A' cap' w1 HS1 HB1)
          have hcs : cats ss = s.data.toList := by
            rw [HS.out, List.take_of_length_le (by rw [HL.out]; omega)]
          obtain ⟨X, hX⟩ : ∃ X, dg s.data.toList = X := ⟨_, rfl⟩
          have HX := Lib.hid hX
          have HX' : Hid (dg (cats ss) = X) := by show _ = _; rw [hcs]; exact hX
          have hlc : (cats ss).length ≤ 274877906944 := by rw [hcs]; simp; omega
          have HLC := Lib.hid hlc
          have HT1 : Hid (Tab w1) := HT0.out.below HB1.out
          clear hX hcs hlc
          refine (Of_at A' len cap' ss X HX' (by omega) HLC.out _ HS1 HT1).mono ?_
          rintro e w2 ⟨rfl, hb⟩
          have HB2 := Lib.hid (HB1.out.trans (hb.mono HB1.out.size))
          have HT2 : Hid (Tab w2) := HT1.out.below hb
          clear hb HB1 HT1
          go_wp2_with fail
          refine (Of_ref_at s X HX (by omega) _).mono ?_
          rintro e w3 ⟨rfl, hb⟩
          have HB3 := Lib.hid (HB2.out.trans (hb.mono HB2.out.size))
          have HT3 : Hid (Tab w3) := HT2.out.below hb
          clear hb HB2 HT2
          go_wp2_with fail
          refine (works_any _ HT3).mono ?_
          rintro e w4 ⟨rfl, hb⟩
          have HB4 := Lib.hid (HB3.out.trans (hb.mono HB3.out.size))
          clear hb HB3 HT3
          go_wp2_with fail
          go_ret
          exact ⟨rfl, HB4.out⟩
end Go.Proofs.YteajhimmhlccdaaDoor.shaOfs
