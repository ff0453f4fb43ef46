/-
  Layer 7: works, over any disk ('Door').
-/
import Derived.Test.YtaiifelkbajaoaaDDoes
namespace Go.Proofs.Ytaiifelkbajaoaa
open Go.RowKit Go.ChangeShapes Go.WideShapes

abbrev nA : ByteArray := ⟨#[97]⟩
theorem st1 : create ⟨100, none, []⟩ nA = (⟨100, none, [(nA, ⟨⟨#[]⟩, 0, true⟩)]⟩, 0) := by
  have h : mayB nA = true := by decide +kernel
  simp [create, h, get, ins, burn]
theorem st2 : append ⟨100, none, [(nA, ⟨⟨#[]⟩, 0, true⟩)]⟩ nA ⟨#[120, 121, 122]⟩ = (⟨100, none, [(nA, ⟨⟨#[120, 121, 122]⟩, 3, true⟩)]⟩, 0) := by
  simp only [append, get, upd, used, burn]
  rfl
theorem st3 : sync ⟨100, none, [(nA, ⟨⟨#[120, 121, 122]⟩, 3, true⟩)]⟩ nA = (⟨100, none, [(nA, ⟨⟨#[120, 121, 122]⟩, 0, false⟩)]⟩, 0) := by
  simp [sync, get, upd, burn]
theorem st4 : append ⟨100, none, [(nA, ⟨⟨#[120, 121, 122]⟩, 0, false⟩)]⟩ nA ⟨#[117, 118, 119]⟩ = (⟨100, none, [(nA, ⟨⟨#[120, 121, 122, 117, 118, 119]⟩, 3, false⟩)]⟩, 0) := by
  rfl
theorem st5 : crash ⟨100, none, [(nA, ⟨⟨#[120, 121, 122, 117, 118, 119]⟩, 3, false⟩)]⟩ [2] = (⟨100, none, [(nA, ⟨⟨#[120, 121, 122, 117, 118]⟩, 0, false⟩)]⟩, 0) := by
  rfl

theorem one_view (w : World) (z : Int) (hz : (Lit.int .i64 z).wf = true) (t : TypeId) : SliceView (w.alloc (.cells #[.int .i64 z] t)) .i64 (some ⟨w.heap.size, 0, none⟩) 1 1 [z] := by
  refine ⟨rfl, Nat.le_refl _, by unfold maxLen; omega, (fun h => by cases h), fun k hk => ⟨w.heap.size, 0, rfl, by simp, ?_⟩, fun n hn => by simp at hn; rw [hn]; exact hz⟩
  obtain rfl : k = 0 := by omega
  rw [cell_of_row _ _ _ _ _ _ (heap_alloc_new w _)]
  rfl

set_option maxRecDepth 100000 in
set_option maxHeartbeats 1000000 in
theorem works_any {D : Disks} (hD : Door D) (w : World) : Calls Try.prog 9 #[] w fun e w' => e = .returned (.bool true) ∧ Below w.heap.size w w' := by
  have HD := Lib.hid hD
  clear hD
  go_enter Try.func9, Try.ntmps9
  go_wp2_with fail
  refine (new_at HD.out (Below.refl _ _) 100 (by decide)).mono ?_
  rintro e w1 ⟨g, rfl, hm, _⟩
  have M1 := Lib.hid hm
  clear hm
  go_wp2_with fail
  have K := create_at HD.out M1.out nA (by decide)
  rw [st1] at K
  refine K.mono ?_
  rintro e w2 ⟨rfl, hm⟩
  have M2 := Lib.hid hm
  clear hm M1 K
  go_wp2_with fail
  have K := append_at HD.out M2.out nA ⟨#[120, 121, 122]⟩ (by decide) (by decide)
  rw [st2] at K
  refine K.mono ?_
  rintro e w3 ⟨rfl, hm⟩
  have M3 := Lib.hid hm
  clear hm M2 K
  go_wp2_with fail
  have K := sync_at HD.out M3.out nA (by decide)
  rw [st3] at K
  refine K.mono ?_
  rintro e w4 ⟨rfl, hm⟩
  have M4 := Lib.hid hm
  clear hm M3 K
  go_wp2_with fail
  have K := append_at HD.out M4.out nA ⟨#[117, 118, 119]⟩ (by decide) (by decide)
  rw [st4] at K
  refine K.mono ?_
  rintro e w5 ⟨rfl, hm⟩
  have M5 := Lib.hid hm
  clear hm M4 K
  go_wp2_with fail
  refine (loose_at HD.out M5.out nA (by decide)).mono ?_
  rintro e w6 ⟨rfl, hb⟩
  have M6 := Lib.hid (M5.out.below HD.out hb)
  clear hb M5
  go_wp2_with fail
  have K := crash_at HD.out M6.out ((Below.refl _ _).alloc (Nat.le_refl _) (.cells #[.int .i64 2] 3)) _ 1 1 [2] (one_view w6 2 (by decide) 3) (fun a ha => by cases ha; exact Nat.le_refl _) (by decide)
  rw [st5] at K
  refine K.mono ?_
  rintro e w8 ⟨rfl, hm⟩
  have M8 := Lib.hid hm
  clear hm M6 K
  go_wp2_with fail
  refine (read_at HD.out M8.out nA (by decide)).mono ?_
  rintro e w9 ⟨rfl, hb⟩
  have M9 := Lib.hid (M8.out.below HD.out hb)
  clear hb M8
  have e1 : (looseOf ⟨100, none, [(nA, ⟨⟨#[120, 121, 122, 117, 118, 119]⟩, 3, false⟩)]⟩ nA) = 3 := rfl
  have e2 : (textOf ⟨100, none, [(nA, ⟨⟨#[120, 121, 122, 117, 118]⟩, 0, false⟩)]⟩ nA) = ⟨#[120, 121, 122, 117, 118]⟩ := rfl
  have e3 : (errOf ⟨100, none, [(nA, ⟨⟨#[120, 121, 122, 117, 118]⟩, 0, false⟩)]⟩ nA) = 0 := rfl
  rw [e1, e2, e3]
  clear e1 e2 e3
  go_wp2_with fail
  refine (room_at HD.out M9.out).mono ?_
  rintro e w10 ⟨rfl, hb⟩
  have M10 := Lib.hid (M9.out.below HD.out hb)
  clear hb M9
  have e1 : (100 - used [(nA, (⟨⟨#[120, 121, 122, 117, 118]⟩, 0, false⟩ : Fil))]) = 95 := rfl
  rw [e1]
  clear e1
  go_wp2_with fail
  refine (loose_at HD.out M10.out nA (by decide)).mono ?_
  rintro e w11 ⟨rfl, hb⟩
  have M11 := Lib.hid (M10.out.below HD.out hb)
  clear hb M10
  have e1 : (looseOf ⟨100, none, [(nA, ⟨⟨#[120, 121, 122, 117, 118]⟩, 0, false⟩)]⟩ nA) = 0 := rfl
  rw [e1]
  clear e1
  go_wp2_with fail
  refine (names_at HD.out M11.out).mono ?_
  rintro e w12 ⟨A, c, rfl, _, hb, _⟩
  have M12 := Lib.hid (M11.out.below HD.out hb)
  clear hb M11
  have e1 : (names [(nA, (⟨⟨#[120, 121, 122, 117, 118]⟩, 0, false⟩ : Fil))]).length = 1 := rfl
  rw [e1]
  clear e1
  go_wp2_with fail
  go_ret
  exact ⟨rfl, M12.out.bel⟩

end Go.Proofs.Ytaiifelkbajaoaa
