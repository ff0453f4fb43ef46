/-
  Layer 8: the laws' 'works', over any disk and any log ('DoorB', 'LDoor').
-/
import Derived.Test.YtikbokbmaihdbaaDoorLDoor
import Derived.Test.YtikbokbmaihdbaaDoorLFacts
import Derived.WalkKit
import Derived.BigCall
import Derived.Lib.Hide
import Derived.IntWalk
namespace Go.Proofs.YtikbokbmaihdbaaDoor
open Go.RowKit Go.ChangeShapes Go.WideShapes

abbrev rA : ByteArray := ⟨#[97]⟩
abbrev rB : ByteArray := ⟨#[98]⟩
abbrev rC : ByteArray := ⟨#[99]⟩
def two : ByteArray := str (frs [rA, rB])
def one : ByteArray := str (frs [rC])
theorem two_len : (frs [rA, rB]).length = 18 := by simp [frs, fr_len]
theorem one_len : (frs [rC]).length = 9 := by simp [frs, fr_len]
theorem two_size : two.size = 18 := by rw [two, str_size, two_len]
theorem short_two : ∀ r ∈ [rA, rB], r.size ≤ 1048576 := by
  intro r hr
  simp only [List.mem_cons, List.not_mem_nil, or_false] at hr
  rcases hr with rfl | rfl <;> decide
theorem short_one : ∀ r ∈ [rC], r.size ≤ 1048576 := by
  intro r hr
  simp only [List.mem_cons, List.not_mem_nil, or_false] at hr
  subst hr
  decide
theorem lw1 : lopen ⟨1000, none, []⟩ rA = (⟨1000, none, [(rA, ⟨⟨#[]⟩, 0, false⟩)]⟩, 0, []) := lopen_new List.Pairwise.nil rfl rfl rfl (by decide)
theorem lw2 : lappend ⟨1000, none, [(rA, ⟨⟨#[]⟩, 0, false⟩)]⟩ rA ⟨[], 0, false⟩ [rA, rB] = (⟨1000, none, [(rA, ⟨two, 18, false⟩)]⟩, ⟨[rA, rB], 0, false⟩, 0) := by
  rw [lappend_fits (f := ⟨⟨#[]⟩, 0, false⟩) rfl rfl rfl short_two (by simp) (by rw [two_len]; decide), two_len]
  rfl
theorem lw3 : lsync ⟨1000, none, [(rA, ⟨two, 18, false⟩)]⟩ rA ⟨[rA, rB], 0, false⟩ = (⟨1000, none, [(rA, ⟨two, 0, false⟩)]⟩, ⟨[rA, rB], 2, false⟩, 0) := by
  rw [lsync_fine (f := ⟨two, 18, false⟩) rfl rfl rfl]
  rfl
theorem lw4 : lappend ⟨1000, none, [(rA, ⟨two, 0, false⟩)]⟩ rA ⟨[rA, rB], 2, false⟩ [rC] = (⟨1000, none, [(rA, ⟨two ++ one, 9, false⟩)]⟩, ⟨[rA, rB, rC], 2, false⟩, 0) := by
  rw [lappend_fits (f := ⟨two, 0, false⟩) rfl rfl rfl short_one (by simp) (by rw [one_len]; show used [(rA, (⟨two, 0, false⟩ : Fil))] + 9 ≤ 1000; simp [used, two_size]), one_len]
  rfl
theorem lw5 : crash ⟨1000, none, [(rA, ⟨two ++ one, 9, false⟩)]⟩ [] = (⟨1000, none, [(rA, ⟨two, 0, false⟩)]⟩, 0) := by
  have hs : (two ++ one).size = 27 := by rw [ByteArray.size_append, two_size, one, str_size, one_len]
  have e : (two ++ one).extract 0 18 = two := by
    rw [← two_size]
    apply ByteArray.ext
    simp
  unfold crash crs kept
  rw [if_neg (by simp), if_neg (by simp), hs]
  have e2 : 27 - 9 + min (([] : List Int).headD (-1)).toNat 9 = 18 := by decide
  rw [e2, e]
  rfl
theorem lw6 : lopen ⟨1000, none, [(rA, ⟨two, 0, false⟩)]⟩ rA = (⟨1000, none, [(rA, ⟨two, 0, false⟩)]⟩, 0, [rA, rB]) := by
  rw [lopen_old (f := ⟨two, 0, false⟩) (ts := [rA, rB]) (er := 0) rfl rfl (by rw [two_size, two, scan_frs _ short_two, two_len])]
  rfl
theorem lw7 : llen ⟨[rA, rB, rC], 2, false⟩ = 27 := by simp [llen, frs, fr_len]

theorem one_row (w : World) (s : ByteArray) (t : TypeId) : Strs (w.alloc (.cells #[.string s] t)) (some ⟨w.heap.size, 0, none⟩) 1 [s] := by
  refine ⟨rfl, fun i hi => ⟨w.heap.size, 0, rfl, by simp, ?_⟩⟩
  obtain rfl : i = 0 := by simpa using hi
  rw [cell_of_row _ _ _ _ _ _ (heap_alloc_new w _)]
  rfl
theorem two_row (w : World) (s u : ByteArray) (t : TypeId) : Strs (w.alloc (.cells #[.string s, .string u] t)) (some ⟨w.heap.size, 0, none⟩) 2 [s, u] := by
  refine ⟨rfl, fun i hi => ⟨w.heap.size, 0, rfl, by simp, ?_⟩⟩
  have hi' : i < 2 := hi
  rw [cell_of_row _ _ _ _ _ _ (heap_alloc_new w _)]
  match i, hi' with
  | 0, _ => rfl
  | 1, _ => rfl

set_option maxRecDepth 100000 in
set_option maxHeartbeats 2000000 in
theorem lworks_any {D : Disks} {L : Logs} (hD : DoorB D) (hL : LDoor D L) (w : World) (hT : Hid (Tab w)) : Calls Tryd.prog 8 #[] w fun e w' => e = .returned (.bool true) ∧ Below w.heap.size w w' := by
  have HD := Lib.hid hD
  have HL := Lib.hid hL
  clear hD hL
  go_enter Tryd.func8, Tryd.ntmps8
  go_wp2_with fail
  refine (new_at HD.out (Below.refl _ _) 1000 (by decide)).mono ?_
  rintro e w1 ⟨g, rfl, hm, _⟩
  have M1 := Lib.hid hm
  clear hm
  go_wp2_with fail
  have K := lopen_at HL.out rA M1.out.lone (by decide) (by decide) hT
  rw [lw1] at K
  refine K.mono ?_
  rintro e w2 ⟨⟨_, x, A, c, rfl, hb, _⟩ | ⟨h0, _⟩, _⟩
  case inr => exact absurd rfl h0
  have B2 : Hid (Both D L w w2 g _ x rA ⟨[], 0, false⟩ noF) := hb
  clear hb M1 K
  go_wp2_with fail
  have K := lappend_at HD.out HL.out B2.out (by decide) hT ((Below.refl _ _).alloc (Nat.le_refl _) (.cells #[.string rA, .string rB] 9)) _ 2 [rA, rB] (two_row w2 rA rB 9) (by decide) (by decide) (fun ad had => by cases had; exact Or.inr (Nat.le_refl _)) (by rw [two_len]; decide) (Nat.zero_le _)
  simp only [List.length_cons, List.length_nil, Nat.zero_add, Nat.reduceAdd] at K
  rw [lw2] at K
  refine K.mono ?_
  rintro e w3 ⟨rfl, hb, _⟩
  have B3 := Lib.hid hb
  clear hb B2 K
  go_wp2_with fail
  have K := lsync_at HL.out B3.out
  rw [lw3] at K
  refine K.mono ?_
  rintro e w4 ⟨rfl, hb, _⟩
  have B4 := Lib.hid hb
  clear hb B3 K
  go_wp2_with fail
  have K := lappend_at HD.out HL.out B4.out (by decide) hT ((Below.refl _ _).alloc (Nat.le_refl _) (.cells #[.string rC] 9)) _ 1 [rC] (one_row w4 rC 9) (by decide) (by decide) (fun ad had => by cases had; exact Or.inr (Nat.le_refl _)) (by rw [one_len]; decide) (show (frs [rA, rB]).length ≤ _ by rw [two_len]; decide)
  simp only [List.length_cons, List.length_nil, Nat.zero_add] at K
  rw [lw4] at K
  refine K.mono ?_
  rintro e w5 ⟨rfl, hb, _⟩
  have B5 := Lib.hid hb
  clear hb B4 K
  go_wp2_with fail
  refine (lcount_at HL.out B5.out).mono ?_
  rintro e w6 ⟨rfl, hb⟩
  have B6 := Lib.hid (B5.out.below HD.out HL.out hb)
  clear hb B5
  go_wp2_with fail
  refine (lsure_at HL.out B6.out).mono ?_
  rintro e w7 ⟨rfl, hb⟩
  have B7 := Lib.hid (B6.out.below HD.out HL.out hb)
  clear hb B6
  go_wp2_with fail
  have K := B7.out.turned HL.out (f := 16) (args := #[ptr g, .slice none 0 0]) (fun O hd _ => HD.out.crash none 0 0 [] hd ⟨rfl, Nat.le_refl _, Nat.zero_le _, fun _ => ⟨rfl, rfl⟩, fun t ht => by omega, fun n hn => by cases hn⟩ (fun a ha => by cases ha) (by decide))
  rw [lw5] at K
  refine K.mono ?_
  rintro e w8 ⟨rfl, hb, _⟩
  have B8 := Lib.hid hb
  clear hb B7 K
  go_wp2_with fail
  have K := lopen_both HL.out rA B8.out (by decide) (by decide) hT
  rw [lw6] at K
  refine K.mono ?_
  rintro e w9 ⟨hb, ⟨_, x2, A2, c2, rfl, _, hst, _⟩ | ⟨h0, _⟩, _⟩
  case inr => exact absurd rfl h0
  have B9 := Lib.hid hb
  obtain ⟨q1, o1, hA1, _, hc1⟩ := hst.cell 0 (by decide)
  subst hA1
  obtain ⟨q2, o2, hA2, _, hc2⟩ := hst.cell 1 (by decide)
  cases hA2
  have hc1' : w9.cell? ⟨q1, o1, none⟩ = some (.string rA) := hc1
  have hc2' : w9.cell? ⟨q1, o1 + 1, none⟩ = some (.string rB) := hc2
  clear hb B8 K hst hc1 hc2
  go_wp2_with fail
  have K := llen_at HL.out B9.out
  rw [lw7] at K
  refine K.mono ?_
  rintro e w10 ⟨rfl, hb⟩
  have B10 := Lib.hid (B9.out.below HD.out HL.out hb)
  clear hb B9 K
  go_wp2_with fail
  go_ret
  exact ⟨rfl, B10.out.bel⟩

end Go.Proofs.YtikbokbmaihdbaaDoor
