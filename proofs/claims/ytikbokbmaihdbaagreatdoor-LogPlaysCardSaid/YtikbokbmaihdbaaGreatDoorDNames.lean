/-
  Layer 7: Names.
-/
import Derived.Test.YtikbokbmaihdbaaGreatDoorDOpsA
import Derived.Test.YtikbokbmaihdbaaGreatDoorIter
namespace Go.Proofs.YtikbokbmaihdbaaGreatDoor
open Go.RowKit Go.Maps Go.Lib Go.ChangeShapes Go.WideShapes

theorem enc_bytes (n : ByteArray) : encStr n.data.toList = .string n := by simp [encStr]
theorem keys_dOf (kv : KV) : strKeys (dOf kv) = (names kv).map (·.data.toList) := by
  simp only [dOf, strKeys, names, List.map_map]
  rfl
theorem rising_sorted {ns : List ByteArray} (h : ns.Pairwise bl) {ss : List (List UInt8)} (hp : ss.Perm (ns.map (·.data.toList))) : ss.mergeSort (fun x y => decide (x ≤ y)) = ns.map (·.data.toList) := by
  have tr : ∀ a b c : List UInt8, decide (a ≤ b) = true → decide (b ≤ c) = true → decide (a ≤ c) = true := fun a b c h1 h2 => by simp only [decide_eq_true_eq] at *; exact List.le_trans h1 h2
  have to : ∀ a b : List UInt8, (decide (a ≤ b) || decide (b ≤ a)) = true := fun a b => by simp only [Bool.or_eq_true, decide_eq_true_eq]; exact List.le_total a b
  refine List.Perm.eq_of_pairwise (le := fun a b => decide (a ≤ b) = true) (fun a b _ _ h1 h2 => ?_) (List.pairwise_mergeSort tr to ss) ?_ ((List.mergeSort_perm ss _).trans hp)
  · simp only [decide_eq_true_eq] at h1 h2
    exact List.le_antisymm h1 h2
  · rw [List.pairwise_map]
    refine h.imp (fun {a b} hab => ?_)
    simp only [decide_eq_true_eq]
    exact List.le_of_lt hab
theorem owns_listed {w : World} {base n : Nat} {e : TypeId} {v : Value} {ns : List ByteArray} (h : w.ownsRow base e 1 v n (ns.map Value.string)) (hn : ns.length = n) : ∃ A cap, v = .slice A n cap ∧ Strs w A n ns ∧ ∀ ad, A = some ad → base ≤ ad.block := by
  have h' := h
  rcases h.2 with ⟨rfl, h0⟩ | ⟨g, cap, cur, rfl, hb, hg, _⟩
  · subst h0
    exact ⟨none, 0, rfl, ⟨hn, fun i hi => by omega⟩, fun ad had => by cases had⟩
  · refine ⟨_, cap, rfl, ⟨hn, fun i hi => ⟨g, 0, rfl, (Array.getElem?_eq_some_iff.1 hg).1, ?_⟩⟩, fun ad had => by cases had; exact hb⟩
    have := h'.cells (g := g) rfl i (.string ns[i]) (by simp [hi])
    rw [add_plain] at this
    exact this

theorem names_any {w : World} {g room b : Nat} {z : Option Nat} {P : ByteArray → Nat} {V : ByteArray → Value} {fs : List (ByteArray × Fil)} (h : DHead w g room b z) (hl : Lay w b P V fs) (hfew : fs.length ≤ 16) :
    Calls Tryz.prog 47 #[ptr g] w (Listed w (names fs)) := by
  have c2 := h.c2
  have hsize : Maps.size (dOf (kvOf P fs)) = fs.length := by simp [dOf, Maps.size, len_kvOf]
  have KK := callsIn_wide.1 (Tryz.maps_Keys_74 (some b) w)
  have KS := callsIn_wide.1 (Tryz.slices_Sorted_keys_73_74 b (kvOf P fs).length (dOf (kvOf P fs)) rv w hl.map.owns (by rw [hsize]; unfold maxLen; omega) (by rw [hsize]; omega))
  have hsrt := srt_names.1 hl.srt
  rw [keys_dOf, names_kvOf] at KS
  clear hsize
  go_enter Tryz.func47, Tryz.ntmps47
  go_wp2_with (first
    | (go_at_call 51; refine (unmade_at h).mono ?_; rintro e w' ⟨rfl, rfl⟩)
    | (go_at_call 74; refine KK.mono ?_; rintro e w' ⟨rfl, rfl⟩)
    | (go_at_call 73; refine KS.mono ?_; rintro e w2 ⟨v, ss, rfl, hS, hrow, _, hb⟩; have HS := Lib.hid hS; have HR := Lib.hid hrow; have HB := Lib.hid hb; clear hS hrow hb))
  go_ret
  have hs := rising_sorted hsrt HS.out
  have hr := HR.out
  rw [hs, List.map_map] at hr
  have he : (encStr ∘ fun x : ByteArray => x.data.toList) = Value.string := by funext x; exact enc_bytes x
  rw [he] at hr
  have hl2 : ss.length = (names fs).length := by rw [HS.out.length_eq, List.length_map]
  obtain ⟨A, cap, rfl, hst, hbl⟩ := owns_listed hr hl2.symm
  rw [hl2] at hst ⊢
  refine ⟨A, cap, rfl, hst, ((Below.refl _ w).alloc (Nat.le_refl _) _).trans (HB.out.mono (by simp)), fun ad had => ?_⟩
  have := hbl ad had
  simp at this
  omega
theorem names_nil (w : World) : Calls Tryz.prog 47 #[.pointer none] w (Listed w []) := by
  go_enter Tryz.func47, Tryz.ntmps47
  go_wp2_with (go_at_call 51; refine (unmade_nil _).mono ?_; rintro e w' ⟨rfl, rfl⟩)
  go_ret
  exact ⟨none, 0, rfl, ⟨rfl, fun i hi => by cases hi⟩, Below.refl _ _, fun ad had => by cases had⟩

end Go.Proofs.YtikbokbmaihdbaaGreatDoor
