/-
  The known case that each statement asks ('alive') answers true.
-/
import Derived.Test.YtjlnlidbdngbpaaWalkC
namespace Go.Proofs.Ytjlnlidbdngbpaa
open Go.RowKit

theorem ba_size_le (l : List UInt8) (h : l.length ≤ 100) : (ByteArray.mk l.toArray).size ≤ 281474976710656 := by
  show l.toArray.size ≤ _
  simp; omega

set_option maxHeartbeats 4000000 in
set_option maxRecDepth 100000 in
theorem alive_any (w : World) : Calls Try.prog 10 #[] w fun e w' => e = .returned (.bool true) ∧ Below w.heap.size w w' := by
  have c1 : cnt [97, 195, 169] = 2 := by decide
  have c2 : cnt [233] = -1 := by decide
  have c3 : kind [35, 110] = 1 := by decide
  have c4 : kind [110] = 0 := by decide
  have c5 : kind [35] = 1 := by decide
  have c6 : str (cut [97, 195, 169, 122] 2) = ⟨#[97, 195, 169]⟩ := by
    have : cut [97, 195, 169, 122] 2 = [97, 195, 169] := by decide
    rw [this]; rfl
  have c7 : cnt [226, 130, 172] = 1 := by decide
  have c8 : cnt [237, 160, 128] = -1 := by decide
  have c9 : Lib.compareBytes [97] [97, 98] = -1 := by decide
  have HB : Below w.heap.size w w := Below.refl _ _
  go_enter Try.func10, Try.ntmps10
  go_wp2_with (first
    | (go_at_call 14; refine (Runes_any _ _ (by decide)).mono ?_; rintro e w' ⟨rfl, hb⟩; replace HB := HB.trans (hb.mono HB.size); clear hb)
    | (go_at_call 15; refine (Key_any _ _ (by decide)).mono ?_; rintro e w' ⟨rfl, hb⟩; replace HB := HB.trans (hb.mono HB.size); clear hb)
    | (go_at_call 16; refine (Kind_any _ _ (by decide)).mono ?_; rintro e w' ⟨rfl, hb⟩; replace HB := HB.trans (hb.mono HB.size); clear hb)
    | (go_at_call 19; refine (Cut_any _ _ _ (by decide) (by decide) (by decide)).mono ?_; rintro e w' ⟨rfl, hb⟩; replace HB := HB.trans (hb.mono HB.size); clear hb)
    | (go_at_call 13; refine (Valid_any _ _ (by decide)).mono ?_; rintro e w' ⟨rfl, hb⟩; replace HB := HB.trans (hb.mono HB.size); clear hb)
    | (go_at_call 17; refine (Compare_any _ _ _).mono ?_; rintro e w' ⟨rfl, rfl⟩))
  go_ret
  exact ⟨rfl, HB⟩

end Go.Proofs.Ytjlnlidbdngbpaa
