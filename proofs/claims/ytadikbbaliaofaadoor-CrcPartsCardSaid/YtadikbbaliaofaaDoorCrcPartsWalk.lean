/-
  The walk of the law CrcParts.
-/
import Derived.Test.YtadikbbaliaofaaDoorCWalkA
import Derived.OpenShut
namespace Go.Proofs.YtadikbbaliaofaaDoor.crcParts
open Go.RowKit

set_option maxHeartbeats 1000000 in
theorem walk (a b : ByteArray) (ha1 : a.size ≤ 140737488351232) (hb1 : b.size ≤ 140737488351232) (w : World) (hT0 : Tab w) :
    Calls Tryd.prog 4 #[.string a, .string b] w fun e w' => e = .returned (.bool true) ∧ Below w.heap.size w w' := by
  have hT := Lib.hid hT0
  clear hT0
  have ha : a.size ≤ maxLen := by unfold maxLen; omega
  have hb : b.size ≤ maxLen := by unfold maxLen; omega
  by_cases h : 8192 < a.size + b.size
  · go_enter Tryd.func4, Tryd.ntmps4
    go_wp2_with (go_at_call 7; refine (works_any _ hT).mono ?_; rintro e w' ⟨rfl, rfl⟩)
    go_ret
    exact ⟨rfl, Below.refl _ _⟩
  · obtain ⟨n, hn⟩ : ∃ n, n = ofN a.data.toList := ⟨_, rfl⟩
    obtain ⟨m, hm⟩ : ∃ m, m = ofN (a ++ b).data.toList := ⟨_, rfl⟩
    have Hn : Hid (ofN a.data.toList = n) := hn.symm
    have Hm : Hid (ofN (a ++ b).data.toList = m) := hm.symm
    have hl : n < 4294967296 := by rw [hn]; exact ofN_lt _
    have Ho : Hid (onN n b.data.toList = m) := by
      show _ = _
      rw [hn, hm, on_of, ByteArray.data_append, Array.toList_append]
    clear hn hm
    have hz : (a ++ b).size ≤ maxLen := by rw [ByteArray.size_append]; unfold maxLen; omega
    have K := Lib.hid (fun W hT => Of_at (a ++ b) hz W hT m Hm)
    go_enter Tryd.func4, Tryd.ntmps4
    go_wp2_with (first
      | (go_at_call 8; refine (Of_at a ha _ hT n Hn).mono ?_; rintro e w' ⟨rfl, rfl⟩)
      | (go_at_call 8; refine (K.out _ hT).mono ?_; rintro e w' ⟨rfl, rfl⟩)
      | (go_at_call 10; refine (On_at n hl b hb _ hT m Ho).mono ?_; rintro e w' ⟨rfl, rfl⟩)
      | (go_at_call 7; refine (works_any _ hT).mono ?_; rintro e w' ⟨rfl, rfl⟩))
    go_ret
    exact ⟨rfl, Below.refl _ _⟩

end Go.Proofs.YtadikbbaliaofaaDoor.crcParts
