/-
  The walk of the law CrcOfs.
-/
import Derived.Test.YtadikbbaliaofaaDoorCWalkA
import Derived.OpenShut
namespace Go.Proofs.YtadikbbaliaofaaDoor.crcOfs
open Go.RowKit

theorem Of_ref_at (s : ByteArray) (hs : s.size ≤ maxLen) (w : World) (n : Nat) (hn : Hid (ofN s.data.toList = n)) :
    Calls Tryd.prog 9 #[.string s] w fun e w' => e = .returned (.int .u32 (n : Nat)) ∧ w = w' := by
  rw [← hn.out]
  exact Of_ref s hs w
theorem On_ref_at (k : Nat) (hk : k < 4294967296) (s : ByteArray) (hs : s.size ≤ maxLen) (w : World) (n : Nat) (hn : Hid (onN k s.data.toList = n)) :
    Calls Tryd.prog 11 #[.int .u32 k, .string s] w fun e w' => e = .returned (.int .u32 (n : Nat)) ∧ w = w' := by
  rw [← hn.out]
  exact On_ref k hk s hs w

set_option maxHeartbeats 1000000 in
theorem walk_n (a : ByteArray) (k : Nat) (hk : k < 4294967296) (ha : a.size ≤ maxLen) (w : World) (hT : Hid (Tab w)) :
    Calls Tryd.prog 3 #[.string a, .int .u32 k] w fun e w' => e = .returned (.bool true) ∧ Below w.heap.size w w' := by
  have ha1 := ha
  unfold maxLen at ha1
  by_cases h : 4096 < a.size
  · go_enter Tryd.func3, Tryd.ntmps3
    go_wp2_with (go_at_call 7; refine (works_any _ hT).mono ?_; rintro e w' ⟨rfl, rfl⟩)
    go_ret
    exact ⟨rfl, Below.refl _ _⟩
  · obtain ⟨n, hn⟩ : ∃ n, n = ofN a.data.toList := ⟨_, rfl⟩
    obtain ⟨m, hm⟩ : ∃ m, m = onN k a.data.toList := ⟨_, rfl⟩
    have Hn : Hid (ofN a.data.toList = n) := hn.symm
    have Hm : Hid (onN k a.data.toList = m) := hm.symm
    clear hn hm
    go_enter Tryd.func3, Tryd.ntmps3
    go_wp2_with (first
      | (go_at_call 8; refine (Of_at a ha _ hT n Hn).mono ?_; rintro e w' ⟨rfl, rfl⟩)
      | (go_at_call 9; refine (Of_ref_at a ha _ n Hn).mono ?_; rintro e w' ⟨rfl, rfl⟩)
      | (go_at_call 10; refine (On_at k hk a ha _ hT m Hm).mono ?_; rintro e w' ⟨rfl, rfl⟩)
      | (go_at_call 11; refine (On_ref_at k hk a ha _ m Hm).mono ?_; rintro e w' ⟨rfl, rfl⟩)
      | (go_at_call 7; refine (works_any _ hT).mono ?_; rintro e w' ⟨rfl, rfl⟩))
    go_ret
    exact ⟨rfl, Below.refl _ _⟩

theorem walk (a : ByteArray) (k : Int) (ha : a.size ≤ maxLen) (hk : (Lit.int .u32 k).wf = true) (w : World) (hT : Tab w) :
    Calls Tryd.prog 3 #[.string a, .int .u32 k] w fun e w' => e = .returned (.bool true) ∧ Below w.heap.size w w' := by
  have hb := bounds_u32 hk
  obtain ⟨n, rfl⟩ := Int.eq_ofNat_of_zero_le hb.1
  exact walk_n a n (by omega) ha w hT

end Go.Proofs.YtadikbbaliaofaaDoor.crcOfs
