/-
  The walk of the law TextOrder.
-/
import Derived.Test.YtjlnlidbdngbpaaAlive
import Derived.Test.YtjlnlidbdngbpaaWalkF
import Derived.OpenShut
namespace Go.Proofs.Ytjlnlidbdngbpaa.textOrder
open Go.RowKit

set_option maxHeartbeats 4000000 in
theorem walk (a b : ByteArray) (n : Int) (ha : a.size ≤ maxLen) (hb : b.size ≤ maxLen) (hn : (Lit.int .i64 n).wf = true) (w : World) :
    Calls Try.prog 4 #[.string a, .string b, .int .i64 n] w fun e w' => e = .returned (.bool true) ∧ Below w.heap.size w w' := by
  have hnb := bounds_i64 hn
  clear hn
  unfold maxLen at ha hb
  have HB : Below w.heap.size w w := Below.refl _ _
  by_cases h1 : 4096 < a.size
  · go_enter Try.func4, Try.ntmps4
    go_wp2_with (go_at_call 10; refine (alive_any _).mono ?_; rintro e w' ⟨rfl, hb⟩; replace HB := HB.trans (hb.mono HB.size); clear hb)
    go_ret
    exact ⟨rfl, HB⟩
  by_cases h2 : 4096 < b.size
  · go_enter Try.func4, Try.ntmps4
    go_wp2_with (go_at_call 10; refine (alive_any _).mono ?_; rintro e w' ⟨rfl, hb⟩; replace HB := HB.trans (hb.mono HB.size); clear hb)
    go_ret
    exact ⟨rfl, HB⟩
  have ha2 : a.size ≤ 1048576 := by omega
  have ha3 : a.size ≤ 281474976710656 := by omega
  go_enter Try.func4, Try.ntmps4
  go_wp2_with (first
    | (go_at_call 10; refine (alive_any _).mono ?_; rintro e w' ⟨rfl, hb⟩; replace HB := HB.trans (hb.mono HB.size); clear hb)
    | (go_at_call 17; refine (Compare_any a b _).mono ?_; rintro e w' ⟨rfl, rfl⟩)
    | (go_at_call 18; refine (RefCompare_any a b _ ha2).mono ?_; rintro e w' ⟨rfl, hb⟩; replace HB := HB.trans (hb.mono HB.size); clear hb)
    | (go_at_call 19; refine (Cut_any a n _ ha3 hnb.1 hnb.2).mono ?_; rintro e w' ⟨rfl, hb⟩; replace HB := HB.trans (hb.mono HB.size); clear hb)
    | (go_at_call 20; refine (RefCut_any a n _ ha2 hnb.1 hnb.2).mono ?_; rintro e w' ⟨rfl, hb⟩; replace HB := HB.trans (hb.mono HB.size); clear hb))
  go_ret
  exact ⟨rfl, HB⟩

end Go.Proofs.Ytjlnlidbdngbpaa.textOrder
