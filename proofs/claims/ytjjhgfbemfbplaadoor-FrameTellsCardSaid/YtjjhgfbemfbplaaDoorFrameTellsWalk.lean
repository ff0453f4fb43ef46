/-
  FrameTells, the walk.
-/
import Derived.Test.YtjjhgfbemfbplaaDoorFWorks
import Derived.OpenShut
namespace Go.Proofs.YtjjhgfbemfbplaaDoor.frameTells
open Go.RowKit

set_option maxHeartbeats 4000000 in
set_option maxRecDepth 100000 in
theorem walk_n (t s : ByteArray) (ht : t.size ≤ 4096) (hs : s.size ≤ 4096) (w : World) (hT : Hid (Tab w)) :
    Calls Tryd.prog 3 #[.string t, .string s] w fun e w' => e = .returned (.bool true) ∧ Below w.heap.size w w' := by
  obtain ⟨F, hF⟩ : ∃ F, str (fr t.data.toList) = F := ⟨_, rfl⟩
  have hFs : F.size = 8 + t.size := by rw [← hF, str_size, fr_len, ← size_len]
  obtain ⟨U, hU⟩ : ∃ U, str (cT s.data.toList) = U := ⟨_, rfl⟩
  obtain ⟨V, hV⟩ : ∃ V, str (cR s.data.toList) = V := ⟨_, rfl⟩
  obtain ⟨h, hh⟩ : ∃ h, cE s.data.toList = h := ⟨_, rfl⟩
  obtain ⟨ss, k, e, hsc⟩ : ∃ ss k e, sc s.data.toList = (ss, k, e) := ⟨_, _, _, rfl⟩
  have hcount : ss.length ≤ 1000000 := by
    have h1 := sc_few s.data.toList
    rw [hsc, ← size_len] at h1
    have h1 : ss.length ≤ s.size := h1
    omega
  have KP := Lib.hid (fun W hW => Put_at t F (by omega) W hW hF)
  have KR := Lib.hid (fun W => Put_ref t F (by omega) W hF)
  have KC := Lib.hid (fun W hW => Cut_at s U V h (by omega) W hW hh hU hV)
  have KD := Lib.hid (fun W => Cut_ref s U V h (by omega) W hh hU hV)
  have KS := Lib.hid (fun W hW => Scan_any s (by omega) W hW ss k e hsc)
  have KT := Lib.hid (fun W => Scan_ref s (by omega) W ss k e hsc)
  have KZ := Lib.hid (fun W => Size_any t (by omega) W)
  have hz : (8 + (t.size : Int) == (F.size : Int)) = true := by rw [hFs, beq_iff_eq]; omega
  have hFz : F.size ≤ 5000 := by omega
  clear hF hU hV hh hsc hFs
  go_enter Tryd.func3, Tryd.ntmps3
  go_wp2_with fail
  refine (KP.out _ hT).mono ?_
  rintro r w1 ⟨rfl, hb⟩
  have HB1 := Lib.hid hb
  have HT1 : Hid (Tab w1) := hT.out.below hb
  clear hb
  go_wp2_with fail
  refine (KC.out _ HT1).mono ?_
  rintro r w2 ⟨rfl, hb⟩
  have HB2 := Lib.hid (HB1.out.trans (hb.mono HB1.out.size))
  have HT2 : Hid (Tab w2) := HT1.out.below hb
  clear hb HB1 HT1
  go_wp2_with fail
  refine (KD.out _).mono ?_
  rintro r w3 ⟨rfl, hd⟩
  have HB3 := Lib.hid (HB2.out.trans ((of_drewN hd).mono HB2.out.size))
  have HT3 : Hid (Tab w3) := HT2.out.below (of_drewN hd)
  clear hd HB2 HT2
  go_wp2_with fail
  refine (KS.out _ HT3).mono ?_
  rintro r w4 ⟨A1, cap1, rfl, hst, hb⟩
  have HB4 := Lib.hid (HB3.out.trans (hb.mono HB3.out.size))
  have HT4 : Hid (Tab w4) := HT3.out.below hb
  have HS4 := Lib.hid hst
  clear hb hst HB3 HT3
  go_wp2_with fail
  refine (KT.out _).mono ?_
  rintro r w5 ⟨A2, cap2, rfl, hst, hb⟩
  have HB5 := Lib.hid (HB4.out.trans (hb.mono HB4.out.size))
  have HT5 : Hid (Tab w5) := HT4.out.below hb
  have HS5 := Lib.hid (HS4.out.below hb)
  have HR5 := Lib.hid hst
  clear hb hst HB4 HT4 HS4
  go_wp2_with fail
  refine (KR.out _).mono ?_
  rintro r w6 ⟨rfl, hb⟩
  have HB6 := Lib.hid (HB5.out.trans (hb.mono HB5.out.size))
  have HT6 : Hid (Tab w6) := HT5.out.below hb
  have HS6 := Lib.hid (HS5.out.below hb)
  have HR6 := Lib.hid (HR5.out.below hb)
  clear hb HB5 HT5 HS5 HR5
  go_wp2_with fail
  refine (KZ.out _).mono ?_
  rintro r w7 ⟨rfl, rfl⟩
  go_wp2_with fail
  refine (same_true A1 A2 ss.length cap1 cap2 ss hcount _ HS6 HR6).mono ?_
  rintro r w8 ⟨rfl, hd⟩
  have HB8 := Lib.hid (HB6.out.trans ((of_drewN hd).mono HB6.out.size))
  have HT8 : Hid (Tab w8) := HT6.out.below (of_drewN hd)
  clear hd HB6 HT6 HS6 HR6
  go_wp2_with fail
  refine (works_any _ HT8).mono ?_
  rintro r w9 ⟨rfl, hb⟩
  have HB9 := Lib.hid (HB8.out.trans (hb.mono HB8.out.size))
  clear hb
  go_wp2_with fail
  go_ret
  exact ⟨rfl, HB9.out⟩

theorem walk (t s : ByteArray) (ht : t.size ≤ maxLen) (hs : s.size ≤ maxLen) (w : World) (hT : Tab w) :
    Calls Tryd.prog 3 #[.string t, .string s] w fun e w' => e = .returned (.bool true) ∧ Below w.heap.size w w' := by
  unfold maxLen at ht hs
  have HT := Lib.hid hT
  clear hT
  by_cases c1 : 4096 < s.size
  · have d3 : decide (4096 < (s.size : Int)) = true := by rw [decide_eq_true_iff]; omega
    by_cases a1 : 4096 < t.size
    · by_cases a2 : t.size ≤ 1048576
      · go_enter Tryd.func3, Tryd.ntmps3
        go_wp2_with (go_at_call 8; refine (works_any _ HT).mono ?_; rintro e w6 ⟨rfl, hb⟩)
        go_ret
        exact ⟨rfl, hb⟩
      · by_cases a3 : 1048586 < t.size
        · go_enter Tryd.func3, Tryd.ntmps3
          go_wp2_with (go_at_call 8; refine (works_any _ HT).mono ?_; rintro e w6 ⟨rfl, hb⟩)
          go_ret
          exact ⟨rfl, hb⟩
        · go_enter Tryd.func3, Tryd.ntmps3
          go_wp2_with (go_at_call 8; refine (works_any _ HT).mono ?_; rintro e w6 ⟨rfl, hb⟩)
          go_ret
          exact ⟨rfl, hb⟩
    · go_enter Tryd.func3, Tryd.ntmps3
      go_wp2_with (go_at_call 8; refine (works_any _ HT).mono ?_; rintro e w6 ⟨rfl, hb⟩)
      go_ret
      exact ⟨rfl, hb⟩
  by_cases a1 : 4096 < t.size
  · by_cases a2 : t.size ≤ 1048576
    · go_enter Tryd.func3, Tryd.ntmps3
      go_wp2_with (go_at_call 8; refine (works_any _ HT).mono ?_; rintro e w6 ⟨rfl, hb⟩)
      go_ret
      exact ⟨rfl, hb⟩
    · by_cases a3 : 1048586 < t.size
      · go_enter Tryd.func3, Tryd.ntmps3
        go_wp2_with (go_at_call 8; refine (works_any _ HT).mono ?_; rintro e w6 ⟨rfl, hb⟩)
        go_ret
        exact ⟨rfl, hb⟩
      · have KP := Lib.hid (fun W => Put_long t (by omega) (by omega) W)
        have KZ := Lib.hid (fun W => Size_any t (by omega) W)
        have hz : (8 + (t.size : Int) == (t.size : Int) + 8) = true := by rw [beq_iff_eq]; omega
        go_enter Tryd.func3, Tryd.ntmps3
        go_wp2_with fail
        refine (KP.out _).mono ?_
        rintro r w1 ⟨rfl, rfl⟩
        go_wp2_with fail
        refine (KZ.out _).mono ?_
        rintro r w7 ⟨rfl, rfl⟩
        go_wp2_with fail
        refine (works_any _ HT).mono ?_
        rintro r w9 ⟨rfl, hb⟩
        have HB9 := Lib.hid hb
        clear hb
        go_wp2_with fail
        go_ret
        exact ⟨rfl, HB9.out⟩
  · exact walk_n t s (by omega) (by omega) w HT

end Go.Proofs.YtjjhgfbemfbplaaDoor.frameTells
