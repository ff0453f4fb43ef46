/-
  The walk of the law WireStays.
-/
import Derived.Test.YteomgaaemlchfaaWAlive
import Derived.Test.YteomgaaemlchfaaPairArgs
import Derived.OpenShut
namespace Go.Proofs.Yteomgaaemlchfaa.wireStays
open Go.RowKit

set_option maxRecDepth 100000 in
set_option maxHeartbeats 2000000 in
theorem walk0 (s : ByteArray) (a : Nat) (ha : a ≤ 255) (A : Option Addr) (len cap : Nat) (F0 F1 : Nat → Int) (W : World) (HV : Hid (PairsView W .u8 .i64 A len cap F0 F1)) (hs : s.size ≤ maxLen) (hlm : len ≤ maxLen) :
    Calls Try.prog 7 #[.string s, .int .u8 a, .slice A len cap] W fun e w' => e = .returned (.bool true) ∧ Below W.heap.size W w' := by
  unfold maxLen at hs hlm
  by_cases hc : s.size ≤ 4096 ∧ len ≤ 100
  · obtain ⟨h1, h2⟩ := hc
    have HS : Hid (str s.data.toList = s) := rfl
    have he0 : (1 + (a : Int)) ≠ 0 := by omega
    go_enter Try.func7, Try.ntmps7
    go_wp2_with fail
    refine (New_of s.data.toList s HS _).mono ?_
    rintro e w1 ⟨g, rfl, hg, hr, hb⟩
    have HG := Lib.hid hg
    have HR := Lib.hid hr
    have HB := Lib.hid hb
    clear hg hr hb
    go_wp2_with fail
    refine (Fail_at g _ _ HR.out (1 + (a : Int))).mono ?_
    rintro e w2 ⟨rfl, hr, hb⟩
    have HR2 := Lib.hid hr
    have HB2 : Hid (Below W.heap.size W w2) := HB.out.trans (hb.mono HG.out)
    clear hr hb HR HB
    go_wp2_with fail
    go_loopw [8] (fun iv wv => ∃ i : Nat, i ≤ len ∧ iv = .int .i64 i ∧ Hid (RD g s.data.toList (1 + (a : Int)) wv) ∧ Hid (Below W.heap.size W wv)) (fun iv _ => len - (intOf iv).toNat)
    case atStart => exact ⟨0, Nat.zero_le _, rfl, HR2, HB2⟩
    case round =>
      clear HR2 HB2
      obtain ⟨i, hi, rfl, HR3, HB3⟩ := hrel
      by_cases hlt : i < len
      · obtain ⟨b, off, rfl, hbl, _, hc1, _, _⟩ := HV.out.cell i hlt
        obtain ⟨N, hN⟩ : ∃ N, F1 i = N := ⟨_, rfl⟩
        rw [hN] at hc1
        have HBL := Lib.hid hbl
        have HC : Hid (W.cell? ⟨b, off + i * 2 + 1, none⟩ = some (.int .i64 N)) := hc1
        clear hbl hc1 hN
        go_wp2_with fail
        refine (Fail_err g _ _ wr HR3.out he0 9).mono ?_
        rintro e w4 ⟨rfl, hb⟩
        have HB4 := Lib.hid (HB3.out.trans (hb.mono HB3.out.size))
        have HR4 := Lib.hid (HR3.out.below hb HR3.out.lt)
        clear hb HB3 HR3
        have hw4 : w4.cell? ⟨b, off + i * 2 + 1, none⟩ = some (.int .i64 N) := (HB4.out.cell (p := ⟨b, off + i * 2 + 1, none⟩) HBL.out).trans HC.out
        go_wp2_with fail
        clear hw4
        refine (Num_err g _ _ _ HR4.out he0 _).mono ?_
        rintro e w5 ⟨rfl, hb⟩
        have HB5 := Lib.hid (HB4.out.trans (hb.mono HB4.out.size))
        have HR5 := Lib.hid (HR4.out.below hb HR4.out.lt)
        clear hb HB4 HR4
        have hw5 : w5.cell? ⟨b, off + i * 2 + 1, none⟩ = some (.int .i64 N) := (HB5.out.cell (p := ⟨b, off + i * 2 + 1, none⟩) HBL.out).trans HC.out
        go_wp2_with fail
        clear hw5
        refine (Int_err g _ _ _ HR5.out he0 _).mono ?_
        rintro e w6 ⟨rfl, hb⟩
        have HB6 := Lib.hid (HB5.out.trans (hb.mono HB5.out.size))
        have HR6 := Lib.hid (HR5.out.below hb HR5.out.lt)
        clear hb HB5 HR5
        have hw6 : w6.cell? ⟨b, off + i * 2 + 1, none⟩ = some (.int .i64 N) := (HB6.out.cell (p := ⟨b, off + i * 2 + 1, none⟩) HBL.out).trans HC.out
        go_wp2_with fail
        clear hw6
        refine (Text_err g _ _ _ HR6.out he0 _).mono ?_
        rintro e w7 ⟨rfl, hb⟩
        have HB7 := Lib.hid (HB6.out.trans (hb.mono HB6.out.size))
        have HR7 := Lib.hid (HR6.out.below hb HR6.out.lt)
        clear hb HB6 HR6
        go_wp2_with fail
        refine (Bool_err g _ _ _ HR7.out he0).mono ?_
        rintro e w8 ⟨rfl, hb⟩
        have HB8 := Lib.hid (HB7.out.trans (hb.mono HB7.out.size))
        have HR8 := Lib.hid (HR7.out.below hb HR7.out.lt)
        clear hb HB7 HR7
        go_wp2_with fail
        refine (Err_at g _ _ _ HR8.out).mono ?_
        rintro e _ ⟨rfl, rfl⟩
        go_wp2_with fail
        go_roundw
        case rel => exact ⟨i + 1, by omega, by go_num, HR8, HB8⟩
        case measure => simp [intOf]; omega
      · go_wp2_with fail
        refine (End_err g _ _ _ HR3.out he0).mono ?_
        rintro e _ ⟨rfl, rfl⟩
        go_wp2_with fail
        refine (alive_any _).mono ?_
        rintro e w4 ⟨rfl, hb⟩
        have HB4 := HB3.out.trans (hb.mono HB3.out.size)
        clear hb HB3 HR3
        go_wp2_with fail
        go_ret
        exact ⟨rfl, HB4⟩
  · have HB : Below W.heap.size W W := Below.refl _ _
    by_cases h1 : 4096 < s.size
    · go_enter Try.func7, Try.ntmps7
      go_wp2_with (go_at_call 8; refine (alive_any _).mono ?_; rintro e w' ⟨rfl, hb⟩; replace HB := HB.trans (hb.mono HB.size); clear hb)
      go_ret
      exact ⟨rfl, HB⟩
    · have h2 : 100 < len := by omega
      go_enter Try.func7, Try.ntmps7
      go_wp2_with (go_at_call 8; refine (alive_any _).mono ?_; rintro e w' ⟨rfl, hb⟩; replace HB := HB.trans (hb.mono HB.size); clear hb)
      go_ret
      exact ⟨rfl, HB⟩

theorem walk (s : ByteArray) (z : Int) (A : Option Addr) (len cap : Nat) (F0 F1 : Nat → Int) (W : World) (hs : s.size ≤ maxLen) (hz : (Lit.int .u8 z).wf = true) (HV : PairsView W .u8 .i64 A len cap F0 F1) :
    Calls Try.prog 7 #[.string s, .int .u8 z, .slice A len cap] W fun e w' => e = .returned (.bool true) ∧ Below W.heap.size W w' := by
  have hb := bounds_u8 hz
  obtain ⟨a, rfl⟩ := Int.eq_ofNat_of_zero_le hb.1
  exact walk0 s a (by omega) A len cap F0 F1 W HV hs (Nat.le_trans HV.fits HV.top)

end Go.Proofs.Yteomgaaemlchfaa.wireStays
