/-
  DiskNone, the walk, over any disk ('Door') and what no disk answers ('Shut').
-/
import Derived.Test.YtaiifelkbajaoaaDWorks
import Derived.OpenShut
namespace Go.Proofs.Ytaiifelkbajaoaa
open Go.RowKit Go.ChangeShapes Go.WideShapes

/-- What no disk answers. -/
structure Shut : Prop where
  read : ∀ (n : ByteArray) (w : World), n.size ≤ many → Calls Try.prog 13 #[.pointer none, .string n] w fun e w' => e = .returned (.tuple #[.string ⟨#[]⟩, .int .i64 1]) ∧ Below w.heap.size w w'
  create : ∀ (n : ByteArray) (w : World), n.size ≤ many → Calls Try.prog 16 #[.pointer none, .string n] w fun e w' => e = .returned (.int .i64 1) ∧ Below w.heap.size w w'
  append : ∀ (n t : ByteArray) (w : World), n.size ≤ many → t.size ≤ many → Calls Try.prog 17 #[.pointer none, .string n, .string t] w fun e w' => e = .returned (.int .i64 1) ∧ Below w.heap.size w w'
  sync : ∀ (n : ByteArray) (w : World), n.size ≤ many → Calls Try.prog 18 #[.pointer none, .string n] w fun e w' => e = .returned (.int .i64 1) ∧ Below w.heap.size w w'
  cut : ∀ (n : ByteArray) (k : Int) (w : World), n.size ≤ many → (Lit.int .i64 k).wf = true → Calls Try.prog 19 #[.pointer none, .string n, .int .i64 k] w fun e w' => e = .returned (.int .i64 1) ∧ Below w.heap.size w w'
  remove : ∀ (n : ByteArray) (w : World), n.size ≤ many → Calls Try.prog 20 #[.pointer none, .string n] w fun e w' => e = .returned (.int .i64 1) ∧ Below w.heap.size w w'
  spoil : ∀ (n : ByteArray) (k b : Int) (w : World), n.size ≤ many → (Lit.int .i64 k).wf = true → (Lit.int .u8 b).wf = true → Calls Try.prog 21 #[.pointer none, .string n, .int .i64 k, .int .u8 b] w fun e w' => e = .returned (.int .i64 1) ∧ Below w.heap.size w w'
  names : ∀ (w : World), Calls Try.prog 12 #[.pointer none] w (Listed w [])
  loose : ∀ (n : ByteArray) (w : World), n.size ≤ many → Calls Try.prog 14 #[.pointer none, .string n] w fun e w' => e = .returned (.int .i64 0) ∧ Below w.heap.size w w'
  room : ∀ (w : World), Calls Try.prog 22 #[.pointer none] w fun e w' => e = .returned (.int .i64 0) ∧ Below w.heap.size w w'
  fuse : ∀ (k : Int) (w : World), (Lit.int .i64 k).wf = true → Calls Try.prog 23 #[.pointer none, .int .i64 k] w fun e w' => e = .returned (.int .i64 1) ∧ Below w.heap.size w w'
  crash : ∀ (A : Option Addr) (l c : Nat) (w : World), l ≤ c → Calls Try.prog 15 #[.pointer none, .slice A l c] w fun e w' => e = .returned (.int .i64 1) ∧ Below w.heap.size w w'
  copy : ∀ (w : World), Calls Try.prog 24 #[.pointer none] w fun e w' => e = .returned (.pointer none) ∧ Below w.heap.size w w'

namespace diskNone

set_option maxRecDepth 100000 in
set_option maxHeartbeats 1000000 in
theorem walk_any {D : Disks} (hD : Door D) (hS : Shut) (n : ByteArray) (k : Int) (hn : n.size ≤ maxLen) (hk : (Lit.int .i64 k).wf = true) (w : World) :
    Calls Try.prog 4 #[.string n, .int .i64 k] w fun e w' => e = .returned (.bool true) ∧ Below w.heap.size w w' := by
  have HD := Lib.hid hD
  have HS := Lib.hid hS
  have HK := Lib.hid hk
  unfold maxLen at hn
  clear hD hS hk
  by_cases hl : 4096 < n.size
  · go_enter Try.func4, Try.ntmps4
    go_wp2_with fail
    refine (works_any HD.out _).mono ?_
    rintro e w1 ⟨rfl, hb⟩
    have HB := Lib.hid hb
    clear hb
    go_wp2_with fail
    go_ret
    exact ⟨rfl, HB.out⟩
  have hm : n.size ≤ many := by unfold many; omega
  have HM := Lib.hid hm
  clear hm
  go_enter Try.func4, Try.ntmps4
  go_wp2_with fail
  refine (HS.out.read n _ HM.out).mono ?_
  rintro e w1 ⟨rfl, hb⟩
  have B1 := Lib.hid hb
  clear hb
  go_wp2_with fail
  refine (HS.out.create n _ HM.out).mono ?_
  rintro e w2 ⟨rfl, hb⟩
  have B2 := Lib.hid (B1.out.trans (hb.mono B1.out.size))
  clear hb B1
  go_wp2_with fail
  refine (HS.out.append n ⟨#[120]⟩ _ HM.out (by decide)).mono ?_
  rintro e w3 ⟨rfl, hb⟩
  have B3 := Lib.hid (B2.out.trans (hb.mono B2.out.size))
  clear hb B2
  go_wp2_with fail
  refine (HS.out.sync n _ HM.out).mono ?_
  rintro e w4 ⟨rfl, hb⟩
  have B4 := Lib.hid (B3.out.trans (hb.mono B3.out.size))
  clear hb B3
  go_wp2_with fail
  refine (HS.out.cut n k _ HM.out HK.out).mono ?_
  rintro e w5 ⟨rfl, hb⟩
  have B5 := Lib.hid (B4.out.trans (hb.mono B4.out.size))
  clear hb B4
  go_wp2_with fail
  refine (HS.out.remove n _ HM.out).mono ?_
  rintro e w6 ⟨rfl, hb⟩
  have B6 := Lib.hid (B5.out.trans (hb.mono B5.out.size))
  clear hb B5
  go_wp2_with fail
  refine (HS.out.spoil n k 1 _ HM.out HK.out (by decide)).mono ?_
  rintro e w7 ⟨rfl, hb⟩
  have B7 := Lib.hid (B6.out.trans (hb.mono B6.out.size))
  clear hb B6
  go_wp2_with fail
  refine (HS.out.names _).mono ?_
  rintro e w8 ⟨A, c, rfl, _, hb, _⟩
  have B8 := Lib.hid (B7.out.trans (hb.mono B7.out.size))
  clear hb B7
  go_wp2_with fail
  refine (HS.out.loose n _ HM.out).mono ?_
  rintro e w9 ⟨rfl, hb⟩
  have B9 := Lib.hid (B8.out.trans (hb.mono B8.out.size))
  clear hb B8
  go_wp2_with fail
  refine (HS.out.room _).mono ?_
  rintro e w10 ⟨rfl, hb⟩
  have B10 := Lib.hid (B9.out.trans (hb.mono B9.out.size))
  clear hb B9
  go_wp2_with fail
  refine (HS.out.fuse k _ HK.out).mono ?_
  rintro e w11 ⟨rfl, hb⟩
  have B11 := Lib.hid (B10.out.trans (hb.mono B10.out.size))
  clear hb B10
  go_wp2_with fail
  refine (HS.out.crash _ 1 1 _ (by decide)).mono ?_
  rintro e w12 ⟨rfl, hb⟩
  have B12 := Lib.hid ((B11.out.alloc B11.out.size _).trans (hb.mono (Nat.le_trans B11.out.size (by simp))))
  clear hb B11
  go_wp2_with fail
  refine (HS.out.copy _).mono ?_
  rintro e w13 ⟨rfl, hb⟩
  have B13 := Lib.hid (B12.out.trans (hb.mono B12.out.size))
  clear hb B12
  go_wp2_with fail
  refine (works_any HD.out _).mono ?_
  rintro e w14 ⟨rfl, hb⟩
  have B14 := Lib.hid (B13.out.trans (hb.mono B13.out.size))
  clear hb B13
  go_wp2_with fail
  go_ret
  exact ⟨rfl, B14.out⟩
theorem walk {D : Disks} (hD : Door D ∧ Shut) (n : ByteArray) (k : Int) (hn : n.size ≤ maxLen) (hk : (Lit.int .i64 k).wf = true) (w : World) :
    Calls Try.prog 4 #[.string n, .int .i64 k] w fun e w' => e = .returned (.bool true) ∧ Below w.heap.size w w' := walk_any hD.1 hD.2 n k hn hk w
end diskNone
end Go.Proofs.Ytaiifelkbajaoaa
