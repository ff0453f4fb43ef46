/-
  Layer 7: what the laws' walks want of the disk's calls ('DoorB D'), whatever a disk is in memory ('D'): but Remove and Copy (XDDoor).
-/
import Derived.Test.YtikbokbmaihdbaaDoorDModel
import Derived.Test.YtikbokbmaihdbaaDoorArgs
import Derived.Test.YtikbokbmaihdbaaDoorStrs
import Derived.WalkKit
import Derived.BigCall
import Derived.Lib.Hide
import Derived.IntWalk
namespace Go.Proofs.YtikbokbmaihdbaaDoor
open Go.RowKit Go.ChangeShapes Go.WideShapes

/-- Of the old blocks only those of O may have turned. -/
structure Only (O : Nat → Prop) (w w' : World) : Prop where
  os : w'.os = w.os
  tape : w'.tape = w.tape
  output : w'.output = w.output
  size : w.heap.size ≤ w'.heap.size
  block : ∀ k, k < w.heap.size → ¬ O k → w'.heap[k]? = w.heap[k]?
theorem Only.below {O : Nat → Prop} {w w' : World} (h : Only O w w') {B : Nat} (hO : ∀ k, O k → B ≤ k) (hB : B ≤ w.heap.size) : Below B w w' :=
  ⟨h.os, h.tape, h.output, h.size, fun k hk => h.block k (by omega) (fun ho => by have := hO k ho; omega)⟩
theorem _root_.Go.RowKit.Below.only {w w' : World} (h : Below w.heap.size w w') (O : Nat → Prop) : Only O w w' := ⟨h.os, h.tape, h.output, h.size, fun k hk _ => h.block k hk⟩
theorem Only.trans {O O' : Nat → Prop} {a b c : World} (h : Only O a b) (k : Only O' b c) (hO : ∀ i, O' i → O i ∨ a.heap.size ≤ i) : Only O a c :=
  ⟨k.os.trans h.os, k.tape.trans h.tape, k.output.trans h.output, Nat.le_trans h.size k.size, fun i hi hn => (k.block i (Nat.lt_of_lt_of_le hi h.size) (fun ho => by rcases hO i ho with h1 | h1; exact hn h1; omega)).trans (h.block i hi hn)⟩

abbrev Disks := (Nat → Prop) → World → Nat → Dsk → Prop
abbrev ptr (g : Nat) : Value := .pointer (some ⟨g, 0, none⟩)

/-- A call has made r of the disk at g, which owned O. -/
def Did (D : Disks) (O : Nat → Prop) (w : World) (g : Nat) (r : Dsk × Nat) (e : Ending) (w' : World) : Prop :=
  e = .returned (.int .i64 (r.2 : Nat)) ∧ ∃ O', D O' w' g r.1 ∧ Only O w w' ∧ ∀ k, O' k → O k ∨ w.heap.size ≤ k
/-- A new disk. -/
def Made (D : Disks) (w : World) (v : Value → Value) (σ : Dsk) (e : Ending) (w' : World) : Prop :=
  ∃ (g : Nat) (O : Nat → Prop), e = .returned (v (ptr g)) ∧ D O w' g σ ∧ (∀ k, O k → w.heap.size ≤ k) ∧ Below w.heap.size w w'
/-- Names, told. -/
def Listed (w : World) (ns : List ByteArray) (e : Ending) (w' : World) : Prop :=
  ∃ (A : Option Addr) (c : Nat), e = .returned (.slice A ns.length c) ∧ Strs w' A ns.length ns ∧ Below w.heap.size w w' ∧ ∀ ad, A = some ad → w.heap.size ≤ ad.block

def textOf (σ : Dsk) (n : ByteArray) : ByteArray := match get σ.fs n with | some f => f.text | none => ⟨#[]⟩
def errOf (σ : Dsk) (n : ByteArray) : Nat := match get σ.fs n with | some _ => 0 | none => 5
def looseOf (σ : Dsk) (n : ByteArray) : Nat := match get σ.fs n with | some f => f.loose | none => 0
def many : Nat := 140737488351232

structure DoorB (D : Disks) : Prop where
  stays : ∀ {O w w' g σ}, D O w g σ → (∀ k, O k → w'.heap[k]? = w.heap[k]?) → D O w' g σ
  own : ∀ {O w g σ}, D O w g σ → ∀ k, O k → k < w.heap.size
  inv : ∀ {O w g σ}, D O w g σ → Inv σ
  new : ∀ (room : Nat) (w : World), room ≤ 4194304 → Calls Tryd.prog 9 #[.int .i64 room] w (Made D w (fun v => .tuple #[v, .int .i64 0]) ⟨room, none, []⟩)
  create : ∀ {O w g σ} (n : ByteArray), D O w g σ → n.size ≤ many → Calls Tryd.prog 20 #[ptr g, .string n] w (Did D O w g (create σ n))
  append : ∀ {O w g σ} (n t : ByteArray), D O w g σ → n.size ≤ many → t.size ≤ many → Calls Tryd.prog 21 #[ptr g, .string n, .string t] w (Did D O w g (append σ n t))
  sync : ∀ {O w g σ} (n : ByteArray), D O w g σ → n.size ≤ many → Calls Tryd.prog 27 #[ptr g, .string n] w (Did D O w g (sync σ n))
  cut : ∀ {O w g σ} (n : ByteArray) (k : Int), D O w g σ → n.size ≤ many → (Lit.int .i64 k).wf = true → Calls Tryd.prog 26 #[ptr g, .string n, .int .i64 k] w (Did D O w g (cut σ n k))
  spoil : ∀ {O w g σ} (n : ByteArray) (k b : Int), D O w g σ → n.size ≤ many → (Lit.int .i64 k).wf = true → (Lit.int .u8 b).wf = true → Calls Tryd.prog 18 #[ptr g, .string n, .int .i64 k, .int .u8 b] w (Did D O w g (spoil σ n k (UInt8.ofNat b.toNat)))
  fuse : ∀ {O w g σ} (k : Int), D O w g σ → (Lit.int .i64 k).wf = true → Calls Tryd.prog 17 #[ptr g, .int .i64 k] w (Did D O w g (fuse σ k))
  crash : ∀ {O w g σ} (K : Option Addr) (l c : Nat) (ks : List Int), D O w g σ → SliceView w .i64 K l c ks → (∀ a, K = some a → ¬ O a.block) → l * 8 ≤ many → Calls Tryd.prog 16 #[ptr g, .slice K l c] w (Did D O w g (crash σ ks))
  read : ∀ {O w g σ} (n : ByteArray), D O w g σ → n.size ≤ many → Calls Tryd.prog 23 #[ptr g, .string n] w fun e w' => e = .returned (.tuple #[.string (textOf σ n), .int .i64 (errOf σ n : Nat)]) ∧ Below w.heap.size w w'
  names : ∀ {O w g σ}, D O w g σ → Calls Tryd.prog 37 #[ptr g] w (Listed w (names σ.fs))
  loose : ∀ {O w g σ} (n : ByteArray), D O w g σ → n.size ≤ many → Calls Tryd.prog 22 #[ptr g, .string n] w fun e w' => e = .returned (.int .i64 (looseOf σ n : Nat)) ∧ Below w.heap.size w w'
  room : ∀ {O w g σ}, D O w g σ → Calls Tryd.prog 24 #[ptr g] w fun e w' => e = .returned (.int .i64 ((σ.room - used σ.fs : Nat) : Int)) ∧ Below w.heap.size w w'

theorem DoorB.below {D : Disks} (h : DoorB D) {O : Nat → Prop} {w w' : World} {g : Nat} {σ : Dsk} (hd : D O w g σ) (hb : Below w.heap.size w w') : D O w' g σ :=
  h.stays hd (fun k hk => hb.block k (h.own hd k hk))
/-- Two disks, apart: a call on one leaves the other. -/
theorem DoorB.apart {D : Disks} (h : DoorB D) {O P : Nat → Prop} {w w' : World} {g : Nat} {σ : Dsk} (hd : D P w g σ) (ho : Only O w w') (hx : ∀ k, P k → ¬ O k) : D P w' g σ :=
  h.stays hd (fun k hk => ho.block k (h.own hd k hk) (hx k hk))

/-- What a disk's owner keeps from call to call: all of it is new since w0; of what was there in w0 nothing has turned. -/
def Mine (D : Disks) (w0 w : World) (g : Nat) (σ : Dsk) : Prop := ∃ O, D O w g σ ∧ (∀ k, O k → w0.heap.size ≤ k) ∧ Below w0.heap.size w0 w
theorem Mine.bel {D : Disks} {w0 w : World} {g : Nat} {σ : Dsk} (h : Mine D w0 w g σ) : Below w0.heap.size w0 w := by obtain ⟨_, _, _, hb⟩ := h; exact hb
theorem Mine.inv {D : Disks} (hD : DoorB D) {w0 w : World} {g : Nat} {σ : Dsk} (h : Mine D w0 w g σ) : Inv σ := by obtain ⟨_, hd, _⟩ := h; exact hD.inv hd
theorem Mine.below {D : Disks} (hD : DoorB D) {w0 w w' : World} {g : Nat} {σ : Dsk} (h : Mine D w0 w g σ) (hb : Below w.heap.size w w') : Mine D w0 w' g σ := by
  obtain ⟨O, hd, hO, hb0⟩ := h
  have hs := hb0.size
  exact ⟨O, hD.below hd hb, hO, hb0.trans (hb.mono (by omega))⟩
/-- Behind a call that turns the disk. -/
def Turned (D : Disks) (w0 : World) (g : Nat) (r : Dsk × Nat) (e : Ending) (w' : World) : Prop := e = .returned (.int .i64 (r.2 : Nat)) ∧ Mine D w0 w' g r.1
theorem Mine.turned {D : Disks} {w0 w : World} {g : Nat} {r : Dsk × Nat} {f : FuncId} {args : Array Value} {O : Nat → Prop} (hO : ∀ k, O k → w0.heap.size ≤ k) (hb : Below w0.heap.size w0 w) (h : Calls Tryd.prog f args w (Did D O w g r)) : Calls Tryd.prog f args w (Turned D w0 g r) := by
  refine h.mono ?_
  rintro e w' ⟨rfl, O', hd, ho, hn⟩
  have hs := hb.size
  exact ⟨rfl, O', hd, fun k hk => by rcases hn k hk with h1 | h1; exact hO k h1; omega, hb.trans (ho.below hO (by omega))⟩

section
variable {D : Disks} (hD : DoorB D) {w0 w : World} {g : Nat} {σ : Dsk} (h : Mine D w0 w g σ)
include hD h
theorem create_at (n : ByteArray) (hn : n.size ≤ many) : Calls Tryd.prog 20 #[ptr g, .string n] w (Turned D w0 g (create σ n)) := by
  obtain ⟨O, hd, hO, hb⟩ := h
  exact Mine.turned hO hb (hD.create n hd hn)
theorem append_at (n t : ByteArray) (hn : n.size ≤ many) (ht : t.size ≤ many) : Calls Tryd.prog 21 #[ptr g, .string n, .string t] w (Turned D w0 g (append σ n t)) := by
  obtain ⟨O, hd, hO, hb⟩ := h
  exact Mine.turned hO hb (hD.append n t hd hn ht)
theorem sync_at (n : ByteArray) (hn : n.size ≤ many) : Calls Tryd.prog 27 #[ptr g, .string n] w (Turned D w0 g (sync σ n)) := by
  obtain ⟨O, hd, hO, hb⟩ := h
  exact Mine.turned hO hb (hD.sync n hd hn)
theorem cut_at (n : ByteArray) (k : Int) (hn : n.size ≤ many) (hk : (Lit.int .i64 k).wf = true) : Calls Tryd.prog 26 #[ptr g, .string n, .int .i64 k] w (Turned D w0 g (cut σ n k)) := by
  obtain ⟨O, hd, hO, hb⟩ := h
  exact Mine.turned hO hb (hD.cut n k hd hn hk)
theorem spoil_at (n : ByteArray) (k b : Int) (hn : n.size ≤ many) (hk : (Lit.int .i64 k).wf = true) (hb8 : (Lit.int .u8 b).wf = true) : Calls Tryd.prog 18 #[ptr g, .string n, .int .i64 k, .int .u8 b] w (Turned D w0 g (spoil σ n k (UInt8.ofNat b.toNat))) := by
  obtain ⟨O, hd, hO, hb⟩ := h
  exact Mine.turned hO hb (hD.spoil n k b hd hn hk hb8)
theorem fuse_at (k : Int) (hk : (Lit.int .i64 k).wf = true) : Calls Tryd.prog 17 #[ptr g, .int .i64 k] w (Turned D w0 g (fuse σ k)) := by
  obtain ⟨O, hd, hO, hb⟩ := h
  exact Mine.turned hO hb (hD.fuse k hd hk)
/-- With numbers that lie in a new row. -/
theorem crash_at {w' : World} (hb' : Below w.heap.size w w') (K : Option Addr) (l c : Nat) (ks : List Int) (hv : SliceView w' .i64 K l c ks) (hK : ∀ a, K = some a → w.heap.size ≤ a.block) (hl : l * 8 ≤ many) : Calls Tryd.prog 16 #[ptr g, .slice K l c] w' (Turned D w0 g (crash σ ks)) := by
  obtain ⟨O, hd, hO, hb⟩ := h
  exact Mine.turned hO (hb.trans (hb'.mono hb.size)) (hD.crash K l c ks (hD.below hd hb') hv (fun a ha ho => by have h1 := hD.own hd _ ho; have h2 := hK a ha; omega) hl)
theorem read_at (n : ByteArray) (hn : n.size ≤ many) : Calls Tryd.prog 23 #[ptr g, .string n] w fun e w' => e = .returned (.tuple #[.string (textOf σ n), .int .i64 (errOf σ n : Nat)]) ∧ Below w.heap.size w w' := by
  obtain ⟨O, hd, hO, hb⟩ := h
  exact hD.read n hd hn
theorem names_at : Calls Tryd.prog 37 #[ptr g] w (Listed w (names σ.fs)) := by
  obtain ⟨O, hd, hO, hb⟩ := h
  exact hD.names hd
theorem loose_at (n : ByteArray) (hn : n.size ≤ many) : Calls Tryd.prog 22 #[ptr g, .string n] w fun e w' => e = .returned (.int .i64 (looseOf σ n : Nat)) ∧ Below w.heap.size w w' := by
  obtain ⟨O, hd, hO, hb⟩ := h
  exact hD.loose n hd hn
theorem room_at : Calls Tryd.prog 24 #[ptr g] w fun e w' => e = .returned (.int .i64 ((σ.room - used σ.fs : Nat) : Int)) ∧ Below w.heap.size w w' := by
  obtain ⟨O, hd, hO, hb⟩ := h
  exact hD.room hd
end
theorem new_at {D : Disks} (hD : DoorB D) {w0 w : World} (hb : Below w0.heap.size w0 w) (room : Nat) (hr : room ≤ 4194304) :
    Calls Tryd.prog 9 #[.int .i64 room] w fun e w' => ∃ g, e = .returned (.tuple #[ptr g, .int .i64 0]) ∧ Mine D w0 w' g ⟨room, none, []⟩ ∧ Below w.heap.size w w' := by
  refine (hD.new room w hr).mono ?_
  rintro e w' ⟨g, O, rfl, hd, hO, hb2⟩
  have hs := hb.size
  exact ⟨g, rfl, ⟨O, hd, fun k hk => Nat.le_trans hs (hO k hk), hb.trans (hb2.mono hs)⟩, hb2⟩

end Go.Proofs.YtikbokbmaihdbaaDoor
