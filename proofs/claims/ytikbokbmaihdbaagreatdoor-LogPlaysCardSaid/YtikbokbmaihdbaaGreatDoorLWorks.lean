/-
  Layer 7: what the laws' walks want of the disk's calls ('DoorB D'), whatever a disk is in memory ('D'): but Remove and Copy (XDDoor).
  Layer 7: a slice of ints that came in, copied ('append([]int(nil), l...)').
  Layer 8: what the laws' walks want of a log's calls ('LDoor D L'), whatever a disk ('D') and a log ('L') are in memory.
  Layer 8: the laws' 'works', over any disk and any log ('DoorB', 'LDoor').
-/
import Derived.Test.YtikbokbmaihdbaaGreatDoorDModel
import Derived.Test.YtikbokbmaihdbaaGreatDoorBRow
import Derived.WalkKit
import Derived.BigCall
import Derived.Lib.Hide
import Derived.IntWalk
import Derived.OwnWalk
import Derived.Laws.AppendOwnNone
import Derived.Test.YtikbokbmaihdbaaGreatDoorLFacts
import Derived.Test.YtikbokbmaihdbaaGreatDoorCWalkA
namespace Go.Proofs.YtikbokbmaihdbaaGreatDoor
open Go.RowKit Go.ChangeShapes Go.WideShapes

/-- Of the old blocks only those of O may have turned. -/
structure Only (O : Nat → Prop) (w w' : World) : Prop where
  os : w'.os = w.os
  tape : w'.tape = w.tape
  output : w'.output = w.output
  size : w.heap.size ≤ w'.heap.size
  block : ∀ k, k < w.heap.size → ¬ O k → w'.heap[k]? = w.heap[k]?
theorem Only.below {O : Nat → Prop} {w w' : World} (h : Only O w w') {B : Nat} (hO : ∀ k, O k → B ≤ k) (hB : B ≤ w.heap.size) : Below B w w' :=
  ⟨h.os, h.tape, h.output, h.size, fun k hk => h.block k (by omega) (fun ho => by have := hO k ho; omega)⟩
theorem _root_.Go.RowKit.Below.only {w w' : World} (h : Below w.heap.size w w') (O : Nat → Prop) : Only O w w' := ⟨h.os, h.tape, h.output, h.size, fun k hk _ => h.block k hk⟩
theorem Only.trans {O O' : Nat → Prop} {a b c : World} (h : Only O a b) (k : Only O' b c) (hO : ∀ i, O' i → O i ∨ a.heap.size ≤ i) : Only O a c :=
  ⟨k.os.trans h.os, k.tape.trans h.tape, k.output.trans h.output, Nat.le_trans h.size k.size, fun i hi hn => (k.block i (Nat.lt_of_lt_of_le hi h.size) (fun ho => by rcases hO i ho with h1 | h1; exact hn h1; omega)).trans (h.block i hi hn)⟩

abbrev Disks := (Nat → Prop) → World → Nat → Dsk → Prop
abbrev ptr (g : Nat) : Value := .pointer (some ⟨g, 0, none⟩)

/-- A call has made r of the disk at g, which owned O. -/
def Did (D : Disks) (O : Nat → Prop) (w : World) (g : Nat) (r : Dsk × Nat) (e : Ending) (w' : World) : Prop :=
  e = .returned (.int .i64 (r.2 : Nat)) ∧ ∃ O', D O' w' g r.1 ∧ Only O w w' ∧ ∀ k, O' k → O k ∨ w.heap.size ≤ k
/-- A new disk. -/
def Made (D : Disks) (w : World) (v : Value → Value) (σ : Dsk) (e : Ending) (w' : World) : Prop :=
  ∃ (g : Nat) (O : Nat → Prop), e = .returned (v (ptr g)) ∧ D O w' g σ ∧ (∀ k, O k → w.heap.size ≤ k) ∧ Below w.heap.size w w'
/-- Names, told. -/
def Listed (w : World) (ns : List ByteArray) (e : Ending) (w' : World) : Prop :=
  ∃ (A : Option Addr) (c : Nat), e = .returned (.slice A ns.length c) ∧ Strs w' A ns.length ns ∧ Below w.heap.size w w' ∧ ∀ ad, A = some ad → w.heap.size ≤ ad.block

def textOf (σ : Dsk) (n : ByteArray) : ByteArray := match get σ.fs n with | some f => f.text | none => ⟨#[]⟩
def errOf (σ : Dsk) (n : ByteArray) : Nat := match get σ.fs n with | some _ => 0 | none => 5
def looseOf (σ : Dsk) (n : ByteArray) : Nat := match get σ.fs n with | some f => f.loose | none => 0
def many : Nat := 140737488351232

structure DoorB (D : Disks) : Prop where
  stays : ∀ {O w w' g σ}, D O w g σ → (∀ k, O k → w'.heap[k]? = w.heap[k]?) → D O w' g σ
  own : ∀ {O w g σ}, D O w g σ → ∀ k, O k → k < w.heap.size
  inv : ∀ {O w g σ}, D O w g σ → Inv σ
  new : ∀ (room : Nat) (w : World), room ≤ 4194304 → Calls Tryz.prog 6 #[.int .i64 room] w (Made D w (fun v => .tuple #[v, .int .i64 0]) ⟨room, none, []⟩)
  create : ∀ {O w g σ} (n : ByteArray), D O w g σ → n.size ≤ many → Calls Tryz.prog 24 #[ptr g, .string n] w (Did D O w g (create σ n))
  append : ∀ {O w g σ} (n t : ByteArray), D O w g σ → n.size ≤ many → t.size ≤ many → Calls Tryz.prog 39 #[ptr g, .string n, .string t] w (Did D O w g (append σ n t))
  sync : ∀ {O w g σ} (n : ByteArray), D O w g σ → n.size ≤ many → Calls Tryz.prog 28 #[ptr g, .string n] w (Did D O w g (sync σ n))
  cut : ∀ {O w g σ} (n : ByteArray) (k : Int), D O w g σ → n.size ≤ many → (Lit.int .i64 k).wf = true → Calls Tryz.prog 26 #[ptr g, .string n, .int .i64 k] w (Did D O w g (cut σ n k))
  spoil : ∀ {O w g σ} (n : ByteArray) (k b : Int), D O w g σ → n.size ≤ many → (Lit.int .i64 k).wf = true → (Lit.int .u8 b).wf = true → Calls Tryz.prog 44 #[ptr g, .string n, .int .i64 k, .int .u8 b] w (Did D O w g (spoil σ n k (UInt8.ofNat b.toNat)))
  fuse : ∀ {O w g σ} (k : Int), D O w g σ → (Lit.int .i64 k).wf = true → Calls Tryz.prog 45 #[ptr g, .int .i64 k] w (Did D O w g (fuse σ k))
  crash : ∀ {O w g σ} (K : Option Addr) (l c : Nat) (ks : List Int), D O w g σ → SliceView w .i64 K l c ks → (∀ a, K = some a → ¬ O a.block) → l * 8 ≤ many → Calls Tryz.prog 22 #[ptr g, .slice K l c] w (Did D O w g (crash σ ks))
  read : ∀ {O w g σ} (n : ByteArray), D O w g σ → n.size ≤ many → Calls Tryz.prog 23 #[ptr g, .string n] w fun e w' => e = .returned (.tuple #[.string (textOf σ n), .int .i64 (errOf σ n : Nat)]) ∧ Below w.heap.size w w'
  names : ∀ {O w g σ}, D O w g σ → Calls Tryz.prog 47 #[ptr g] w (Listed w (names σ.fs))
  loose : ∀ {O w g σ} (n : ByteArray), D O w g σ → n.size ≤ many → Calls Tryz.prog 27 #[ptr g, .string n] w fun e w' => e = .returned (.int .i64 (looseOf σ n : Nat)) ∧ Below w.heap.size w w'
  room : ∀ {O w g σ}, D O w g σ → Calls Tryz.prog 48 #[ptr g] w fun e w' => e = .returned (.int .i64 ((σ.room - used σ.fs : Nat) : Int)) ∧ Below w.heap.size w w'

theorem DoorB.below {D : Disks} (h : DoorB D) {O : Nat → Prop} {w w' : World} {g : Nat} {σ : Dsk} (hd : D O w g σ) (hb : Below w.heap.size w w') : D O w' g σ :=
  h.stays hd (fun k hk => hb.block k (h.own hd k hk))
/-- Two disks, apart: a call on one leaves the other. -/
theorem DoorB.apart {D : Disks} (h : DoorB D) {O P : Nat → Prop} {w w' : World} {g : Nat} {σ : Dsk} (hd : D P w g σ) (ho : Only O w w') (hx : ∀ k, P k → ¬ O k) : D P w' g σ :=
  h.stays hd (fun k hk => ho.block k (h.own hd k hk) (hx k hk))

/-- What a disk's owner keeps from call to call: all of it is new since w0; of what was there in w0 nothing has turned. -/
def Mine (D : Disks) (w0 w : World) (g : Nat) (σ : Dsk) : Prop := ∃ O, D O w g σ ∧ (∀ k, O k → w0.heap.size ≤ k) ∧ Below w0.heap.size w0 w
theorem Mine.bel {D : Disks} {w0 w : World} {g : Nat} {σ : Dsk} (h : Mine D w0 w g σ) : Below w0.heap.size w0 w := by obtain ⟨_, _, _, hb⟩ := h; exact hb
theorem Mine.inv {D : Disks} (hD : DoorB D) {w0 w : World} {g : Nat} {σ : Dsk} (h : Mine D w0 w g σ) : Inv σ := by obtain ⟨_, hd, _⟩ := h; exact hD.inv hd
theorem Mine.below {D : Disks} (hD : DoorB D) {w0 w w' : World} {g : Nat} {σ : Dsk} (h : Mine D w0 w g σ) (hb : Below w.heap.size w w') : Mine D w0 w' g σ := by
  obtain ⟨O, hd, hO, hb0⟩ := h
  have hs := hb0.size
  exact ⟨O, hD.below hd hb, hO, hb0.trans (hb.mono (by omega))⟩
/-- Behind a call that turns the disk. -/
def Turned (D : Disks) (w0 : World) (g : Nat) (r : Dsk × Nat) (e : Ending) (w' : World) : Prop := e = .returned (.int .i64 (r.2 : Nat)) ∧ Mine D w0 w' g r.1
theorem Mine.turned {D : Disks} {w0 w : World} {g : Nat} {r : Dsk × Nat} {f : FuncId} {args : Array Value} {O : Nat → Prop} (hO : ∀ k, O k → w0.heap.size ≤ k) (hb : Below w0.heap.size w0 w) (h : Calls Tryz.prog f args w (Did D O w g r)) : Calls Tryz.prog f args w (Turned D w0 g r) := by
  refine h.mono ?_
  rintro e w' ⟨rfl, O', hd, ho, hn⟩
  have hs := hb.size
  exact ⟨rfl, O', hd, fun k hk => by rcases hn k hk with h1 | h1; exact hO k h1; omega, hb.trans (ho.below hO (by omega))⟩

section
variable {D : Disks} (hD : DoorB D) {w0 w : World} {g : Nat} {σ : Dsk} (h : Mine D w0 w g σ)
include hD h
theorem create_at (n : ByteArray) (hn : n.size ≤ many) : Calls Tryz.prog 24 #[ptr g, .string n] w (Turned D w0 g (create σ n)) := by
  obtain ⟨O, hd, hO, hb⟩ := h
  exact Mine.turned hO hb (hD.create n hd hn)
theorem append_at (n t : ByteArray) (hn : n.size ≤ many) (ht : t.size ≤ many) : Calls Tryz.prog 39 #[ptr g, .string n, .string t] w (Turned D w0 g (append σ n t)) := by
  obtain ⟨O, hd, hO, hb⟩ := h
  exact Mine.turned hO hb (hD.append n t hd hn ht)
theorem sync_at (n : ByteArray) (hn : n.size ≤ many) : Calls Tryz.prog 28 #[ptr g, .string n] w (Turned D w0 g (sync σ n)) := by
  obtain ⟨O, hd, hO, hb⟩ := h
  exact Mine.turned hO hb (hD.sync n hd hn)
theorem cut_at (n : ByteArray) (k : Int) (hn : n.size ≤ many) (hk : (Lit.int .i64 k).wf = true) : Calls Tryz.prog 26 #[ptr g, .string n, .int .i64 k] w (Turned D w0 g (cut σ n k)) := by
  obtain ⟨O, hd, hO, hb⟩ := h
  exact Mine.turned hO hb (hD.cut n k hd hn hk)
theorem spoil_at (n : ByteArray) (k b : Int) (hn : n.size ≤ many) (hk : (Lit.int .i64 k).wf = true) (hb8 : (Lit.int .u8 b).wf = true) : Calls Tryz.prog 44 #[ptr g, .string n, .int .i64 k, .int .u8 b] w (Turned D w0 g (spoil σ n k (UInt8.ofNat b.toNat))) := by
  obtain ⟨O, hd, hO, hb⟩ := h
  exact Mine.turned hO hb (hD.spoil n k b hd hn hk hb8)
theorem fuse_at (k : Int) (hk : (Lit.int .i64 k).wf = true) : Calls Tryz.prog 45 #[ptr g, .int .i64 k] w (Turned D w0 g (fuse σ k)) := by
  obtain ⟨O, hd, hO, hb⟩ := h
  exact Mine.turned hO hb (hD.fuse k hd hk)
/-- With numbers that lie in a new row. -/
theorem crash_at {w' : World} (hb' : Below w.heap.size w w') (K : Option Addr) (l c : Nat) (ks : List Int) (hv : SliceView w' .i64 K l c ks) (hK : ∀ a, K = some a → w.heap.size ≤ a.block) (hl : l * 8 ≤ many) : Calls Tryz.prog 22 #[ptr g, .slice K l c] w' (Turned D w0 g (crash σ ks)) := by
  obtain ⟨O, hd, hO, hb⟩ := h
  exact Mine.turned hO (hb.trans (hb'.mono hb.size)) (hD.crash K l c ks (hD.below hd hb') hv (fun a ha ho => by have h1 := hD.own hd _ ho; have h2 := hK a ha; omega) hl)
theorem read_at (n : ByteArray) (hn : n.size ≤ many) : Calls Tryz.prog 23 #[ptr g, .string n] w fun e w' => e = .returned (.tuple #[.string (textOf σ n), .int .i64 (errOf σ n : Nat)]) ∧ Below w.heap.size w w' := by
  obtain ⟨O, hd, hO, hb⟩ := h
  exact hD.read n hd hn
theorem names_at : Calls Tryz.prog 47 #[ptr g] w (Listed w (names σ.fs)) := by
  obtain ⟨O, hd, hO, hb⟩ := h
  exact hD.names hd
theorem loose_at (n : ByteArray) (hn : n.size ≤ many) : Calls Tryz.prog 27 #[ptr g, .string n] w fun e w' => e = .returned (.int .i64 (looseOf σ n : Nat)) ∧ Below w.heap.size w w' := by
  obtain ⟨O, hd, hO, hb⟩ := h
  exact hD.loose n hd hn
theorem room_at : Calls Tryz.prog 48 #[ptr g] w fun e w' => e = .returned (.int .i64 ((σ.room - used σ.fs : Nat) : Int)) ∧ Below w.heap.size w w' := by
  obtain ⟨O, hd, hO, hb⟩ := h
  exact hD.room hd
end
theorem new_at {D : Disks} (hD : DoorB D) {w0 w : World} (hb : Below w0.heap.size w0 w) (room : Nat) (hr : room ≤ 4194304) :
    Calls Tryz.prog 6 #[.int .i64 room] w fun e w' => ∃ g, e = .returned (.tuple #[ptr g, .int .i64 0]) ∧ Mine D w0 w' g ⟨room, none, []⟩ ∧ Below w.heap.size w w' := by
  refine (hD.new room w hr).mono ?_
  rintro e w' ⟨g, O, rfl, hd, hO, hb2⟩
  have hs := hb.size
  exact ⟨g, rfl, ⟨O, hd, fun k hk => Nat.le_trans hs (hO k hk), hb.trans (hb2.mono hs)⟩, hb2⟩

end Go.Proofs.YtikbokbmaihdbaaGreatDoor

namespace Go.Proofs.YtikbokbmaihdbaaGreatDoor
open Go.RowKit Go.ChangeShapes Go.WideShapes

theorem info3 : (Tryz.prog.info? 3).map (fun i => (i.zero, i.size, i.bytes)) = some (some (.int .i64 0), 1, 8) := by kernel_rfl

theorem SliceView.below {w w' : World} {k : IntKind} {A : Option Addr} {len cap : Nat} {Z : List Int} (h : SliceView w k A len cap Z) (hb : Below w.heap.size w w') : SliceView w' k A len cap Z := by
  obtain ⟨h1, h2, h3, h4, h5, h6⟩ := h
  refine ⟨h1, h2, h3, h4, fun t ht => ?_, h6⟩
  obtain ⟨b, off, e, hl, hc⟩ := h5 t ht
  exact ⟨b, off, e, Nat.lt_of_lt_of_le hl hb.size, (hb.cell (p := ⟨b, off + t, none⟩) hl).trans hc⟩

set_option maxRecDepth 100000 in
/-- 'append([]int(nil), l...)'. -/
theorem wpList_copy_ints {ops : Array Oper} {rest : List Oper} {o : Oper} {a : Act} {w : World} {Q : Exit → Act → World → Prop} (hgd : o.guard = none) (s x : Operand)
    (ho : o.op = .call { callee := .builtin .append, args := #[s, x], argTypes := #[39, 39] }) (hs : a.eval s = .slice none 0 0) (A : Option Addr) (len cap : Nat) (zs : List Int) (hx : a.eval x = .slice A len cap) (hv : SliceView w .i64 A len cap zs) (hfew : len * 8 ≤ many)
    (h : ∀ A' cap' w', Hid (SliceView w' .i64 A' len cap' zs) → Hid (Below w.heap.size w w') → Hid (∀ a, A' = some a → w.heap.size ≤ a.block) → wpList Tryz.prog ops Q rest (a.put o.dst (.slice A' len cap')) w') : wpList Tryz.prog ops Q (o :: rest) a w := by
  obtain ⟨i, hi, hz, hs1, hb⟩ : ∃ i, Tryz.prog.info? 3 = some i ∧ i.zero = some (.int .i64 0) ∧ i.size = 1 ∧ i.bytes = 8 := by
    have h := info3
    cases hq : Tryz.prog.info? 3 with
    | none => rw [hq] at h; cases h
    | some i => rw [hq] at h; simp at h; exact ⟨i, rfl, h.1, h.2.1, h.2.2⟩
  have hv' := hv
  obtain ⟨h1, h2, h3, h4, h5, h6⟩ := hv
  unfold many at hfew
  cases A with
  | none =>
    obtain ⟨rfl, rfl⟩ := h4 rfl
    exact wpList_append_own_none hgd s x 39 ho 0 3 i 1 Tryz.underlying39 hi (.slice none 0 0) 0 [] hs ⟨rfl, .inl ⟨rfl, rfl⟩⟩ hx (h none 0 w hv' (Below.refl _ _) (fun a ha => by cases ha))
  | some ad =>
    refine wpList_append_own w hgd s x 39 ho w.heap.size 3 i (.int .i64 0) 1 8 Tryz.underlying39 hi hz hs1 hb rfl (by decide) (.slice none 0 0) 0 [] hs ⟨rfl, .inl ⟨rfl, rfl⟩⟩ ad len cap (zs.map (Value.int .i64)) hx (by simp [h1]) ?_ ?_ (by unfold maxLen; omega) (by omega) (Nat.le_refl _) ?_
    · intro j u hj
      have hjl : j < zs.length := by have := (List.getElem?_eq_some_iff.1 hj).1; simpa using this
      obtain ⟨b, off, e, _, hc⟩ := h5 j (by omega)
      injection e with e
      subst e
      rw [add_plain, hc]
      simp [List.getElem?_eq_getElem hjl] at hj
      rw [← hj]
      simp [List.getD, hjl]
    · intro u hu
      obtain ⟨y, _, rfl⟩ := List.mem_map.1 hu
      rfl
    · intro v' w' hown hg _
      rw [Nat.zero_add] at hown
      have hown' := hown
      rcases hown.2 with ⟨rfl, h0⟩ | ⟨g, c2, cur, rfl, hnew, hgd2, hl2, hm2, _⟩
      · subst h0
        exact h none 0 w' ⟨h1, Nat.le_refl _, Nat.zero_le _, fun _ => ⟨rfl, rfl⟩, fun t ht => by omega, h6⟩ ((Below.refl _ w).grown hg (Nat.le_refl _) (fun k hk => by cases hk)) (fun a ha => by cases ha)
      · refine h _ c2 w' ⟨h1, hl2, hm2, (fun h => by cases h), fun t ht => ⟨g, 0, rfl, (Array.getElem?_eq_some_iff.1 hgd2).1, ?_⟩, h6⟩ ((Below.refl _ w).grown hg (Nat.le_refl _) (fun k hk => by cases hk)) (fun a ha => by cases ha; exact hnew)
        have := hown'.cells (g := g) rfl t (.int .i64 (zs.getD t 0)) (by simp [List.getD, h1, ht])
        rw [add_plain] at this
        exact this

theorem Did.before {D : Disks} {O : Nat → Prop} {w w1 w' : World} {g : Nat} {r : Dsk × Nat} {e : Ending} (hb : Below w.heap.size w w1) (h : Did D O w1 g r e w') : Did D O w g r e w' := by
  obtain ⟨he, O', hd, ho, hO⟩ := h
  refine ⟨he, O', hd, (hb.only O).trans ho (fun i hi => Or.inl hi), fun k hk => ?_⟩
  rcases hO k hk with h | h
  · exact Or.inl h
  · exact Or.inr (Nat.le_trans hb.size h)

end Go.Proofs.YtikbokbmaihdbaaGreatDoor

namespace Go.Proofs.YtikbokbmaihdbaaGreatDoor
open Go.RowKit Go.ChangeShapes Go.WideShapes

/-- 'L Q w x g n l': at block x lies, in w, a log l of the file n of the disk at g; its own blocks are Q. -/
abbrev Logs := (Nat → Prop) → World → Nat → Nat → ByteArray → Lg → Prop

/-- What Open leaves. -/
def Opened (D : Disks) (L : Logs) (O : Nat → Prop) (w : World) (g : Nat) (n : ByteArray) (r : Dsk × Nat × List ByteArray) (e : Ending) (w' : World) : Prop :=
  ∃ O', D O' w' g r.1 ∧ Only O w w' ∧ (∀ k, O' k → O k ∨ w.heap.size ≤ k) ∧
    ((r.2.1 = 0 ∧ ∃ x Q A c, e = .returned (.tuple #[ptr x, .slice A r.2.2.length c, .int .i64 0]) ∧ L Q w' x g n ⟨r.2.2, r.2.2.length, false⟩ ∧ (∀ k, Q k → w.heap.size ≤ k) ∧ (∀ k, O' k → ¬ Q k) ∧ Strs w' A r.2.2.length r.2.2 ∧ (A = none → c = 0)) ∨
     (r.2.1 ≠ 0 ∧ ∃ A c, e = .returned (.tuple #[.pointer none, .slice A 0 c, .int .i64 (r.2.1 : Nat)])))
/-- What Append and Sync leave. -/
def Put (D : Disks) (L : Logs) (O Q : Nat → Prop) (w : World) (x g : Nat) (n : ByteArray) (r : Dsk × Lg × Nat) (e : Ending) (w' : World) : Prop :=
  e = .returned (.int .i64 (r.2.2 : Nat)) ∧ ∃ O' Q', D O' w' g r.1 ∧ L Q' w' x g n r.2.1 ∧ Only (fun k => O k ∨ Q k) w w' ∧ (∀ k, O' k → O k ∨ w.heap.size ≤ k) ∧ (∀ k, Q' k → Q k ∨ w.heap.size ≤ k) ∧ ∀ k, O' k → ¬ Q' k

structure LDoor (D : Disks) (L : Logs) : Prop where
  stays : ∀ {Q w w' x g n l}, L Q w x g n l → (∀ k, Q k → w'.heap[k]? = w.heap[k]?) → L Q w' x g n l
  own : ∀ {Q w x g n l}, L Q w x g n l → ∀ k, Q k → k < w.heap.size
  opens : ∀ {O w g σ} (n : ByteArray), D O w g σ → σ.room ≤ 1048576 → n.size ≤ many → Hid (Tab w) → Calls Tryz.prog 8 #[ptr g, .string n] w (Opened D L O w g n (lopen σ n))
  append : ∀ {O Q w x g σ n l} (A : Option Addr) (c : Nat) (rs : List ByteArray), D O w g σ → L Q w x g n l → (∀ k, O k → ¬ Q k) → σ.room ≤ 1048576 → Hid (Tab w) → Strs w A rs.length rs → rs.length ≤ c → c ≤ maxLen → (∀ ad, A = some ad → ¬ O ad.block ∧ ¬ Q ad.block) → (frs rs).length ≤ 1048576 → (frs l.recs).length ≤ 1099511627776 →
    Calls Tryz.prog 10 #[ptr x, .slice A rs.length c] w (Put D L O Q w x g n (lappend σ n l rs))
  sync : ∀ {O Q w x g σ n l}, D O w g σ → L Q w x g n l → (∀ k, O k → ¬ Q k) → Calls Tryz.prog 12 #[ptr x] w (Put D L O Q w x g n (lsync σ n l))
  len : ∀ {Q w x g n l}, L Q w x g n l → Calls Tryz.prog 18 #[ptr x] w fun e w' => e = .returned (.int .i64 (llen l : Nat)) ∧ Below w.heap.size w w'
  count : ∀ {Q w x g n l}, L Q w x g n l → Calls Tryz.prog 20 #[ptr x] w fun e w' => e = .returned (.int .i64 (l.recs.length : Nat)) ∧ Below w.heap.size w w'
  sure : ∀ {Q w x g n l}, L Q w x g n l → Calls Tryz.prog 21 #[ptr x] w fun e w' => e = .returned (.int .i64 (l.sure : Nat)) ∧ Below w.heap.size w w'

/-- A disk, and a log on it, both made since w0; the blocks F are another's. -/
def Both (D : Disks) (L : Logs) (w0 w : World) (g : Nat) (σ : Dsk) (x : Nat) (n : ByteArray) (l : Lg) (F : Nat → Prop) : Prop :=
  ∃ O Q, D O w g σ ∧ L Q w x g n l ∧ (∀ k, O k → ¬ Q k) ∧ (∀ k, O k → w0.heap.size ≤ k) ∧ (∀ k, Q k → w0.heap.size ≤ k) ∧ Below w0.heap.size w0 w ∧ ∀ k, F k → k < w.heap.size ∧ ¬ O k ∧ ¬ Q k
/-- A disk made since w0, beside the blocks F. -/
def Lone (D : Disks) (w0 w : World) (g : Nat) (σ : Dsk) (F : Nat → Prop) : Prop :=
  ∃ O, D O w g σ ∧ (∀ k, O k → w0.heap.size ≤ k) ∧ Below w0.heap.size w0 w ∧ ∀ k, F k → k < w.heap.size ∧ ¬ O k
def noF : Nat → Prop := fun _ => False
/-- F's blocks are as they were. -/
def Kept (F : Nat → Prop) (w w' : World) : Prop := ∀ k, F k → w'.heap[k]? = w.heap[k]?
/-- What Open leaves, told from outside. -/
def Opens (D : Disks) (L : Logs) (w0 : World) (g : Nat) (n : ByteArray) (F : Nat → Prop) (r : Dsk × Nat × List ByteArray) (e : Ending) (w' : World) : Prop :=
  (r.2.1 = 0 ∧ ∃ x A c, e = .returned (.tuple #[ptr x, .slice A r.2.2.length c, .int .i64 0]) ∧ Both D L w0 w' g r.1 x n ⟨r.2.2, r.2.2.length, false⟩ F ∧ Strs w' A r.2.2.length r.2.2 ∧ (A = none → c = 0)) ∨
  (r.2.1 ≠ 0 ∧ ∃ A c, e = .returned (.tuple #[.pointer none, .slice A 0 c, .int .i64 (r.2.1 : Nat)]) ∧ Lone D w0 w' g r.1 F)

section
variable {D : Disks} {L : Logs} {w0 w : World} {g x : Nat} {σ : Dsk} {n : ByteArray} {l : Lg} {F : Nat → Prop}
theorem Both.bel (h : Both D L w0 w g σ x n l F) : Below w0.heap.size w0 w := by obtain ⟨_, _, _, _, _, _, _, hb, _⟩ := h; exact hb
theorem Both.lone (h : Both D L w0 w g σ x n l F) : Lone D w0 w g σ F := by
  obtain ⟨O, Q, hd, _, _, hO, _, hb, hF⟩ := h
  exact ⟨O, hd, hO, hb, fun k hk => ⟨(hF k hk).1, (hF k hk).2.1⟩⟩
theorem Lone.bel (h : Lone D w0 w g σ F) : Below w0.heap.size w0 w := by obtain ⟨_, _, _, hb, _⟩ := h; exact hb
theorem Lone.mine (h : Lone D w0 w g σ F) : Mine D w0 w g σ := by
  obtain ⟨O, hd, hO, hb, _⟩ := h
  exact ⟨O, hd, hO, hb⟩
theorem Mine.lone (h : Mine D w0 w g σ) : Lone D w0 w g σ noF := by
  obtain ⟨O, hd, hO, hb⟩ := h
  exact ⟨O, hd, hO, hb, fun k hk => hk.elim⟩
theorem tab_later {w0 w : World} (hT : Hid (Tab w0)) (hb : Below w0.heap.size w0 w) : Hid (Tab w) := hT.out.below hb
/-- Other blocks in the others' place: they are there, and new since a world in which the disk and the log were there; or they were there as others'. -/
theorem Lone.frame (hD : DoorB D) {w' : World} {F' : Nat → Prop} (h : Lone D w0 w g σ F) (hb : Below w.heap.size w w' ∨ (Below w0.heap.size w0 w' ∧ ∀ k, k < w.heap.size → ¬ F k → w'.heap[k]? = w.heap[k]?)) (hF : ∀ k, F' k → k < w'.heap.size ∧ (F k ∨ w.heap.size ≤ k)) : Lone D w0 w' g σ F' := by
  obtain ⟨O, hd, hO, hb0, hf⟩ := h
  have hk : ∀ k, O k → w'.heap[k]? = w.heap[k]? := fun k hk => by
    rcases hb with hb | hb
    · exact hb.block k (hD.own hd k hk)
    · exact hb.2 k (hD.own hd k hk) (fun h1 => (hf k h1).2 hk)
  have hbel : Below w0.heap.size w0 w' := by
    rcases hb with hb | hb
    · exact hb0.trans (hb.mono hb0.size)
    · exact hb.1
  refine ⟨O, hD.stays hd hk, hO, hbel, fun k hk' => ⟨(hF k hk').1, fun ho => ?_⟩⟩
  rcases (hF k hk').2 with h1 | h1
  · exact (hf k h1).2 ho
  · have := hD.own hd k ho; omega

variable (hD : DoorB D) (hL : LDoor D L)
include hD hL
theorem Both.frame {w' : World} {F' : Nat → Prop} (h : Both D L w0 w g σ x n l F) (hb : Below w.heap.size w w' ∨ (Below w0.heap.size w0 w' ∧ ∀ k, k < w.heap.size → ¬ F k → w'.heap[k]? = w.heap[k]?)) (hF : ∀ k, F' k → k < w'.heap.size ∧ (F k ∨ w.heap.size ≤ k)) : Both D L w0 w' g σ x n l F' := by
  obtain ⟨O, Q, hd, hl, hx, hO, hQ, hb0, hf⟩ := h
  have hk : ∀ k, k < w.heap.size → ¬ F k → w'.heap[k]? = w.heap[k]? := fun k hk hn => by
    rcases hb with hb | hb
    · exact hb.block k hk
    · exact hb.2 k hk hn
  have hbel : Below w0.heap.size w0 w' := by
    rcases hb with hb | hb
    · exact hb0.trans (hb.mono hb0.size)
    · exact hb.1
  refine ⟨O, Q, hD.stays hd (fun k h1 => hk k (hD.own hd k h1) (fun h2 => (hf k h2).2.1 h1)), hL.stays hl (fun k h1 => hk k (hL.own hl k h1) (fun h2 => (hf k h2).2.2 h1)), hx, hO, hQ, hbel, fun k hk' => ⟨(hF k hk').1, fun ho => ?_, fun hq => ?_⟩⟩
  · rcases (hF k hk').2 with h1 | h1
    · exact (hf k h1).2.1 ho
    · have := hD.own hd k ho; omega
  · rcases (hF k hk').2 with h1 | h1
    · exact (hf k h1).2.2 hq
    · have := hL.own hl k hq; omega
theorem Both.below {w' : World} (h : Both D L w0 w g σ x n l F) (hb : Below w.heap.size w w') : Both D L w0 w' g σ x n l F := by
  have hf : ∀ k, F k → k < w'.heap.size ∧ (F k ∨ w.heap.size ≤ k) := by
    obtain ⟨O, Q, _, _, _, _, _, _, hf⟩ := h
    exact fun k hk => ⟨Nat.lt_of_lt_of_le (hf k hk).1 hb.size, Or.inl hk⟩
  exact Both.frame hD hL h (Or.inl hb) hf
omit hL in
theorem Lone.below {w' : World} (h : Lone D w0 w g σ F) (hb : Below w.heap.size w w') : Lone D w0 w' g σ F := by
  have hf : ∀ k, F k → k < w'.heap.size ∧ (F k ∨ w.heap.size ≤ k) := by
    obtain ⟨O, _, _, _, hf⟩ := h
    exact fun k hk => ⟨Nat.lt_of_lt_of_le (hf k hk).1 hb.size, Or.inl hk⟩
  exact h.frame hD (Or.inl hb) hf
omit hD in
/-- Behind a call on the disk alone. -/
theorem Both.turned {f : FuncId} {args : Array Value} {r : Dsk × Nat} (h : Both D L w0 w g σ x n l F) (hc : ∀ O, D O w g σ → (∀ k, O k → w0.heap.size ≤ k) → Calls Tryz.prog f args w (Did D O w g r)) :
    Calls Tryz.prog f args w fun e w' => e = .returned (.int .i64 (r.2 : Nat)) ∧ Both D L w0 w' g r.1 x n l F ∧ Kept F w w' := by
  obtain ⟨O, Q, hd, hl, hx, hO, hQ, hb, hF⟩ := h
  refine (hc O hd hO).mono ?_
  rintro e w' ⟨rfl, O', hd', ho, hn⟩
  have hs := hb.size
  refine ⟨rfl, ⟨O', Q, hd', hL.stays hl (fun k hk => ho.block k (hL.own hl k hk) (fun h1 => hx k h1 hk)), fun k hk hq => ?_, fun k hk => ?_, hQ, hb.trans (ho.below hO hs), fun k hk => ⟨Nat.lt_of_lt_of_le (hF k hk).1 ho.size, fun h1 => ?_, (hF k hk).2.2⟩⟩, fun k hk => ho.block k (hF k hk).1 (hF k hk).2.1⟩
  · rcases hn k hk with h1 | h1
    · exact hx k h1 hq
    · have := hL.own hl k hq; omega
  · rcases hn k hk with h1 | h1
    · exact hO k h1
    · omega
  · rcases hn k h1 with h2 | h2
    · exact (hF k hk).2.1 h2
    · have := (hF k hk).1; omega
omit hD hL in
theorem Lone.turned {f : FuncId} {args : Array Value} {r : Dsk × Nat} (h : Lone D w0 w g σ F) (hc : ∀ O, D O w g σ → (∀ k, O k → w0.heap.size ≤ k) → Calls Tryz.prog f args w (Did D O w g r)) :
    Calls Tryz.prog f args w fun e w' => e = .returned (.int .i64 (r.2 : Nat)) ∧ Lone D w0 w' g r.1 F ∧ Kept F w w' := by
  obtain ⟨O, hd, hO, hb, hF⟩ := h
  refine (hc O hd hO).mono ?_
  rintro e w' ⟨rfl, O', hd', ho, hn⟩
  have hs := hb.size
  refine ⟨rfl, ⟨O', hd', fun k hk => ?_, hb.trans (ho.below hO hs), fun k hk => ⟨Nat.lt_of_lt_of_le (hF k hk).1 ho.size, fun h1 => ?_⟩⟩, fun k hk => ho.block k (hF k hk).1 (hF k hk).2⟩
  · rcases hn k hk with h1 | h1
    · exact hO k h1
    · omega
  · rcases hn k h1 with h2 | h2
    · exact (hF k hk).2 h2
    · have := (hF k hk).1; omega
omit hD in
theorem lopen_at (n : ByteArray) (h : Lone D w0 w g σ F) (hr : σ.room ≤ 1048576) (hn : n.size ≤ many) (hT : Hid (Tab w0)) : Calls Tryz.prog 8 #[ptr g, .string n] w fun e w' => Opens D L w0 g n F (lopen σ n) e w' ∧ Kept F w w' := by
  obtain ⟨O, hd, hO, hb, hF⟩ := h
  refine (hL.opens n hd hr hn (tab_later hT hb)).mono ?_
  rintro e w' ⟨O', hd', ho, hn', hc⟩
  have hs := hb.size
  have hO' : ∀ k, O' k → w0.heap.size ≤ k := fun k hk => by
    rcases hn' k hk with h1 | h1
    · exact hO k h1
    · omega
  have hF' : ∀ k, F k → k < w'.heap.size ∧ ¬ O' k := fun k hk => ⟨Nat.lt_of_lt_of_le (hF k hk).1 ho.size, fun h1 => by
    rcases hn' k h1 with h2 | h2
    · exact (hF k hk).2 h2
    · have := (hF k hk).1; omega⟩
  have hb' := hb.trans (ho.below hO hs)
  refine ⟨?_, fun k hk => ho.block k (hF k hk).1 (hF k hk).2⟩
  rcases hc with ⟨h0, x, Q, A, c, he, hl, hQ, hx, hst⟩ | ⟨h0, A, c, he⟩
  · exact Or.inl ⟨h0, x, A, c, he, ⟨O', Q, hd', hl, hx, hO', fun k hk => Nat.le_trans hs (hQ k hk), hb', fun k hk => ⟨(hF' k hk).1, (hF' k hk).2, fun hq => by have := hQ k hq; have := (hF k hk).1; omega⟩⟩, hst⟩
  · exact Or.inr ⟨h0, A, c, he, ⟨O', hd', hO', hb', hF'⟩⟩
omit hD in
/-- .. where there is another log already: it stays. -/
theorem lopen_both (m : ByteArray) (h : Both D L w0 w g σ x n l F) (hr : σ.room ≤ 1048576) (hm : m.size ≤ many) (hT : Hid (Tab w0)) : Calls Tryz.prog 8 #[ptr g, .string m] w fun e w' =>
    Both D L w0 w' g (lopen σ m).1 x n l F ∧ Opens D L w0 g m F (lopen σ m) e w' ∧ Kept F w w' := by
  obtain ⟨O, Q, hd, hl, hx, hO, hQ, hb, hF⟩ := h
  refine (hL.opens m hd hr hm (tab_later hT hb)).mono ?_
  rintro e w' ⟨O', hd', ho, hn', hc⟩
  have hs := hb.size
  have hO' : ∀ k, O' k → w0.heap.size ≤ k := fun k hk => by
    rcases hn' k hk with h1 | h1
    · exact hO k h1
    · omega
  have hF' : ∀ k, F k → k < w'.heap.size ∧ ¬ O' k := fun k hk => ⟨Nat.lt_of_lt_of_le (hF k hk).1 ho.size, fun h1 => by
    rcases hn' k h1 with h2 | h2
    · exact (hF k hk).2.1 h2
    · have := (hF k hk).1; omega⟩
  have hb' := hb.trans (ho.below hO hs)
  refine ⟨⟨O', Q, hd', hL.stays hl (fun k hk => ho.block k (hL.own hl k hk) (fun h1 => hx k h1 hk)), fun k hk hq => ?_, hO', hQ, hb', fun k hk => ⟨(hF' k hk).1, (hF' k hk).2, (hF k hk).2.2⟩⟩, ?_, fun k hk => ho.block k (hF k hk).1 (hF k hk).2.1⟩
  · rcases hn' k hk with h1 | h1
    · exact hx k h1 hq
    · have := hL.own hl k hq; omega
  · rcases hc with ⟨h0, y, Q', A, c, he, hl', hQ', hx', hst⟩ | ⟨h0, A, c, he⟩
    · exact Or.inl ⟨h0, y, A, c, he, ⟨O', Q', hd', hl', hx', hO', fun k hk => Nat.le_trans hs (hQ' k hk), hb', fun k hk => ⟨(hF' k hk).1, (hF' k hk).2, fun hq => by have := hQ' k hq; have := (hF k hk).1; omega⟩⟩, hst⟩
    · exact Or.inr ⟨h0, A, c, he, ⟨O', hd', hO', hb', hF'⟩⟩
omit hD hL in
theorem put_both {f : FuncId} {args : Array Value} {r : Dsk × Lg × Nat} {O Q : Nat → Prop} (hO : ∀ k, O k → w0.heap.size ≤ k) (hQ : ∀ k, Q k → w0.heap.size ≤ k) (hb : Below w0.heap.size w0 w) (hF : ∀ k, F k → k < w.heap.size ∧ ¬ O k ∧ ¬ Q k) (hc : Calls Tryz.prog f args w (Put D L O Q w x g n r)) :
    Calls Tryz.prog f args w fun e w' => e = .returned (.int .i64 (r.2.2 : Nat)) ∧ Both D L w0 w' g r.1 x n r.2.1 F ∧ Kept F w w' := by
  refine hc.mono ?_
  rintro e w' ⟨rfl, O', Q', hd, hl, ho, hO', hQ', hx⟩
  have hs := hb.size
  refine ⟨rfl, ⟨O', Q', hd, hl, hx, fun k hk => ?_, fun k hk => ?_, hb.trans (ho.below (fun k hk => by rcases hk with h1 | h1; exact hO k h1; exact hQ k h1) hs), fun k hk => ⟨Nat.lt_of_lt_of_le (hF k hk).1 ho.size, fun h1 => ?_, fun h1 => ?_⟩⟩, fun k hk => ho.block k (hF k hk).1 (fun h1 => by rcases h1 with h2 | h2; exact (hF k hk).2.1 h2; exact (hF k hk).2.2 h2)⟩
  · rcases hO' k hk with h1 | h1
    · exact hO k h1
    · omega
  · rcases hQ' k hk with h1 | h1
    · exact hQ k h1
    · omega
  · rcases hO' k h1 with h2 | h2
    · exact (hF k hk).2.1 h2
    · have := (hF k hk).1; omega
  · rcases hQ' k h1 with h2 | h2
    · exact (hF k hk).2.2 h2
    · have := (hF k hk).1; omega
/-- With records that lie in a row which is new, or was there ahead of both. -/
theorem lappend_at (h : Both D L w0 w g σ x n l F) (hr : σ.room ≤ 1048576) (hT : Hid (Tab w0)) {w' : World} (hb' : Below w.heap.size w w') (A : Option Addr) (c : Nat) (rs : List ByteArray) (hst : Strs w' A rs.length rs) (hlc : rs.length ≤ c) (hcm : c ≤ maxLen) (hA : ∀ ad, A = some ad → ad.block < w0.heap.size ∨ w.heap.size ≤ ad.block) (hf : (frs rs).length ≤ 1048576) (hlb : (frs l.recs).length ≤ 1099511627776) :
    Calls Tryz.prog 10 #[ptr x, .slice A rs.length c] w' fun e w'' => e = .returned (.int .i64 ((lappend σ n l rs).2.2 : Nat)) ∧ Both D L w0 w'' g (lappend σ n l rs).1 x n (lappend σ n l rs).2.1 F ∧ Kept F w' w'' := by
  obtain ⟨O, Q, hd, hl, hx, hO, hQ, hb, hF⟩ := h
  have hd' := hD.below hd hb'
  have hl' := hL.stays hl (fun k hk => hb'.block k (hL.own hl k hk))
  have hbb := hb.trans (hb'.mono hb.size)
  refine put_both hO hQ hbb (fun k hk => ⟨Nat.lt_of_lt_of_le (hF k hk).1 hb'.size, (hF k hk).2⟩) (hL.append A c rs hd' hl' hx hr (tab_later hT hbb) hst hlc hcm (fun ad had => ⟨fun ho => ?_, fun hq => ?_⟩) hf hlb)
  · have h1 := hO _ ho
    have h2 := hD.own hd _ ho
    rcases hA ad had with h3 | h3 <;> omega
  · have h1 := hQ _ hq
    have h2 := hL.own hl _ hq
    rcases hA ad had with h3 | h3 <;> omega
omit hD in
theorem lsync_at (h : Both D L w0 w g σ x n l F) : Calls Tryz.prog 12 #[ptr x] w fun e w' => e = .returned (.int .i64 ((lsync σ n l).2.2 : Nat)) ∧ Both D L w0 w' g (lsync σ n l).1 x n (lsync σ n l).2.1 F ∧ Kept F w w' := by
  obtain ⟨O, Q, hd, hl, hx, hO, hQ, hb, hF⟩ := h
  exact put_both hO hQ hb hF (hL.sync hd hl hx)
omit hD in
theorem llen_at (h : Both D L w0 w g σ x n l F) : Calls Tryz.prog 18 #[ptr x] w fun e w' => e = .returned (.int .i64 (llen l : Nat)) ∧ Below w.heap.size w w' := by
  obtain ⟨O, Q, hd, hl, _⟩ := h
  exact hL.len hl
omit hD in
theorem lcount_at (h : Both D L w0 w g σ x n l F) : Calls Tryz.prog 20 #[ptr x] w fun e w' => e = .returned (.int .i64 (l.recs.length : Nat)) ∧ Below w.heap.size w w' := by
  obtain ⟨O, Q, hd, hl, _⟩ := h
  exact hL.count hl
omit hD in
theorem lsure_at (h : Both D L w0 w g σ x n l F) : Calls Tryz.prog 21 #[ptr x] w fun e w' => e = .returned (.int .i64 (l.sure : Nat)) ∧ Below w.heap.size w w' := by
  obtain ⟨O, Q, hd, hl, _⟩ := h
  exact hL.sure hl
end

/-- What no log answers, and Open where there is no disk. -/
structure LShut : Prop where
  opens : ∀ (n : ByteArray) (w : World), n.size ≤ many → Calls Tryz.prog 8 #[.pointer none, .string n] w fun e w' => (∃ A c, e = .returned (.tuple #[.pointer none, .slice A 0 c, .int .i64 1])) ∧ Below w.heap.size w w'
  append : ∀ (A : Option Addr) (k c : Nat) (w : World), k ≤ c → Calls Tryz.prog 10 #[.pointer none, .slice A k c] w fun e w' => e = .returned (.int .i64 1) ∧ Below w.heap.size w w'
  sync : ∀ (w : World), Calls Tryz.prog 12 #[.pointer none] w fun e w' => e = .returned (.int .i64 1) ∧ Below w.heap.size w w'
  len : ∀ (w : World), Calls Tryz.prog 18 #[.pointer none] w fun e w' => e = .returned (.int .i64 0) ∧ Below w.heap.size w w'
  count : ∀ (w : World), Calls Tryz.prog 20 #[.pointer none] w fun e w' => e = .returned (.int .i64 0) ∧ Below w.heap.size w w'
  sure : ∀ (w : World), Calls Tryz.prog 21 #[.pointer none] w fun e w' => e = .returned (.int .i64 0) ∧ Below w.heap.size w w'

end Go.Proofs.YtikbokbmaihdbaaGreatDoor

namespace Go.Proofs.YtikbokbmaihdbaaGreatDoor
open Go.RowKit Go.ChangeShapes Go.WideShapes

abbrev rA : ByteArray := ⟨#[97]⟩
abbrev rB : ByteArray := ⟨#[98]⟩
abbrev rC : ByteArray := ⟨#[99]⟩
def two : ByteArray := str (frs [rA, rB])
def one : ByteArray := str (frs [rC])
theorem two_len : (frs [rA, rB]).length = 18 := by simp [frs, fr_len]
theorem one_len : (frs [rC]).length = 9 := by simp [frs, fr_len]
theorem two_size : two.size = 18 := by rw [two, str_size, two_len]
theorem short_two : ∀ r ∈ [rA, rB], r.size ≤ 1048576 := by
  intro r hr
  simp only [List.mem_cons, List.not_mem_nil, or_false] at hr
  rcases hr with rfl | rfl <;> decide
theorem short_one : ∀ r ∈ [rC], r.size ≤ 1048576 := by
  intro r hr
  simp only [List.mem_cons, List.not_mem_nil, or_false] at hr
  subst hr
  decide
theorem lw1 : lopen ⟨1000, none, []⟩ rA = (⟨1000, none, [(rA, ⟨⟨#[]⟩, 0, false⟩)]⟩, 0, []) := lopen_new List.Pairwise.nil rfl rfl rfl (by decide)
theorem lw2 : lappend ⟨1000, none, [(rA, ⟨⟨#[]⟩, 0, false⟩)]⟩ rA ⟨[], 0, false⟩ [rA, rB] = (⟨1000, none, [(rA, ⟨two, 18, false⟩)]⟩, ⟨[rA, rB], 0, false⟩, 0) := by
  rw [lappend_fits (f := ⟨⟨#[]⟩, 0, false⟩) rfl rfl rfl short_two (by simp) (by rw [two_len]; decide), two_len]
  rfl
theorem lw3 : lsync ⟨1000, none, [(rA, ⟨two, 18, false⟩)]⟩ rA ⟨[rA, rB], 0, false⟩ = (⟨1000, none, [(rA, ⟨two, 0, false⟩)]⟩, ⟨[rA, rB], 2, false⟩, 0) := by
  rw [lsync_fine (f := ⟨two, 18, false⟩) rfl rfl rfl]
  rfl
theorem lw4 : lappend ⟨1000, none, [(rA, ⟨two, 0, false⟩)]⟩ rA ⟨[rA, rB], 2, false⟩ [rC] = (⟨1000, none, [(rA, ⟨two ++ one, 9, false⟩)]⟩, ⟨[rA, rB, rC], 2, false⟩, 0) := by
  rw [lappend_fits (f := ⟨two, 0, false⟩) rfl rfl rfl short_one (by simp) (by rw [one_len]; show used [(rA, (⟨two, 0, false⟩ : Fil))] + 9 ≤ 1000; simp [used, two_size]), one_len]
  rfl
theorem lw5 : crash ⟨1000, none, [(rA, ⟨two ++ one, 9, false⟩)]⟩ [] = (⟨1000, none, [(rA, ⟨two, 0, false⟩)]⟩, 0) := by
  have hs : (two ++ one).size = 27 := by rw [ByteArray.size_append, two_size, one, str_size, one_len]
  have e : (two ++ one).extract 0 18 = two := by
    rw [← two_size]
    apply ByteArray.ext
    simp
  unfold crash crs kept
  rw [if_neg (by simp), if_neg (by simp), hs]
  have e2 : 27 - 9 + min (([] : List Int).headD (-1)).toNat 9 = 18 := by decide
  rw [e2, e]
  rfl
theorem lw6 : lopen ⟨1000, none, [(rA, ⟨two, 0, false⟩)]⟩ rA = (⟨1000, none, [(rA, ⟨two, 0, false⟩)]⟩, 0, [rA, rB]) := by
  rw [lopen_old (f := ⟨two, 0, false⟩) (ts := [rA, rB]) (er := 0) rfl rfl (by rw [two_size, two, scan_frs _ short_two, two_len])]
  rfl
theorem lw7 : llen ⟨[rA, rB, rC], 2, false⟩ = 27 := by simp [llen, frs, fr_len]

theorem one_row (w : World) (s : ByteArray) (t : TypeId) : Strs (w.alloc (.cells #[.string s] t)) (some ⟨w.heap.size, 0, none⟩) 1 [s] := by
  refine ⟨rfl, fun i hi => ⟨w.heap.size, 0, rfl, by simp, ?_⟩⟩
  obtain rfl : i = 0 := by simpa using hi
  rw [cell_of_row _ _ _ _ _ _ (heap_alloc_new w _)]
  rfl
theorem two_row (w : World) (s u : ByteArray) (t : TypeId) : Strs (w.alloc (.cells #[.string s, .string u] t)) (some ⟨w.heap.size, 0, none⟩) 2 [s, u] := by
  refine ⟨rfl, fun i hi => ⟨w.heap.size, 0, rfl, by simp, ?_⟩⟩
  have hi' : i < 2 := hi
  rw [cell_of_row _ _ _ _ _ _ (heap_alloc_new w _)]
  match i, hi' with
  | 0, _ => rfl
  | 1, _ => rfl

set_option maxRecDepth 100000 in
set_option maxHeartbeats 2000000 in
theorem lworks_any {D : Disks} {L : Logs} (hD : DoorB D) (hL : LDoor D L) (w : World) (hT : Hid (Tab w)) : Calls Tryz.prog 5 #[] w fun e w' => e = .returned (.bool true) ∧ Below w.heap.size w w' := by
  have HD := Lib.hid hD
  have HL := Lib.hid hL
  clear hD hL
  go_enter Tryz.func5, Tryz.ntmps5
  go_wp2_with fail
  refine (new_at HD.out (Below.refl _ _) 1000 (by decide)).mono ?_
  rintro e w1 ⟨g, rfl, hm, _⟩
  have M1 := Lib.hid hm
  clear hm
  go_wp2_with fail
  have K := lopen_at HL.out rA M1.out.lone (by decide) (by decide) hT
  rw [lw1] at K
  refine K.mono ?_
  rintro e w2 ⟨⟨_, x, A, c, rfl, hb, _⟩ | ⟨h0, _⟩, _⟩
  case inr => exact absurd rfl h0
  have B2 : Hid (Both D L w w2 g _ x rA ⟨[], 0, false⟩ noF) := hb
  clear hb M1 K
  go_wp2_with fail
  have K := lappend_at HD.out HL.out B2.out (by decide) hT ((Below.refl _ _).alloc (Nat.le_refl _) (.cells #[.string rA, .string rB] 9)) _ 2 [rA, rB] (two_row w2 rA rB 9) (by decide) (by decide) (fun ad had => by cases had; exact Or.inr (Nat.le_refl _)) (by rw [two_len]; decide) (Nat.zero_le _)
  simp only [List.length_cons, List.length_nil, Nat.zero_add, Nat.reduceAdd] at K
  rw [lw2] at K
  refine K.mono ?_
  rintro e w3 ⟨rfl, hb, _⟩
  have B3 := Lib.hid hb
  clear hb B2 K
  go_wp2_with fail
  have K := lsync_at HL.out B3.out
  rw [lw3] at K
  refine K.mono ?_
  rintro e w4 ⟨rfl, hb, _⟩
  have B4 := Lib.hid hb
  clear hb B3 K
  go_wp2_with fail
  have K := lappend_at HD.out HL.out B4.out (by decide) hT ((Below.refl _ _).alloc (Nat.le_refl _) (.cells #[.string rC] 9)) _ 1 [rC] (one_row w4 rC 9) (by decide) (by decide) (fun ad had => by cases had; exact Or.inr (Nat.le_refl _)) (by rw [one_len]; decide) (show (frs [rA, rB]).length ≤ _ by rw [two_len]; decide)
  simp only [List.length_cons, List.length_nil, Nat.zero_add] at K
  rw [lw4] at K
  refine K.mono ?_
  rintro e w5 ⟨rfl, hb, _⟩
  have B5 := Lib.hid hb
  clear hb B4 K
  go_wp2_with fail
  refine (lcount_at HL.out B5.out).mono ?_
  rintro e w6 ⟨rfl, hb⟩
  have B6 := Lib.hid (B5.out.below HD.out HL.out hb)
  clear hb B5
  go_wp2_with fail
  refine (lsure_at HL.out B6.out).mono ?_
  rintro e w7 ⟨rfl, hb⟩
  have B7 := Lib.hid (B6.out.below HD.out HL.out hb)
  clear hb B6
  go_wp2_with fail
  have K := B7.out.turned HL.out (f := 22) (args := #[ptr g, .slice none 0 0]) (fun O hd _ => HD.out.crash none 0 0 [] hd ⟨rfl, Nat.le_refl _, Nat.zero_le _, fun _ => ⟨rfl, rfl⟩, fun t ht => by omega, fun n hn => by cases hn⟩ (fun a ha => by cases ha) (by decide))
  rw [lw5] at K
  refine K.mono ?_
  rintro e w8 ⟨rfl, hb, _⟩
  have B8 := Lib.hid hb
  clear hb B7 K
  go_wp2_with fail
  have K := lopen_both HL.out rA B8.out (by decide) (by decide) hT
  rw [lw6] at K
  refine K.mono ?_
  rintro e w9 ⟨hb, ⟨_, x2, A2, c2, rfl, _, hst, _⟩ | ⟨h0, _⟩, _⟩
  case inr => exact absurd rfl h0
  have B9 := Lib.hid hb
  obtain ⟨q1, o1, hA1, _, hc1⟩ := hst.cell 0 (by decide)
  subst hA1
  obtain ⟨q2, o2, hA2, _, hc2⟩ := hst.cell 1 (by decide)
  cases hA2
  have hc1' : w9.cell? ⟨q1, o1, none⟩ = some (.string rA) := hc1
  have hc2' : w9.cell? ⟨q1, o1 + 1, none⟩ = some (.string rB) := hc2
  clear hb B8 K hst hc1 hc2
  go_wp2_with fail
  have K := llen_at HL.out B9.out
  rw [lw7] at K
  refine K.mono ?_
  rintro e w10 ⟨rfl, hb⟩
  have B10 := Lib.hid (B9.out.below HD.out HL.out hb)
  clear hb B9 K
  go_wp2_with fail
  go_ret
  exact ⟨rfl, B10.out.bel⟩

end Go.Proofs.YtikbokbmaihdbaaGreatDoor
