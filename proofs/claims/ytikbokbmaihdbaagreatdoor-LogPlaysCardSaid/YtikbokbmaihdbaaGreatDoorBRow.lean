/-
  Arguments that are slices of integers, opened once, nil or not.
  Texts, and numbers, in a row of memory.
  A world behind draws.
  A row of bytes that the call itself made ('[]byte(s)'): its cells, read, stored, made a string again.
  Rows of texts of one's own.
  Arguments that are slices of strings, opened once, nil or not.
-/
import Derived.Test.YtikbokbmaihdbaaGreatDoorProg
import Derived.ChangeSlices
import Derived.WideShapes
import Derived.RowKit
import Derived.Below
import Derived.Carry
import Derived.WalkKit
import Derived.Deep.Draws
import Derived.Laws.IdiomStrings
import Derived.Lib.Hide
import Derived.OwnWalk
import Derived.SliceStrings
import Derived.SizedLaws
namespace Go.Proofs.YtikbokbmaihdbaaGreatDoor
open Go.ChangeShapes Go.WideShapes Go.RowKit

/-- What a slice of integers that came in is: its elements, where they lie. -/
def SliceView (W : World) (k : IntKind) (A : Option Addr) (len cap : Nat) (Z : List Int) : Prop :=
  Z.length = len ∧ len ≤ cap ∧ cap ≤ maxLen ∧ (A = none → len = 0 ∧ cap = 0) ∧
  (∀ t, t < len → ∃ b off, A = some ⟨b, off, none⟩ ∧ b < W.heap.size ∧ W.cell? ⟨b, off + t, none⟩ = some (.int k (Z.getD t 0))) ∧
  (∀ n ∈ Z, (Lit.int k n).wf = true)

theorem view_ints {H : Type} {enc : TypeId × Value → H} {P : Program} {W : World} {t e : TypeId} {k : IntKind} {fuel : Nat} {A : Option Addr} {len cap : Nat} {d : DataW H} {p : List MemPlace}
    (ht : P.underlying t = some (.slice e)) (he : P.underlying e = some (.int k)) (hc : P.cellsOf e = 1)
    (hf : DataW.trod enc P W 0 (fun _ => true) true fuel t (Value.slice A len cap).cells.toList = some (d, p)) : ∃ Z, SliceView W k A len cap Z := by
  rcases open_ints ht he hc hf with ⟨hcs, hx⟩ | ⟨a, len', cap', zs, hcs, _, hl, hm, hz, hx, hcell, hwz⟩
  · simp [Value.cells] at hcs
    obtain ⟨rfl, rfl, rfl⟩ := hcs
    exact ⟨[], rfl, Nat.le_refl _, Nat.zero_le _, fun _ => ⟨rfl, rfl⟩, (fun t ht => by omega), (fun n hn => by cases hn)⟩
  · simp [Value.cells] at hcs
    obtain ⟨rfl, rfl, rfl⟩ := hcs
    simp only [if_true] at hz
    refine ⟨zs.take len, (by simp; omega), hl, hm, (fun h => by cases h), fun t ht => ?_, fun n hn => hwz n (List.mem_of_mem_take hn)⟩
    have h := hcell t (by omega)
    have h0 := hcell 0 (by omega)
    obtain ⟨b, off, spot⟩ := a
    have hs : spot = none := by simpa [Addr.add] using World.cell?_spot h0
    subst hs
    rw [add_plain] at h
    exact ⟨b, off, rfl, World.block_lt_of_cell? W _ h, by rw [h]; simp [List.getD, ht]⟩

end Go.Proofs.YtikbokbmaihdbaaGreatDoor

namespace Go.Proofs.YtikbokbmaihdbaaGreatDoor
open Go.RowKit

/-- Texts in a row. -/
structure Strs (w : World) (A : Option Addr) (n : Nat) (ss : List ByteArray) : Prop where
  len : ss.length = n
  cell : ∀ i (h : i < ss.length), ∃ b off, A = some ⟨b, off, none⟩ ∧ b < w.heap.size ∧ w.cell? ⟨b, off + i, none⟩ = some (.string ss[i])
theorem Strs.below {w w' : World} {A : Option Addr} {n : Nat} {ss : List ByteArray} (h : Strs w A n ss) (hb : Below w.heap.size w w') : Strs w' A n ss :=
  ⟨h.len, fun i hi => by
    obtain ⟨b, off, e, hl, hc⟩ := h.cell i hi
    exact ⟨b, off, e, Nat.lt_of_lt_of_le hl hb.size, (hb.cell (p := ⟨b, off + i, none⟩) hl).trans hc⟩⟩

/-- Numbers in a row. -/
structure Ints (w : World) (A : Option Addr) (n : Nat) (ns : List Nat) : Prop where
  len : ns.length = n
  cell : ∀ i (h : i < ns.length), ∃ b off, A = some ⟨b, off, none⟩ ∧ b < w.heap.size ∧ w.cell? ⟨b, off + i, none⟩ = some (.int .u64 (ns[i] : Nat))
theorem Ints.below {w w' : World} {A : Option Addr} {n : Nat} {ns : List Nat} (h : Ints w A n ns) (hb : Below w.heap.size w w') : Ints w' A n ns :=
  ⟨h.len, fun i hi => by
    obtain ⟨b, off, e, hl, hc⟩ := h.cell i hi
    exact ⟨b, off, e, Nat.lt_of_lt_of_le hl hb.size, (hb.cell (p := ⟨b, off + i, none⟩) hl).trans hc⟩⟩

end Go.Proofs.YtikbokbmaihdbaaGreatDoor

namespace Go.Proofs.YtikbokbmaihdbaaGreatDoor
open Go.RowKit

theorem _root_.Go.RowKit.Below.drewN {B : Nat} {w w' : World} (h : Below B w w') (m : Nat) : Below B w (w'.drewN m) := ⟨h.os, h.tape, h.output, h.size, h.block⟩
theorem of_drewN {B : Nat} {w w' : World} (h : ∃ n, w' = w.drewN n) : Below B w w' := by obtain ⟨n, rfl⟩ := h; exact (Below.refl _ _).drewN n

end Go.Proofs.YtikbokbmaihdbaaGreatDoor

namespace Go.Proofs.YtikbokbmaihdbaaGreatDoor
open Go.RowKit

def BRow (w : World) (g : Nat) (l : List UInt8) : Prop :=
  g < w.heap.size ∧ ∀ j (hj : j < l.length), w.cell? ⟨g, j, none⟩ = some (.int .u8 (l[j].toNat : Int)) ∧ w.frozen? ⟨g, j, none⟩ = false

theorem BRow.below {w w' : World} {g : Nat} {l : List UInt8} {B : Nat} (h : BRow w g l) (hb : Below B w w') (hg : g < B) : BRow w' g l :=
  ⟨Nat.lt_of_lt_of_le h.1 hb.size, fun j hj => ⟨(hb.cell (p := ⟨g, j, none⟩) hg).trans (h.2 j hj).1, (hb.frozen (p := ⟨g, j, none⟩) hg).trans (h.2 j hj).2⟩⟩
theorem BRow.other {w : World} {g : Nat} {l : List UInt8} (h : BRow w g l) (a : Addr) (ha : g ≠ a.block) (v : Value) : BRow (w.setCell a v) g l := by
  refine ⟨by simpa using h.1, fun j hj => ⟨?_, ?_⟩⟩
  · rw [World.cell?_setCell_other (w := w) (v := _) (h := fun e => ha (by rw [e]))]; exact (h.2 j hj).1
  · rw [World.frozen?_setCell]; exact (h.2 j hj).2
theorem BRow.store {w : World} {g : Nat} {l : List UInt8} (h : BRow w g l) (i : Nat) (hi : i < l.length) (c : UInt8) : BRow (w.setCell ⟨g, i, none⟩ (.int .u8 (c.toNat : Int))) g (l.set i c) := by
  refine ⟨by simpa using h.1, fun j hj => ?_⟩
  have hj' : j < l.length := by simpa using hj
  refine ⟨?_, ?_⟩
  · by_cases e : i = j
    · subst e
      rw [World.cell?_setCell_same (h := (h.2 i hi).1)]
      simp
    · rw [World.cell?_setCell_other (w := w) (v := _) (h := fun h => e (by injection h)), (h.2 j hj').1, List.getElem_set_ne e]
  · rw [World.frozen?_setCell]; exact (h.2 j hj').2
theorem BRow.drewN {w : World} {g : Nat} {l : List UInt8} (h : BRow w g l) (n : Nat) : BRow (w.drewN n) g l :=
  ⟨by simpa using h.1, fun j hj => ⟨by simpa using (h.2 j hj).1, by simpa using (h.2 j hj).2⟩⟩
theorem BRow.conv (w : World) (s : ByteArray) : ∃ (cap : Nat) (w1 : World),
    (convert 9 75 (.string s)).run Tryz.prog w = .ok (.slice (some ⟨w.heap.size, 0, none⟩) s.size cap) w1 ∧ BRow w1 w.heap.size s.data.toList ∧ Below w.heap.size w w1 ∧ w1.heap.size = w.heap.size + 1 := by
  refine ⟨_, _, run_bytes_of_string w 9 75 5 s Tryz.underlying9 Tryz.underlying75 Tryz.underlying5, ⟨by simp, fun j hj => ⟨?_, ?_⟩⟩, ((Below.refl _ w).drew).alloc (Nat.le_refl _) _, by simp⟩
  · have hj' : j < s.data.size := by simpa using hj
    have := World.cell?_alloc_mark w.drew (bytesRow s (grownCap w s.size 0 5)) 5 ((bytesRow s (grownCap w s.size 0 5)).size, (bytesRow s (grownCap w s.size 0 5)).size + 1) j
    refine this.trans ?_
    rw [bytesRow_at s _ j hj']
    simp
  · have := World.frozen?_alloc_mark w.drew (bytesRow s (grownCap w s.size 0 5)) 5 ((bytesRow s (grownCap w s.size 0 5)).size) ((bytesRow s (grownCap w s.size 0 5)).size + 1) j
    refine this.trans ?_
    have hb : j < (bytesRow s (grownCap w s.size 0 5)).size := by
      unfold bytesRow
      have hj' : j < s.data.size := by simpa using hj
      simp only [Array.size_append, Array.size_map, Array.size_replicate]
      omega
    simp only [Bool.and_eq_false_iff, decide_eq_false_iff_not]
    omega
theorem BRow.back {w : World} {g : Nat} {l : List UInt8} (h : BRow w g l) (n cap : Nat) (hn : n = l.length) :
    (convert 75 9 (.slice (some ⟨g, 0, none⟩) n cap)).run Tryz.prog w = .ok (.string ⟨l.toArray⟩) w := by
  subst hn
  refine run_convert_bytes_back w 75 9 5 ⟨g, 0, none⟩ cap l Tryz.underlying75 Tryz.underlying5 Tryz.underlying9 (fun j hj => ?_)
  have := (h.2 j hj).1
  have e : (⟨g, 0, none⟩ : Addr).add j = ⟨g, j, none⟩ := by unfold Addr.add; split <;> simp_all
  rw [e]
  exact this

end Go.Proofs.YtikbokbmaihdbaaGreatDoor

namespace Go.Proofs.YtikbokbmaihdbaaGreatDoor
open Go.RowKit Go.ChangeShapes Go.WideShapes

theorem info9 : (Tryz.prog.info? 9).map (fun i => (i.zero, i.size, i.bytes)) = some (some (.string ByteArray.empty), 1, 16) := by kernel_rfl

theorem owns_below {w w' : World} {base : Nat} {e : TypeId} {size : Nat} {v : Value} {n : Nat} {xs : List Value} (h : w.ownsRow base e size v n xs) (hb : Below w.heap.size w w') : w'.ownsRow base e size v n xs := by
  obtain ⟨h1, h2⟩ := h
  refine ⟨h1, ?_⟩
  rcases h2 with h2 | ⟨g, cap, cur, hv, hg, hh, r⟩
  · exact Or.inl h2
  · exact Or.inr ⟨g, cap, cur, hv, hg, (hb.block g (Array.getElem?_eq_some_iff.1 hh).1).trans hh, r⟩

def txt (ts : List ByteArray) : List Value := ts.map Value.string
theorem txt_snoc (ts : List ByteArray) (t : ByteArray) : txt ts ++ [.string t] = txt (ts ++ [t]) := by simp [txt]
theorem owns_strs {w : World} {base n : Nat} {e : TypeId} {v : Value} {ts : List ByteArray} (h : w.ownsRow base e 1 v n (txt ts)) (hn : ts.length = n) : ∃ A cap, v = .slice A n cap ∧ Strs w A n ts := by
  have h' := h
  rcases h.2 with ⟨rfl, h0⟩ | ⟨g, cap, cur, rfl, _, hg, _⟩
  · subst h0
    exact ⟨none, 0, rfl, hn, fun i hi => by omega⟩
  · refine ⟨_, cap, rfl, hn, fun i hi => ⟨g, 0, rfl, (Array.getElem?_eq_some_iff.1 hg).1, ?_⟩⟩
    have := h'.cells (g := g) rfl i (.string ts[i]) (by simp [txt, hi])
    rw [add_plain] at this
    exact this
/-- .. and where it lies. -/
theorem owns_strs0 {w : World} {base n : Nat} {e : TypeId} {v : Value} {ts : List ByteArray} (h : w.ownsRow base e 1 v n (txt ts)) (hn : ts.length = n) : ∃ A cap, v = .slice A n cap ∧ Strs w A n ts ∧ (A = none → cap = 0) ∧ ∀ ad, A = some ad → base ≤ ad.block := by
  have h' := h
  rcases h.2 with ⟨rfl, h0⟩ | ⟨g, cap, cur, rfl, hbg, hg, _⟩
  · subst h0
    exact ⟨none, 0, rfl, ⟨hn, fun i hi => by omega⟩, fun _ => rfl, fun ad had => by cases had⟩
  · refine ⟨_, cap, rfl, ⟨hn, fun i hi => ⟨g, 0, rfl, (Array.getElem?_eq_some_iff.1 hg).1, ?_⟩⟩, (fun had => by cases had), fun ad had => by cases had; exact hbg⟩
    have := h'.cells (g := g) rfl i (.string ts[i]) (by simp [txt, hi])
    rw [add_plain] at this
    exact this

end Go.Proofs.YtikbokbmaihdbaaGreatDoor

namespace Go.Proofs.YtikbokbmaihdbaaGreatDoor
open Go.ChangeShapes Go.WideShapes Go.RowKit

/-- What a slice of strings that came in is. -/
structure StrsView (W : World) (A : Option Addr) (len cap : Nat) (ss : List ByteArray) : Prop where
  row : Strs W A len ss
  short : ∀ s ∈ ss, s.size ≤ 140737488351232
  few : len * 16 ≤ 140737488351232
  fits : len ≤ cap
  none : A = none → len = 0 ∧ cap = 0

theorem weights_mem_all {H : Type} {P : Program} {e : TypeId} : ∀ {elems : List (DataW H)} {d : DataW H}, d ∈ elems → ∀ n ∈ d.weights P e, n ∈ DataW.weightsAll P e elems
  | d0 :: ds, d, hd, n, hn => by
    simp only [DataW.weightsAll, List.mem_append]
    rcases List.mem_cons.1 hd with rfl | h
    · exact Or.inl hn
    · exact Or.inr (weights_mem_all h n hn)

theorem view_strs {H : Type} {enc : TypeId × Value → H} {P : Program} {W : World} {t e : TypeId} {fuel : Nat} {A : Option Addr} {len cap : Nat} {d : DataW H} {p : List MemPlace}
    (ht : P.underlying t = some (.slice e)) (he : P.underlying e = some .string) (hc : P.cellsOf e = 1) (hb : P.bytesOf e = 16)
    (hf : DataW.trod enc P W 0 (fun _ => true) true fuel t (Value.slice A len cap).cells.toList = some (d, p)) (hw : ∀ n ∈ d.weights P t, n ≤ reachBytes) : ∃ ss, StrsView W A len cap ss := by
  rcases open_strings ht he hc hf with ⟨hcs, hx⟩ | ⟨a, len', cap', ss, hcs, _, hl, hm, hz, hx, hcell, hws⟩
  · simp [Value.cells] at hcs
    obtain ⟨rfl, rfl, rfl⟩ := hcs
    exact ⟨[], ⟨rfl, fun i hi => by simp at hi⟩, (fun s hs => by cases hs), by omega, Nat.le_refl _, fun _ => ⟨rfl, rfl⟩⟩
  · simp [Value.cells] at hcs
    obtain ⟨rfl, rfl, rfl⟩ := hcs
    simp only [if_true] at hz
    simp only [Prod.mk.injEq] at hx
    obtain ⟨rfl, rfl⟩ := hx
    have hall : ∀ s ∈ ss.take len, s.size ≤ 140737488351232 := by
      intro s hs
      have hm : (DataW.lit (.string s.data.toList) : DataW H) ∈ strs (ss.take len) := List.mem_map.2 ⟨s, hs, rfl⟩
      have h1 := weights_mem_all (P := P) (e := e) hm s.data.toList.length (by simp [DataW.weights])
      have h2 := hw s.data.toList.length (by simp only [DataW.weights, ht]; exact List.mem_cons_of_mem _ (List.mem_append_left _ h1))
      simpa [reachBytes] using h2
    have hfew : len * 16 ≤ 140737488351232 := by
      have h2 := hw _ (by simp only [DataW.weights, ht]; exact List.mem_cons_self)
      rw [hb] at h2
      simp only [strs, List.length_map, List.length_take, List.length_drop, reachBytes] at h2
      omega
    refine ⟨ss.take len, ⟨by simp; omega, fun i hi => ?_⟩, hall, hfew, hl, fun h => by cases h⟩
    have hi' : i < len := by simp at hi; omega
    have h := hcell i (by omega)
    obtain ⟨b, off, spot⟩ := a
    have h0 := hcell 0 (by omega)
    have hs : spot = .none := by simpa [Addr.add] using World.cell?_spot h0
    subst hs
    rw [add_plain] at h
    have hg : (ss.take len)[i] = ss.getD i ByteArray.empty := by
      rw [List.getElem_take, List.getD_eq_getElem?_getD, List.getElem?_eq_getElem (by omega)]; rfl
    exact ⟨b, off, rfl, World.block_lt_of_cell? W _ h, by rw [h, hg]⟩

end Go.Proofs.YtikbokbmaihdbaaGreatDoor
