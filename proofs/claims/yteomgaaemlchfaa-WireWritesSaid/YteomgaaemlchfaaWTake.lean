/-
  Layer 5: a reader in memory; its Err; its take: nil, behind an error, and with a step.
-/
import Derived.Test.YteomgaaemlchfaaNRead
import Derived.Shelf.Strings.Builder1
namespace Go.Proofs.Yteomgaaemlchfaa
open Go.RowKit

/-- A reader that New made: what is left, and the error. -/
def RD (b : Nat) (l : List UInt8) (e : Int) (w : World) : Prop := w.heap[b]? = some (.cells #[.bool true, .string (str l), .int .i64 e] 57 (0, 0))

theorem RD.c0 {b : Nat} {l : List UInt8} {e : Int} {w : World} (h : RD b l e w) : w.cell? ⟨b, 0, none⟩ = some (.bool true) := by rw [Lib.cell_of_heap h]; rfl
theorem RD.c1 {b : Nat} {l : List UInt8} {e : Int} {w : World} (h : RD b l e w) : w.cell? ⟨b, 1, none⟩ = some (.string (str l)) := by rw [Lib.cell_of_heap h]; rfl
theorem RD.c2 {b : Nat} {l : List UInt8} {e : Int} {w : World} (h : RD b l e w) : w.cell? ⟨b, 2, none⟩ = some (.int .i64 e) := by rw [Lib.cell_of_heap h]; rfl
theorem RD.fr {b : Nat} {l : List UInt8} {e : Int} {w : World} (h : RD b l e w) (j : Nat) : w.frozen? ⟨b, j, none⟩ = false := Lib.frozen_of_heap h j
theorem RD.lt {b : Nat} {l : List UInt8} {e : Int} {w : World} (h : RD b l e w) : b < w.heap.size := by
  rcases Nat.lt_or_ge b w.heap.size with h' | h'
  · exact h'
  · have := Array.getElem?_eq_none h'
    rw [h] at this
    cases this
theorem RD.below {b B : Nat} {l : List UInt8} {e : Int} {w w' : World} (h : RD b l e w) (hb : Below B w w') (hB : b < B) : RD b l e w' := (hb.block b hB).trans h
theorem RD.alloc {b : Nat} {l : List UInt8} {e : Int} {w : World} (h : RD b l e w) (o : Obj) : RD b l e (w.alloc o) := (Below.heap_alloc w o b h.lt).trans h
theorem RD.set {b : Nat} {l : List UInt8} {e : Int} {w : World} (h : RD b l e w) (l' : List UInt8) (e' : Int) :
    RD b l' e' ((w.setCell ⟨b, 1, none⟩ (.string (str l'))).setCell ⟨b, 2, none⟩ (.int .i64 e')) := by
  have h' : w.heap[b]? = _ := h
  show ((w.setCell ⟨b, 1, none⟩ (.string (str l'))).setCell ⟨b, 2, none⟩ (.int .i64 e')).heap[b]? = _
  simp [World.setCell, Array.getElem?_modify, h']
theorem RD.other {b : Nat} {l : List UInt8} {e : Int} {w : World} (h : RD b l e w) (a : Addr) (v : Value) (ha : a.block ≠ b) : RD b l e (w.setCell a v) := (Below.heap_setCell w a v b (Ne.symm ha)).trans h

theorem str_size (l : List UInt8) : (str l).size = l.length := rfl
theorem str_drop (l : List UInt8) (k : Nat) : (str l).extract k (str l).size = str (l.drop k) := by
  apply ByteArray.ext
  rw [ByteArray.data_extract]
  simp only [str, ByteArray.size, List.extract_toArray, List.extract_eq_take_drop, List.size_toArray]
  rw [List.take_of_length_le (by simp)]

theorem Err_at (b : Nat) (l : List UInt8) (e : Int) (w : World) (h : RD b l e w) :
    Calls Try.prog 19 #[.pointer (some ⟨b, 0, none⟩)] w fun r w' => r = .returned (.int .i64 e) ∧ w = w' := by
  have c0 := h.c0
  have c2 := h.c2
  go_enter Try.func19, Try.ntmps19
  go_wp2_with fail
  go_ret
  exact ⟨rfl, rfl⟩

theorem Err_nil (w : World) :
    Calls Try.prog 19 #[.pointer none] w fun r w' => r = .returned (.int .i64 1) ∧ w = w' := by
  go_enter Try.func19, Try.ntmps19
  go_wp2_with fail
  go_ret
  exact ⟨rfl, rfl⟩

theorem take_nil (f : Value) (w : World) :
    Calls Try.prog 27 #[.pointer none, f] w fun r w' => r = .returned (.tuple #[]) ∧ w = w' := by
  go_enter Try.func27, Try.ntmps27
  go_wp2_with (go_at_call 19; refine (Err_nil _).mono ?_; rintro e w' ⟨rfl, rfl⟩)
  (try simp only [Exit.inBlock, Exit.then])
  exact bodyPost_ret (results_none rfl _ _ _) rfl ⟨rfl, rfl⟩

theorem take_err (b : Nat) (l : List UInt8) (e : Int) (f : Value) (w : World) (h : RD b l e w) (he : e ≠ 0) :
    Calls Try.prog 27 #[.pointer (some ⟨b, 0, none⟩), f] w fun r w' => r = .returned (.tuple #[]) ∧ w = w' := by
  have he' : (e == 0) = false := by simp [he]
  go_enter Try.func27, Try.ntmps27
  go_wp2_with (go_at_call 19; refine (Err_at b l e _ h).mono ?_; rintro e w' ⟨rfl, rfl⟩)
  (try simp only [Exit.inBlock, Exit.then])
  exact bodyPost_ret (results_none rfl _ _ _) rfl ⟨rfl, rfl⟩

set_option maxHeartbeats 1000000 in
/-- With a step: the callee's contract says how many bytes go, the error, and whatever else it leaves (Q). -/
theorem take_ok (fn : FuncId) (caps : Array Value) (henter : ∀ args w, (callFunc fn args).run Try.prog w = .ok (.enter fn args) w)
    (b : Nat) (l : List UInt8) (w : World) (h : RD b l 0 w) (k : Nat) (hk : k ≤ l.length) (er : Int) (Q : World → Prop)
    (hQ : ∀ W x y, Q W → Q ((W.setCell ⟨b, 1, none⟩ x).setCell ⟨b, 2, none⟩ y))
    (K : Calls Try.prog fn (#[.string (str l)] ++ caps) w fun r w' => r = .returned (.tuple #[.int .i64 (k : Nat), .int .i64 er]) ∧ RD b l 0 w' ∧ Below b w w' ∧ Q w') :
    Calls Try.prog 27 #[.pointer (some ⟨b, 0, none⟩), .func (.func fn) #[] caps] w fun r w' => r = .returned (.tuple #[]) ∧ RD b (l.drop k) er w' ∧ Below b w w' ∧ Q w' := by
  have c1 := h.c1
  have hsz : (str l).size = l.length := rfl
  have hd := str_drop l k
  rw [hsz] at hd
  go_enter Try.func27, Try.ntmps27
  go_wp2_with (first
    | (go_at_call 19; refine (Err_at b l 0 _ h).mono ?_; rintro e w' ⟨rfl, rfl⟩)
    | (go_at_fn fn; refine K.mono ?_; rintro e w' ⟨rfl, h1, hb1, hq⟩; have d1 := h1.c1; have d2 := h1.c2; have f1 := h1.fr 1; have f2 := h1.fr 2; have HN := Lib.hid (h1.set (l.drop k) er); clear h1))
  go_end0
  exact ⟨rfl, HN.out, (hb1.setCell (p := ⟨b, 1, none⟩) (Nat.le_refl _) _).setCell (p := ⟨b, 2, none⟩) (Nat.le_refl _) _, hQ _ _ _ hq⟩

end Go.Proofs.Yteomgaaemlchfaa
