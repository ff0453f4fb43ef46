/-
  Layer 4: a row of bytes of the call's own that came of '[]byte(s)' or of an append, and appends of one byte.
-/
import Derived.Test.YteajhimmhlccdaaDoorSWalkE
import Derived.ArgAppend
namespace Go.Proofs.YteajhimmhlccdaaDoor
open Go.RowKit

structure Mine (w : World) (B g n cap : Nat) (xs : List Value) : Prop where
  base : B ≤ g
  lt : g < w.heap.size
  fit : n ≤ cap
  most : cap ≤ maxLen
  len : xs.length = n
  cell : ∀ j, j < n → w.cell? ⟨g, j, none⟩ = xs[j]?
  free : ∀ j, j < cap → (w.cell? ⟨g, j, none⟩).isSome = true ∧ w.frozen? ⟨g, j, none⟩ = false

theorem Mine.grown {w w' : World} {B g n cap : Nat} {xs : List Value} {row : Option Nat} (h : Mine w B g n cap xs) (hg : w.grownBy w' row) (hne : some g ≠ row) : Mine w' B g n cap xs :=
  ⟨h.base, Nat.lt_of_lt_of_le h.lt hg.size, h.fit, h.most, h.len, fun j hj => by rw [hg.cell_far ⟨g, j, none⟩ h.lt hne]; exact h.cell j hj,
    fun j hj => by rw [hg.cell_far ⟨g, j, none⟩ h.lt hne, hg.frozen_far ⟨g, j, none⟩ h.lt hne]; exact h.free j hj⟩
theorem Mine.alloc {w : World} {B g n cap : Nat} {xs : List Value} (h : Mine w B g n cap xs) (o : Obj) : Mine (w.alloc o) B g n cap xs := h.grown (World.grownBy_alloc w o none) (by simp)
theorem Mine.of_owns {w : World} {B B' g n cap : Nat} {e : TypeId} {xs : List Value} (h : w.ownsRow B' e 1 (.slice (some ⟨g, 0, none⟩) n cap) n xs) (hB : B ≤ B') : Mine w B g n cap xs := by
  rcases h.2 with ⟨h', _⟩ | ⟨g', cap', cur, h', hb, hg, hnc, hcm, hcs, htake⟩
  · simp at h'
  · simp only [Value.slice.injEq, Option.some.injEq, Addr.mk.injEq, and_true, true_and] at h'
    obtain ⟨rfl, rfl⟩ := h'
    refine ⟨by omega, (Array.getElem?_eq_some_iff.1 hg).1, hnc, hcm, by simpa using h.1, fun j hj => h.cellAt j (by omega), fun j hj => ⟨?_, frozen_of_row w g j cur e hg⟩⟩
    rw [cell_of_row w g j cur e (0, 0) hg, Array.getElem?_eq_getElem (by omega)]; rfl
theorem Mine.set {w : World} {B g n cap : Nat} {xs : List Value} (h : Mine w B g n cap xs) (u : Value) (hc : n + 1 ≤ cap) : Mine (w.setCell ⟨g, n, none⟩ u) B g (n + 1) cap (xs ++ [u]) := by
  have hl := h.len
  refine ⟨h.base, by simpa using h.lt, hc, h.most, by simp [hl], fun j hj => ?_, fun j hj => ⟨?_, by rw [World.frozen?_setCell]; exact (h.free j hj).2⟩⟩
  · by_cases e : j = n
    · subst e
      obtain ⟨x, hx⟩ := Option.isSome_iff_exists.1 (h.free j (by omega)).1
      rw [World.cell?_setCell_same (h := hx), ← hl]
      simp
    · rw [World.cell?_setCell_other (w := w) (v := _) (h := fun h => e (by injection h with _ h _; exact h.symm)), h.cell j (by omega), List.getElem?_append_left (by omega)]
  · obtain ⟨x, hx⟩ := Option.isSome_iff_exists.1 (h.free j hj).1
    by_cases e : (⟨g, n, none⟩ : Addr) = ⟨g, j, none⟩
    · rw [← e]
      have e' : n = j := by injection e
      subst e'
      rw [World.cell?_setCell_same (h := hx)]; rfl
    · rw [World.cell?_setCell_other (w := w) (v := _) (h := e), hx]; rfl

/-- 'append(b, c)', one byte. -/
theorem wpList_append_mine (w : World) {ops : Array Oper} {rest : List Oper} {o : Oper} {a : Act} {Q : Exit → Act → World → Prop}
    (hg : o.guard = none) (s x : Operand) (hop : o.op = Op.call { callee := Callee.builtin Builtin.append, args := #[s, x], argTypes := #[35, 35] })
    (B g n cap : Nat) (xs : List Value) (hs : a.eval s = .slice (some ⟨g, 0, none⟩) n cap) (hm : Mine w B g n cap xs)
    (ad : Addr) (c : Nat) (u : Value) (hx : a.eval x = .slice (some ad) 1 c) (hc : ∀ j v, [u][j]? = some v → w.cell? (ad.add j) = some v) (hu : u.oneCell' = true) (hB : B ≤ w.heap.size) (hn : n ≤ 1099511627776)
    (hK : ∀ g' cap' w', Mine w' B g' (n + 1) cap' (xs ++ [u]) → Below B w w' → wpList Tryd.prog ops Q rest (a.put o.dst (.slice (some ⟨g', 0, none⟩) (n + 1) cap')) w') :
    wpList Tryd.prog ops Q (o :: rest) a w := by
  obtain ⟨i0, hi, hz0, hz1, hz2⟩ := info_parts info5
  refine wpList_append_arg w hg s x 35 hop 5 i0 (.int .u8 0) 1 1 Tryd.underlying35 hi hz0 hz1 hz2 rfl (by decide) g 0 n cap xs hs (by simpa using hm.len) (fun j v hj => ?_) ad 1 c [u] hx rfl hc (by simpa using hu) (fun hr j hj => ?_) (by unfold maxLen; omega) (by omega) (fun hr => ?_) (fun hr v' w' ho hgr => ?_)
  · have hj' : j < n := by rw [← hm.len]; exact (List.getElem?_eq_some_iff.1 hj).1
    rw [Nat.zero_add, hm.cell j hj']; exact hj
  · obtain rfl : j = 0 := by simpa using hj
    simpa using hm.free n (by omega)
  · have := hK g cap (w.setCell ⟨g, n, none⟩ u) (hm.set u hr) ((Below.refl _ w).setCell hm.base u)
    simpa [World.setCells] using this
  · obtain ⟨g', cap', rfl, hb, _⟩ := ho.form (by omega)
    exact hK g' cap' w' (Mine.of_owns ho hB) ((Below.refl _ w).grown hgr hB (fun k hk => by cases hk))

theorem Mine.conv (w : World) (s : ByteArray) (hs : s.size ≤ 1099511627776) : ∃ (cap : Nat) (w1 : World),
    (convert 9 35 (.string s)).run Tryd.prog w = .ok (.slice (some ⟨w.heap.size, 0, none⟩) s.size cap) w1 ∧ Mine w1 w.heap.size w.heap.size s.size cap (cel8 s.data.toList) ∧ Below w.heap.size w w1 := by
  have hc1 := grownCap_ge w s.size 0 5
  have hc2 := grownCap_le_maxLen w s.size 0 5 (by unfold maxLen; omega)
  have hrow : (bytesRow s (grownCap w s.size 0 5)).size = grownCap w s.size 0 5 := by
    unfold bytesRow
    have : s.data.size = s.size := rfl
    simp only [Array.size_append, Array.size_map, Array.size_replicate]
    omega
  refine ⟨_, _, run_bytes_of_string w 9 35 5 s Tryd.underlying9 Tryd.underlying35 Tryd.underlying5, ⟨Nat.le_refl _, by simp, hc1, hc2, by simp [cel8], fun j hj => ?_, fun j hj => ⟨?_, ?_⟩⟩, ((Below.refl _ w).drew).alloc (Nat.le_refl _) _⟩
  · have := World.cell?_alloc_mark w.drew (bytesRow s (grownCap w s.size 0 5)) 5 ((bytesRow s (grownCap w s.size 0 5)).size, (bytesRow s (grownCap w s.size 0 5)).size + 1) j
    refine this.trans ?_
    rw [bytesRow_at s _ j hj, cel8_at _ j (by simpa using hj)]
    simp
  · have := World.cell?_alloc_mark w.drew (bytesRow s (grownCap w s.size 0 5)) 5 ((bytesRow s (grownCap w s.size 0 5)).size, (bytesRow s (grownCap w s.size 0 5)).size + 1) j
    rw [show (w.drew.alloc (.cells (bytesRow s (grownCap w s.size 0 5)) 5 ((bytesRow s (grownCap w s.size 0 5)).size, (bytesRow s (grownCap w s.size 0 5)).size + 1))).cell? ⟨w.heap.size, j, none⟩ = _ from this, Array.getElem?_eq_getElem (by rw [hrow]; exact hj)]
    rfl
  · have := World.frozen?_alloc_mark w.drew (bytesRow s (grownCap w s.size 0 5)) 5 ((bytesRow s (grownCap w s.size 0 5)).size) ((bytesRow s (grownCap w s.size 0 5)).size + 1) j
    refine this.trans ?_
    simp only [Bool.and_eq_false_iff, decide_eq_false_iff_not]
    omega

end Go.Proofs.YteajhimmhlccdaaDoor
