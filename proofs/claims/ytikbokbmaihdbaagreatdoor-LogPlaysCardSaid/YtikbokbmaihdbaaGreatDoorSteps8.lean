/-
  Arguments that are slices of steps (structs of a number, two texts, a number, a byte, a row of numbers), opened once, nil or not.
  Arguments that are slices of layer 8's steps (a step of layer 7, and a row of texts), opened once, nil or not.
-/
import Derived.Test.YtikbokbmaihdbaaGreatDoorBRow
import Derived.Test.YtikbokbmaihdbaaGreatDoorDModel
import Derived.Deep.Slices
import Derived.ChangeArms
import Derived.SizedLaws
namespace Go.Proofs.YtikbokbmaihdbaaGreatDoor
open Go.ChangeShapes Go.WideShapes Go.RowKit

/-- A step as it lies in memory. -/
structure SV where
  what : Int
  name : ByteArray
  text : ByteArray
  n : Int
  by_ : Int
  K : Option Addr
  kl : Nat
  kc : Nat
  ks : List Int
def SV.stp (s : SV) : Stp := ⟨s.what, s.name, s.text, s.n, UInt8.ofNat s.by_.toNat, s.ks⟩

/-- What holds of one. -/
structure SVok (W : World) (s : SV) : Prop where
  what : (Lit.int .i64 s.what).wf = true
  n : (Lit.int .i64 s.n).wf = true
  by_ : (Lit.int .u8 s.by_).wf = true
  name : s.name.size ≤ 140737488351232
  text : s.text.size ≤ 140737488351232
  keep : SliceView W .i64 s.K s.kl s.kc s.ks
  few : s.kl * 8 ≤ 140737488351232

/-- Its cells. -/
structure SVat (W : World) (b o : Nat) (s : SV) : Prop where
  lt : b < W.heap.size
  c0 : W.cell? ⟨b, o, none⟩ = some (.int .i64 s.what)
  c1 : W.cell? ⟨b, o + 1, none⟩ = some (.string s.name)
  c2 : W.cell? ⟨b, o + 2, none⟩ = some (.string s.text)
  c3 : W.cell? ⟨b, o + 3, none⟩ = some (.int .i64 s.n)
  c4 : W.cell? ⟨b, o + 4, none⟩ = some (.int .u8 s.by_)
  c5 : W.cell? ⟨b, o + 5, none⟩ = some (.slice s.K s.kl s.kc)

theorem SVat.below {W W' : World} {b o : Nat} {s : SV} (h : SVat W b o s) (hb : Below W.heap.size W W') : SVat W' b o s :=
  ⟨Nat.lt_of_lt_of_le h.lt hb.size, (hb.cell (p := ⟨b, o, none⟩) h.lt).trans h.c0, (hb.cell (p := ⟨b, o + 1, none⟩) h.lt).trans h.c1, (hb.cell (p := ⟨b, o + 2, none⟩) h.lt).trans h.c2, (hb.cell (p := ⟨b, o + 3, none⟩) h.lt).trans h.c3,
    (hb.cell (p := ⟨b, o + 4, none⟩) h.lt).trans h.c4, (hb.cell (p := ⟨b, o + 5, none⟩) h.lt).trans h.c5⟩

/-- What a slice of steps that came in is. -/
structure StepsView (W : World) (A : Option Addr) (len cap : Nat) (l : List SV) : Prop where
  length : l.length = len
  fits : len ≤ cap
  few : len * 80 ≤ 140737488351232
  none : A = none → len = 0 ∧ cap = 0
  ok : ∀ s ∈ l, SVok W s
  cell : ∀ i (h : i < l.length), ∃ b off, A = some ⟨b, off, .none⟩ ∧ SVat W b (off + i * 6) l[i]

theorem steps_weight_all {H : Type} {P : Program} {e : TypeId} : ∀ {elems : List (DataW H)} {d : DataW H}, d ∈ elems → ∀ n ∈ d.weights P e, n ∈ DataW.weightsAll P e elems
  | d0 :: ds, d, hd, n, hn => by
    simp only [DataW.weightsAll, List.mem_append]
    rcases List.mem_cons.1 hd with rfl | h
    · exact Or.inl hn
    · exact Or.inr (steps_weight_all h n hn)

theorem view_steps {H : Type} {enc : TypeId × Value → H} {P : Program} {W : World} {t e : TypeId} {f0 f1 f2 f3 f4 f5 : Field} {k : TypeId} {fuel : Nat} {A : Option Addr} {len cap : Nat} {d : DataW H} {p : List MemPlace}
    (ht : P.underlying t = some (.slice e)) (he : P.underlying e = some (.struct #[f0, f1, f2, f3, f4, f5])) (ce : P.cellsOf e = 6) (be : P.bytesOf e = 80)
    (o0 : f0.offset = 0) (o1 : f1.offset = 1) (o2 : f2.offset = 2) (o3 : f3.offset = 3) (o4 : f4.offset = 4) (o5 : f5.offset = 5)
    (n0 : P.cellsOf f0.type = 1) (n1 : P.cellsOf f1.type = 1) (n2 : P.cellsOf f2.type = 1) (n3 : P.cellsOf f3.type = 1) (n4 : P.cellsOf f4.type = 1) (n5 : P.cellsOf f5.type = 1)
    (u0 : P.underlying f0.type = some (.int .i64)) (u1 : P.underlying f1.type = some .string) (u2 : P.underlying f2.type = some .string) (u3 : P.underlying f3.type = some (.int .i64)) (u4 : P.underlying f4.type = some (.int .u8))
    (u5 : P.underlying f5.type = some (.slice k)) (uk : P.underlying k = some (.int .i64)) (ck : P.cellsOf k = 1) (bk : P.bytesOf k = 8)
    (hf : DataW.trod enc P W 0 (fun _ => true) true fuel t (Value.slice A len cap).cells.toList = some (d, p)) (hw : ∀ n ∈ d.weights P t, n ≤ reachBytes) : ∃ l, StepsView W A len cap l := by
  rcases Go.Deep.open_slice ht hf with ⟨hcs, hx⟩ | ⟨a, len', cap', m, fu, D, Pl, hcs, _, hl, hm, hmm, hx, hel⟩
  · simp [Value.cells] at hcs
    obtain ⟨rfl, rfl, rfl⟩ := hcs
    exact ⟨[], rfl, Nat.le_refl _, by omega, fun _ => ⟨rfl, rfl⟩, (fun s hs => by cases hs), (fun i hi => by simp at hi)⟩
  · simp [Value.cells] at hcs
    obtain ⟨rfl, rfl, rfl⟩ := hcs
    simp only [if_true] at hmm
    subst hmm
    simp only [Prod.mk.injEq] at hx
    obtain ⟨rfl, rfl⟩ := hx
    have each : ∀ i, i < len → ∃ s : SV, SVok W s ∧ ∃ b off, a = ⟨b, off, .none⟩ ∧ SVat W b (off + i * 6) s := by
      intro i hi
      obtain ⟨cs, h1, h2⟩ := hel i (by omega)
      rw [ce] at h1
      obtain ⟨_, hlen, hcell⟩ := World.cells?_some h1
      obtain ⟨xs, q, _, hxy, _, hxl, hfd⟩ := DataW.trod_struct he h2
      match xs, hxl, cs, hlen with
      | [y0, y1, y2, y3, y4, y5], _, [v0, v1, v2, v3, v4, v5], _ =>
        have g0 := hfd 0 f0 rfl
        have g1 := hfd 1 f1 rfl
        have g2 := hfd 2 f2 rfl
        have g3 := hfd 3 f3 rfl
        have g4 := hfd 4 f4 rfl
        have g5 := hfd 5 f5 rfl
        simp [o0, n0] at g0
        simp [o1, n1] at g1
        simp [o2, n2] at g2
        simp [o3, n3] at g3
        simp [o4, n4] at g4
        simp [o5, n5] at g5
        obtain ⟨z0, e0, _, w0⟩ := DataW.trod_int u0 g0
        obtain ⟨s1, e1, x1, _⟩ := DataW.trod_string u1 g1
        obtain ⟨s2, e2, x2, _⟩ := DataW.trod_string u2 g2
        obtain ⟨z3, e3, _, w3⟩ := DataW.trod_int u3 g3
        obtain ⟨z4, e4, _, w4⟩ := DataW.trod_int u4 g4
        have hD : D i = .agg [y0.1, y1.1, y2.1, y3.1, y4.1, y5.1] := by
          have := congrArg Prod.fst hxy
          simpa using this
        have hin : ∀ n ∈ (D i).weights P e, n ≤ reachBytes := fun n hn => hw n (by
          simp only [DataW.weights, ht]
          exact List.mem_cons_of_mem _ (List.mem_append_left _ (steps_weight_all (List.mem_map.2 ⟨i, List.mem_range.2 hi, rfl⟩) n hn)))
        have hpart : ∀ (j : Nat) (tj : TypeId) (dj : DataW H), [f0.type, f1.type, f2.type, f3.type, f4.type, f5.type][j]? = some tj → [y0.1, y1.1, y2.1, y3.1, y4.1, y5.1][j]? = some dj → ∀ n ∈ dj.weights P tj, n ≤ reachBytes := by
          intro j tj dj h3 h4 n hn
          refine hin n ?_
          rw [hD]
          simp only [DataW.weights, he]
          exact DataW.weights_mem_each (by simpa using h3) h4 n hn
        have b1 : s1.size ≤ 140737488351232 := by
          have := hpart 1 _ _ rfl rfl s1.data.toList.length (by rw [x1]; simp [DataW.weights])
          simpa [reachBytes] using this
        have b2 : s2.size ≤ 140737488351232 := by
          have := hpart 2 _ _ rfl rfl s2.data.toList.length (by rw [x2]; simp [DataW.weights])
          simpa [reachBytes] using this
        obtain ⟨K, kl, kc, hk, hkw⟩ : ∃ K kl kc, v5 = .slice K kl kc ∧ kl * 8 ≤ 140737488351232 := by
          rcases open_ints u5 uk ck g5 with ⟨h3, _⟩ | ⟨a5, l5, c5, zs, h3, _, h4, _, h5, h6, _⟩
          · refine ⟨none, 0, 0, by simpa using h3, by omega⟩
          · refine ⟨some a5, l5, c5, by simpa using h3, ?_⟩
            simp only [if_true] at h5
            have := hpart 5 _ _ rfl rfl ((lits (H := H) .i64 (zs.take l5)).length * 8 + (lits (H := H) .i64 (zs.drop l5)).length * 8) (by rw [h6]; simp only [DataW.weights, u5, bk, ← Nat.add_mul]; exact List.mem_cons_self)
            simp only [lits, List.length_map, List.length_take, List.length_drop, reachBytes] at this
            omega
        subst hk
        obtain ⟨Z, hZ⟩ := view_ints u5 uk ck (A := K) (len := kl) (cap := kc) (W := W) (enc := enc) (d := y5.1) (p := y5.2) (fuel := q) (by simpa [Value.cells] using g5)
        have hc : ∀ j, j < 6 → W.cell? ((a.add (i * 6)).add j) = [v0, v1, v2, v3, v4, Value.slice K kl kc][j]? := hcell
        obtain ⟨cs0, q1, _⟩ := hel 0 (by omega)
        rw [ce] at q1
        obtain ⟨_, q2, q3⟩ := World.cells?_some q1
        have h00 := q3 0 (by decide)
        rw [List.getElem?_eq_getElem (by omega)] at h00
        obtain ⟨b, off, spot⟩ := a
        have hs : spot = .none := by
          have h9 := World.cell?_spot h00
          simpa [Addr.add] using h9
        subst hs
        have hc' : ∀ j, j < 6 → W.cell? ⟨b, off + i * 6 + j, .none⟩ = [v0, v1, v2, v3, v4, Value.slice K kl kc][j]? := fun j hj => by
          have := hc j hj
          rw [add_plain, add_plain] at this
          exact this
        simp only [List.cons.injEq, and_true] at e0 e1 e2 e3 e4
        subst e0 e1 e2 e3 e4
        refine ⟨⟨z0, s1, s2, z3, z4, K, kl, kc, Z⟩, ⟨w0, w3, w4, b1, b2, hZ, hkw⟩, b, off, rfl, ?_, ?_, ?_, ?_, ?_, ?_, ?_⟩
        · exact World.block_lt_of_cell? W ⟨b, off + i * 6 + 0, .none⟩ (hc' 0 (by decide))
        · exact hc' 0 (by decide)
        · exact hc' 1 (by decide)
        · exact hc' 2 (by decide)
        · exact hc' 3 (by decide)
        · exact hc' 4 (by decide)
        · exact hc' 5 (by decide)
    haveI : Inhabited SV := ⟨⟨0, ⟨#[]⟩, ⟨#[]⟩, 0, 0, none, 0, 0, []⟩⟩
    obtain ⟨S, hS⟩ := Go.Deep.choose_lt each
    refine ⟨(List.range len).map S, by simp, hl, ?_, fun h => (by cases h), ?_, ?_⟩
    · have h2 := hw _ (by simp only [DataW.weights, ht]; exact List.mem_cons_self)
      rw [be] at h2
      simp only [List.length_map, List.length_range, reachBytes] at h2
      omega
    · intro s hs
      obtain ⟨i, hi, rfl⟩ := List.mem_map.1 hs
      exact (hS i (List.mem_range.1 hi)).1
    · intro i hi
      have hi' : i < len := by simpa using hi
      obtain ⟨b, off, e1, h1⟩ := (hS i hi').2
      refine ⟨b, off, by rw [e1], ?_⟩
      simpa using h1

end Go.Proofs.YtikbokbmaihdbaaGreatDoor

namespace Go.Proofs.YtikbokbmaihdbaaGreatDoor
open Go.ChangeShapes Go.WideShapes Go.RowKit

/-- A step of layer 7, from its cells. -/
theorem open_step {H : Type} {enc : TypeId × Value → H} {P : Program} {W : World} {e : TypeId} {f0 f1 f2 f3 f4 f5 : Field} {k : TypeId} {fu : Nat} {cs : List Value} {D : DataW H} {Pl : List MemPlace}
    (he : P.underlying e = some (.struct #[f0, f1, f2, f3, f4, f5]))
    (o0 : f0.offset = 0) (o1 : f1.offset = 1) (o2 : f2.offset = 2) (o3 : f3.offset = 3) (o4 : f4.offset = 4) (o5 : f5.offset = 5)
    (n0 : P.cellsOf f0.type = 1) (n1 : P.cellsOf f1.type = 1) (n2 : P.cellsOf f2.type = 1) (n3 : P.cellsOf f3.type = 1) (n4 : P.cellsOf f4.type = 1) (n5 : P.cellsOf f5.type = 1)
    (u0 : P.underlying f0.type = some (.int .i64)) (u1 : P.underlying f1.type = some .string) (u2 : P.underlying f2.type = some .string) (u3 : P.underlying f3.type = some (.int .i64)) (u4 : P.underlying f4.type = some (.int .u8))
    (u5 : P.underlying f5.type = some (.slice k)) (uk : P.underlying k = some (.int .i64)) (ck : P.cellsOf k = 1) (bk : P.bytesOf k = 8)
    (hlen : cs.length = 6) (h2 : DataW.trod enc P W 0 (fun _ => true) true fu e cs = some (D, Pl)) (hin : ∀ n ∈ D.weights P e, n ≤ reachBytes) :
    ∃ s : SV, SVok W s ∧ cs = [.int .i64 s.what, .string s.name, .string s.text, .int .i64 s.n, .int .u8 s.by_, .slice s.K s.kl s.kc] := by
  obtain ⟨xs, q, _, hxy, _, hxl, hfd⟩ := DataW.trod_struct he h2
  match xs, hxl, cs, hlen with
  | [y0, y1, y2, y3, y4, y5], _, [v0, v1, v2, v3, v4, v5], _ =>
    have g0 := hfd 0 f0 rfl
    have g1 := hfd 1 f1 rfl
    have g2 := hfd 2 f2 rfl
    have g3 := hfd 3 f3 rfl
    have g4 := hfd 4 f4 rfl
    have g5 := hfd 5 f5 rfl
    simp [o0, n0] at g0
    simp [o1, n1] at g1
    simp [o2, n2] at g2
    simp [o3, n3] at g3
    simp [o4, n4] at g4
    simp [o5, n5] at g5
    obtain ⟨z0, e0, _, w0⟩ := DataW.trod_int u0 g0
    obtain ⟨s1, e1, x1, _⟩ := DataW.trod_string u1 g1
    obtain ⟨s2, e2, x2, _⟩ := DataW.trod_string u2 g2
    obtain ⟨z3, e3, _, w3⟩ := DataW.trod_int u3 g3
    obtain ⟨z4, e4, _, w4⟩ := DataW.trod_int u4 g4
    have hD : D = .agg [y0.1, y1.1, y2.1, y3.1, y4.1, y5.1] := by
      have := congrArg Prod.fst hxy
      simpa using this
    have hpart : ∀ (j : Nat) (tj : TypeId) (dj : DataW H), [f0.type, f1.type, f2.type, f3.type, f4.type, f5.type][j]? = some tj → [y0.1, y1.1, y2.1, y3.1, y4.1, y5.1][j]? = some dj → ∀ n ∈ dj.weights P tj, n ≤ reachBytes := by
      intro j tj dj h3 h4 n hn
      refine hin n ?_
      rw [hD]
      simp only [DataW.weights, he]
      exact DataW.weights_mem_each (by simpa using h3) h4 n hn
    have b1 : s1.size ≤ 140737488351232 := by
      have := hpart 1 _ _ rfl rfl s1.data.toList.length (by rw [x1]; simp [DataW.weights])
      simpa [reachBytes] using this
    have b2 : s2.size ≤ 140737488351232 := by
      have := hpart 2 _ _ rfl rfl s2.data.toList.length (by rw [x2]; simp [DataW.weights])
      simpa [reachBytes] using this
    obtain ⟨K, kl, kc, hk, hkw⟩ : ∃ K kl kc, v5 = .slice K kl kc ∧ kl * 8 ≤ 140737488351232 := by
      rcases open_ints u5 uk ck g5 with ⟨h3, _⟩ | ⟨a5, l5, c5, zs, h3, _, h4, _, h5, h6, _⟩
      · refine ⟨none, 0, 0, by simpa using h3, by omega⟩
      · refine ⟨some a5, l5, c5, by simpa using h3, ?_⟩
        simp only [if_true] at h5
        have := hpart 5 _ _ rfl rfl ((lits (H := H) .i64 (zs.take l5)).length * 8 + (lits (H := H) .i64 (zs.drop l5)).length * 8) (by rw [h6]; simp only [DataW.weights, u5, bk, ← Nat.add_mul]; exact List.mem_cons_self)
        simp only [lits, List.length_map, List.length_take, List.length_drop, reachBytes] at this
        omega
    subst hk
    obtain ⟨Z, hZ⟩ := view_ints u5 uk ck (A := K) (len := kl) (cap := kc) (W := W) (enc := enc) (d := y5.1) (p := y5.2) (fuel := q) (by simpa [Value.cells] using g5)
    simp only [List.cons.injEq, and_true] at e0 e1 e2 e3 e4
    subst e0 e1 e2 e3 e4
    exact ⟨⟨z0, s1, s2, z3, z4, K, kl, kc, Z⟩, ⟨w0, w3, w4, b1, b2, hZ, hkw⟩, rfl⟩

/-- A step of layer 8 as it lies in memory: one of layer 7, and a row of texts. -/
structure SV8 where
  s : SV
  L : Option Addr
  ll : Nat
  lc : Nat
  ts : List ByteArray
structure SV8ok (W : World) (v : SV8) : Prop where
  s : SVok W v.s
  l : StrsView W v.L v.ll v.lc v.ts
structure SV8at (W : World) (b o : Nat) (v : SV8) : Prop where
  s : SVat W b o v.s
  c6 : W.cell? ⟨b, o + 6, none⟩ = some (.slice v.L v.ll v.lc)
theorem SV8at.below {W W' : World} {b o : Nat} {v : SV8} (h : SV8at W b o v) (hb : Below W.heap.size W W') : SV8at W' b o v :=
  ⟨h.s.below hb, (hb.cell (p := ⟨b, o + 6, none⟩) h.s.lt).trans h.c6⟩
structure Steps8View (W : World) (A : Option Addr) (len cap : Nat) (l : List SV8) : Prop where
  length : l.length = len
  fits : len ≤ cap
  few : len * 104 ≤ 140737488351232
  none : A = none → len = 0 ∧ cap = 0
  ok : ∀ s ∈ l, SV8ok W s
  cell : ∀ i (h : i < l.length), ∃ b off, A = some ⟨b, off, .none⟩ ∧ SV8at W b (off + i * 7) l[i]

theorem view_steps8 {H : Type} {enc : TypeId × Value → H} {P : Program} {W : World} {t e : TypeId} {g0 g1 : Field} {f0 f1 f2 f3 f4 f5 : Field} {k lt : TypeId} {fuel : Nat} {A : Option Addr} {len cap : Nat} {d : DataW H} {p : List MemPlace}
    (ht : P.underlying t = some (.slice e)) (he8 : P.underlying e = some (.struct #[g0, g1])) (ce : P.cellsOf e = 7) (be : P.bytesOf e = 104) (a0 : g0.offset = 0) (a1 : g1.offset = 6) (m0 : P.cellsOf g0.type = 6) (m1 : P.cellsOf g1.type = 1)
    (v1 : P.underlying g1.type = some (.slice lt)) (vt : P.underlying lt = some .string) (ct : P.cellsOf lt = 1) (bt : P.bytesOf lt = 16)
    (he : P.underlying g0.type = some (.struct #[f0, f1, f2, f3, f4, f5]))
    (o0 : f0.offset = 0) (o1 : f1.offset = 1) (o2 : f2.offset = 2) (o3 : f3.offset = 3) (o4 : f4.offset = 4) (o5 : f5.offset = 5)
    (n0 : P.cellsOf f0.type = 1) (n1 : P.cellsOf f1.type = 1) (n2 : P.cellsOf f2.type = 1) (n3 : P.cellsOf f3.type = 1) (n4 : P.cellsOf f4.type = 1) (n5 : P.cellsOf f5.type = 1)
    (u0 : P.underlying f0.type = some (.int .i64)) (u1 : P.underlying f1.type = some .string) (u2 : P.underlying f2.type = some .string) (u3 : P.underlying f3.type = some (.int .i64)) (u4 : P.underlying f4.type = some (.int .u8))
    (u5 : P.underlying f5.type = some (.slice k)) (uk : P.underlying k = some (.int .i64)) (ck : P.cellsOf k = 1) (bk : P.bytesOf k = 8)
    (hf : DataW.trod enc P W 0 (fun _ => true) true fuel t (Value.slice A len cap).cells.toList = some (d, p)) (hw : ∀ n ∈ d.weights P t, n ≤ reachBytes) : ∃ l, Steps8View W A len cap l := by
  rcases Go.Deep.open_slice ht hf with ⟨hcs, hx⟩ | ⟨a, len', cap', m, fu, D, Pl, hcs, _, hl, hm, hmm, hx, hel⟩
  · simp [Value.cells] at hcs
    obtain ⟨rfl, rfl, rfl⟩ := hcs
    exact ⟨[], rfl, Nat.le_refl _, by omega, fun _ => ⟨rfl, rfl⟩, (fun s hs => by cases hs), (fun i hi => by simp at hi)⟩
  · simp [Value.cells] at hcs
    obtain ⟨rfl, rfl, rfl⟩ := hcs
    simp only [if_true] at hmm
    subst hmm
    simp only [Prod.mk.injEq] at hx
    obtain ⟨rfl, rfl⟩ := hx
    have each : ∀ i, i < len → ∃ s : SV8, SV8ok W s ∧ ∃ b off, a = ⟨b, off, .none⟩ ∧ SV8at W b (off + i * 7) s := by
      intro i hi
      obtain ⟨cs, h1, h2⟩ := hel i (by omega)
      rw [ce] at h1
      obtain ⟨_, hlen, hcell⟩ := World.cells?_some h1
      obtain ⟨xs, q, _, hxy, _, hxl, hfd⟩ := DataW.trod_struct he8 h2
      have hin : ∀ n ∈ (D i).weights P e, n ≤ reachBytes := fun n hn => hw n (by
        simp only [DataW.weights, ht]
        exact List.mem_cons_of_mem _ (List.mem_append_left _ (steps_weight_all (List.mem_map.2 ⟨i, List.mem_range.2 hi, rfl⟩) n hn)))
      match xs, hxl, cs, hlen with
      | [y0, y1], _, [c0, c1, c2, c3, c4, c5, c6], _ =>
        have k0 := hfd 0 g0 rfl
        have k1 := hfd 1 g1 rfl
        simp [a0, m0] at k0
        simp [a1, m1] at k1
        have hD : D i = .agg [y0.1, y1.1] := by
          have := congrArg Prod.fst hxy
          simpa using this
        have hpart : ∀ (j : Nat) (tj : TypeId) (dj : DataW H), [g0.type, g1.type][j]? = some tj → [y0.1, y1.1][j]? = some dj → ∀ n ∈ dj.weights P tj, n ≤ reachBytes := by
          intro j tj dj h3 h4 n hn
          refine hin n ?_
          rw [hD]
          simp only [DataW.weights, he8]
          exact DataW.weights_mem_each (by simpa using h3) h4 n hn
        obtain ⟨s, hs, hcs⟩ := open_step he o0 o1 o2 o3 o4 o5 n0 n1 n2 n3 n4 n5 u0 u1 u2 u3 u4 u5 uk ck bk rfl k0 (hpart 0 _ _ rfl rfl)
        obtain ⟨L, ll, lc, hL⟩ : ∃ L ll lc, c6 = .slice L ll lc := by
          rcases open_strings v1 vt ct k1 with ⟨h3, _⟩ | ⟨a5, l5, c5, zs, h3, _⟩
          · exact ⟨Option.none, 0, 0, by simpa using h3⟩
          · exact ⟨some a5, l5, c5, by simpa using h3⟩
        subst hL
        obtain ⟨ts, hts⟩ := view_strs v1 vt ct bt (A := L) (len := ll) (cap := lc) (W := W) (enc := enc) (d := y1.1) (p := y1.2) (fuel := q) (by simpa [Value.cells] using k1) (hpart 1 _ _ rfl rfl)
        simp only [List.cons.injEq, and_true] at hcs
        obtain ⟨rfl, rfl, rfl, rfl, rfl, rfl⟩ := hcs
        have hc : ∀ j, j < 7 → W.cell? ((a.add (i * 7)).add j) = [Value.int .i64 s.what, .string s.name, .string s.text, .int .i64 s.n, .int .u8 s.by_, .slice s.K s.kl s.kc, .slice L ll lc][j]? := hcell
        obtain ⟨cs0, q1, _⟩ := hel 0 (by omega)
        rw [ce] at q1
        obtain ⟨_, q2, q3⟩ := World.cells?_some q1
        have h00 := q3 0 (by decide)
        rw [List.getElem?_eq_getElem (by omega)] at h00
        obtain ⟨b, off, spot⟩ := a
        have hsp : spot = .none := by
          have h9 := World.cell?_spot h00
          simpa [Addr.add] using h9
        subst hsp
        have hc' : ∀ j, j < 7 → W.cell? ⟨b, off + i * 7 + j, .none⟩ = [Value.int .i64 s.what, .string s.name, .string s.text, .int .i64 s.n, .int .u8 s.by_, .slice s.K s.kl s.kc, .slice L ll lc][j]? := fun j hj => by
          have := hc j hj
          rw [add_plain, add_plain] at this
          exact this
        exact ⟨⟨s, L, ll, lc, ts⟩, ⟨hs, hts⟩, b, off, rfl, ⟨World.block_lt_of_cell? W ⟨b, off + i * 7 + 0, .none⟩ (hc' 0 (by decide)), hc' 0 (by decide), hc' 1 (by decide), hc' 2 (by decide), hc' 3 (by decide), hc' 4 (by decide), hc' 5 (by decide)⟩, hc' 6 (by decide)⟩
    haveI : Inhabited SV8 := ⟨⟨⟨0, ⟨#[]⟩, ⟨#[]⟩, 0, 0, none, 0, 0, []⟩, none, 0, 0, []⟩⟩
    obtain ⟨S, hS⟩ := Go.Deep.choose_lt each
    refine ⟨(List.range len).map S, by simp, hl, ?_, fun h => (by cases h), ?_, ?_⟩
    · have h2 := hw _ (by simp only [DataW.weights, ht]; exact List.mem_cons_self)
      rw [be] at h2
      simp only [List.length_map, List.length_range, reachBytes] at h2
      omega
    · intro s hs
      obtain ⟨i, hi, rfl⟩ := List.mem_map.1 hs
      exact (hS i (List.mem_range.1 hi)).1
    · intro i hi
      have hi' : i < len := by simpa using hi
      obtain ⟨b, off, e1, h1⟩ := (hS i hi').2
      refine ⟨b, off, by rw [e1], ?_⟩
      simpa using h1

end Go.Proofs.YtikbokbmaihdbaaGreatDoor
