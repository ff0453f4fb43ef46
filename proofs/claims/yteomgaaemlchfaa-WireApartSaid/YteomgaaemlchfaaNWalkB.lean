/-
  Contract of layer 2's Up.
-/
import Derived.Test.YteomgaaemlchfaaNBase
import Derived.OwnWalk
import Derived.Laws.IdiomStrings
import Derived.Below
namespace Go.Proofs.Yteomgaaemlchfaa
open Go.RowKit

def str (l : List UInt8) : ByteArray := ⟨l.toArray⟩
def cel (l : List UInt8) : List Value := l.map (fun b => Value.int .u8 (b.toNat : Int))
theorem cel_snoc (l : List UInt8) (c : UInt8) : cel l ++ [.int .u8 (c.toNat : Int)] = cel (l ++ [c]) := by simp [cel]

theorem info8 : (Try.prog.info? 5).map (fun i => (i.zero, i.size, i.bytes)) = some (some (.int .u8 0), 1, 1) := by kernel_rfl

/-- What Up's loop knows: the bytes so far, the rest of the number. -/
def Upp (N : Nat) (L : List UInt8) (m : Nat) : Prop := ub N = L ++ ubA (9 - L.length) m ∧ L.length ≤ 9 ∧ m < 2 ^ (64 - 7 * L.length)
theorem Upp.start (N : Nat) (h : N ≤ 18446744073709551615) : Upp N [] N := ⟨rfl, by simp, by simp; omega⟩
theorem Upp.step {N : Nat} {L : List UInt8} {m : Nat} (h : Upp N L m) (hm : 128 ≤ m) : Upp N (L ++ [UInt8.ofNat (m % 128 + 128)]) (m / 128) := by
  obtain ⟨h1, h2, h3⟩ := h
  have hl : L.length < 9 := by
    by_cases e : L.length = 9
    · rw [e] at h3; simp at h3; omega
    · omega
  refine ⟨?_, by simp; omega, ?_⟩
  · rw [h1, show 9 - L.length = (9 - (L ++ [UInt8.ofNat (m % 128 + 128)]).length) + 1 by simp; omega, ubA_step _ _ hm]
    simp
  · have hp : (2 : Nat) ^ (64 - 7 * L.length) = 2 ^ (64 - 7 * (L.length + 1)) * 128 := by
      rw [show 64 - 7 * L.length = (64 - 7 * (L.length + 1)) + 7 by omega, Nat.pow_add]
    rw [hp] at h3
    simp only [List.length_append, List.length_cons, List.length_nil, Nat.zero_add]
    exact Nat.div_lt_of_lt_mul (by rw [Nat.mul_comm]; exact h3)
theorem Upp.last {N : Nat} {L : List UInt8} {m : Nat} (h : Upp N L m) (hm : m < 128) : ub N = L ++ [UInt8.ofNat m] := by
  rw [h.1, ubA_last _ _ hm]

theorem one_cell (w : World) (v : Value) (t : TypeId) : ∀ (j : Nat) (u : Value), [v][j]? = some u → (w.alloc (.cells #[v] t)).cell? ((⟨w.heap.size, 0, none⟩ : Addr).add j) = some u := by
  intro j u hj
  match j, hj with
  | 0, hj => simp at hj; subst hj; simp [Addr.add]
theorem one_one (n : Int) : ∀ u ∈ [Value.int .u8 n], u.oneCell' = true := by intro u hu; simp at hu; subst hu; rfl

theorem byte_at (m : Nat) (h : m < 256) : Value.int .u8 (m : Int) = .int .u8 ((UInt8.ofNat m).toNat : Int) := by
  congr 1; simp; omega

theorem up_round {N m : Nat} {L : List UInt8} {w wr w1 : World} {v v' : Value} {t : TypeId} {o : Obj} (hU : Upp N L m) (h1 : 128 ≤ m)
    (hown' : w1.ownsRow w.heap.size t 1 v' (L.length + 1) (cel L ++ [.int .u8 ((m : Int) % 128 + 128)])) (hgrow : (wr.alloc o).grownBy w1 v.ownBlock) (hbw : Below w.heap.size w wr)
    (hown : (wr.alloc o).ownsRow w.heap.size t 1 v L.length (cel L)) :
    Below w.heap.size w w1 ∧ Upp N (L ++ [UInt8.ofNat (m % 128 + 128)]) (m / 128) ∧ w1.ownsRow w.heap.size t 1 v' (L ++ [UInt8.ofNat (m % 128 + 128)]).length (cel (L ++ [UInt8.ofNat (m % 128 + 128)])) := by
  have hs := hbw.size
  refine ⟨(hbw.alloc hs _).grown hgrow (by simp; omega) (fun k hk => (hown.lt k hk).1), hU.step h1, ?_⟩
  have e : Value.int .u8 ((m : Int) % 128 + 128) = .int .u8 ((UInt8.ofNat (m % 128 + 128)).toNat : Int) := by
    rw [← byte_at _ (by omega)]; congr 1
  rw [e, cel_snoc] at hown'
  simpa using hown'

theorem owns_shape {w : World} {base n : Nat} {t : TypeId} {v : Value} {xs : List Value} (h : w.ownsRow base t 1 v n xs) (hn : 0 < n) :
    ∃ (a : Addr) (cap : Nat), v = .slice (some a) n cap ∧ ∀ j u, xs[j]? = some u → w.cell? (a.add j) = some u := by
  have h' := h
  rcases h.2 with ⟨_, h0⟩ | ⟨g, cap, cur, rfl, _⟩
  · omega
  · exact ⟨_, _, rfl, h'.cells (g := g) rfl⟩

theorem up_done {N m : Nat} {L : List UInt8} {w wr w1 : World} {v v' : Value} {o : Obj} (hU : Upp N L m) (h1 : m < 128)
    (hown' : w1.ownsRow w.heap.size 5 1 v' (L.length + 1) (cel L ++ [.int .u8 (m : Int)])) (hgrow : (wr.alloc o).grownBy w1 v.ownBlock) (hbw : Below w.heap.size w wr)
    (hown : (wr.alloc o).ownsRow w.heap.size 5 1 v L.length (cel L)) :
    ∃ (a : Addr) (cap : Nat), v' = .slice (some a) (L.length + 1) cap ∧ Below w.heap.size w w1 ∧
      (convert 47 9 (.slice (some a) (L.length + 1) cap)).run Try.prog w1 = .ok (.string (str (ub N))) w1 := by
  have hs := hbw.size
  rw [byte_at m (by omega), cel_snoc, ← hU.last h1] at hown'
  have hl : (ub N).length = L.length + 1 := by rw [hU.last h1]; simp
  obtain ⟨a, cap, rfl, hc⟩ := owns_shape hown' (by omega)
  refine ⟨a, cap, rfl, (hbw.alloc hs _).grown hgrow (by simp; omega) (fun k hk => (hown.lt k hk).1), ?_⟩
  have := run_convert_bytes_back (P := Try.prog) w1 47 9 5 a cap (ub N) Try.underlying47 Try.underlying5 Try.underlying9 (fun j hj => hc j _ (by simp [cel, List.getElem?_eq_getElem hj]))
  rw [hl] at this
  exact this

set_option maxRecDepth 100000 in
set_option maxHeartbeats 1000000 in
theorem Up_any (N : Nat) (w : World) (h : N ≤ 18446744073709551615) :
    Calls Try.prog 24 #[.int .u64 N] w fun e w' => e = .returned (.string (str (ub N))) ∧ Below w.heap.size w w' := by
  obtain ⟨i0, hi, hz0, hz1, hz2⟩ := info_parts info8
  go_enter Try.func24, Try.ntmps24
  go_wp2_with (at_make; refine wpList_make_own _ rfl _ _ 47 rfl w.heap.size 5 i0 (.int .u8 0) 1 Try.underlying47 hi hz0 hz1 .i64 .i64 _ 10 rfl rfl rfl (by rw [hz2]; omega) (by unfold maxLen; omega) (Nat.le_refl _) ?_; intro w0 hown0 hgrow0)
  have hz : w.heap.size ≤ w0.heap.size := hgrow0.size
  go_loopw [0, 3] (fun n v wr => ∃ (m : Nat) (L : List UInt8), Below w.heap.size w wr ∧ n = .int .u64 m ∧ Hid (Upp N L m) ∧ L.length ≤ 9 ∧ m ≤ 18446744073709551615 ∧ wr.ownsRow w.heap.size 5 1 v L.length (cel L)) (fun n _ _ => (intOf n).toNat)
  case atStart =>
    exact ⟨N, [], (Below.refl _ w).grown hgrow0 (Nat.le_refl _) (fun k hk => by cases hk), rfl, Upp.start N h, by simp, h, hown0⟩
  case round =>
    obtain ⟨m, L, hbw, rfl, hU, hL, hm, hown⟩ := hrel
    have hzr := hbw.size
    by_cases h1 : 128 ≤ m
    · have hn : wr.heap.size ≤ (wr.alloc (.cells #[.int .u8 ((m : Int) % 128 + 128)] 5)).heap.size := by simp
      go_wp2_with (at_builtin; refine wpList_append_own _ rfl _ _ 47 rfl w.heap.size 5 i0 (.int .u8 0) 1 1 Try.underlying47 hi hz0 hz1 hz2 rfl (by decide) _ _ _ rfl (hown.alloc _) ⟨wr.heap.size, 0, none⟩ 1 1 [.int .u8 ((m : Int) % 128 + 128)] rfl rfl (one_cell _ _ _) (one_one _) (by unfold maxLen; omega) (by omega) (by simp; omega) ?_; intro v' w1 hown' hgrow hiff; clear hiff)
      have R := up_round hU.out h1 hown' hgrow hbw (hown.alloc _)
      clear hown' hgrow hown hU
      go_wp2_with fail
      go_roundw
      case rel => exact ⟨m / 128, L ++ [UInt8.ofNat (m % 128 + 128)], R.1, by go_num, R.2.1, R.2.1.2.1, by omega, R.2.2⟩
      case measure => simp [intOf]; omega
    · go_wp2_with (at_builtin; refine wpList_append_own _ rfl _ _ 47 rfl w.heap.size 5 i0 (.int .u8 0) 1 1 Try.underlying47 hi hz0 hz1 hz2 rfl (by decide) _ _ _ rfl (hown.alloc _) ⟨wr.heap.size, 0, none⟩ 1 1 [.int .u8 (m : Int)] rfl rfl (one_cell _ _ _) (one_one _) (by unfold maxLen; omega) (by omega) (by simp; omega) ?_; intro v' w1 hown' hgrow hiff; clear hiff)
      obtain ⟨a, cap, rfl, hb, hcv⟩ := up_done hU.out (by omega) hown' hgrow hbw (hown.alloc _)
      clear hown' hgrow hown hU
      go_wp2_with (simp only [hcv])
      go_ret
      exact ⟨rfl, hb⟩

end Go.Proofs.Yteomgaaemlchfaa
