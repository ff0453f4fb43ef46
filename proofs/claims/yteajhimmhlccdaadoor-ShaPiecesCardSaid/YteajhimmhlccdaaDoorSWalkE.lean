/-
  Contracts of layer 4: lay, padding.
-/
import Derived.Test.YteajhimmhlccdaaDoorSRow
import Derived.Laws.IdiomStrings
import Derived.Deep.CutBlock
namespace Go.Proofs.YteajhimmhlccdaaDoor
open Go.RowKit

theorem info5 : (Tryd.prog.info? 5).map (fun i => (i.zero, i.size, i.bytes)) = some (some (.int .u8 0), 1, 1) := by kernel_rfl
theorem cel8_snoc (l : List UInt8) (c : UInt8) : cel8 l ++ [.int .u8 (c.toNat : Int)] = cel8 (l ++ [c]) := by simp [cel8]
theorem cel8_app (l m : List UInt8) : cel8 (l ++ m) = cel8 l ++ cel8 m := by simp [cel8]
theorem cel8_at (l : List UInt8) (i : Nat) (h : i < l.length) : (cel8 l)[i]? = some (.int .u8 (l[i].toNat : Int)) := by simp [cel8, h]
theorem app_below8 {B : Nat} {w wr w1 : World} {t : TypeId} {v : Value} {n s : Nat} {xs : List Value} {o : Obj} (hgrow : (wr.alloc o).grownBy w1 v.ownBlock) (hbw : Below B w wr) (hB : B ≤ wr.heap.size) (hown : (wr.alloc o).ownsRow B t s v n xs) : Below B w w1 :=
  (hbw.alloc hB _).grown hgrow (by simp; omega) (fun k hk => (hown.lt k hk).1)
theorem byte_shr (x j : Nat) : (x : Int) / 2 ^ (8 * j) % 256 = ((UInt8.ofNat (x / 256 ^ j % 256)).toNat : Int) := by
  have e : (2 : Nat) ^ (8 * j) = 256 ^ j := by rw [Nat.pow_mul]
  have h : ((x : Int) / 2 ^ (8 * j)) = ((x / 256 ^ j : Nat) : Int) := by rw [← e]; simp
  rw [h]
  simp

set_option maxRecDepth 100000 in
set_option maxHeartbeats 1000000 in
theorem lay_any (n x : Nat) (hn : n ≤ 8) (w : World) (B : Nat) (hB : B ≤ w.heap.size) (v : Value) (L : List UInt8) (hown : w.ownsRow B 5 1 v L.length (cel8 L)) (hL : L.length ≤ 1099511627776) :
    Calls Tryd.prog 20 #[v, .int .u64 x, .int .i64 n] w fun e w' => ∃ v', e = .returned v' ∧ w'.ownsRow B 5 1 v' (L ++ be n x).length (cel8 (L ++ be n x)) ∧ Below B w w' := by
  obtain ⟨i0, hi, hz0, hz1, hz2⟩ := info_parts info5
  have HO := Lib.hid hown
  clear hown
  go_enter Tryd.func20, Tryd.ntmps20
  go_wp2_with fail
  go_loopw [0, 2] (fun u nv wr => ∃ (k : Nat) (A : List UInt8), k ≤ n ∧ nv = .int .i64 k ∧ wr.ownsRow B 5 1 u (L ++ A).length (cel8 (L ++ A)) ∧ Hid (A.length + k = n) ∧ Hid (A ++ be k x = be n x) ∧ Below B w wr) (fun _ nv _ => (intOf nv).toNat)
  case atStart => exact ⟨n, [], Nat.le_refl _, rfl, by rw [List.append_nil]; exact HO.out, by show _ = _; simp, by show _ = _; simp, Below.refl _ _⟩
  case round =>
    obtain ⟨k, A, hk, rfl, hown, HA, HE, hbw⟩ := hrel
    have hsz := hbw.size
    cases k with
    | zero =>
      have HA' : Hid (A = be n x) := by have := HE.out; show _ = _; simpa [be] using this
      go_wp2_with fail
      go_ret
      exact ⟨_, rfl, by rw [← HA'.out]; exact hown, hbw⟩
    | succ j =>
      have HV := byte_shr x j
      obtain ⟨b, hb⟩ : ∃ b, UInt8.ofNat (x / 256 ^ j % 256) = b := ⟨_, rfl⟩
      rw [hb] at HV
      have HE' : Hid ((A ++ [b]) ++ be j x = be n x) := by show _ = _; rw [← HE.out, be, hb]; simp
      clear hb HE
      have hlen : (L ++ A).length ≤ 1099511627784 := by rw [List.length_append]; have := HA.out; omega
      obtain ⟨N, hN⟩ : ∃ N, (L ++ A).length = N := ⟨_, rfl⟩
      rw [hN] at hown hlen
      have HN := Lib.hid hN
      clear hN
      go_wp2_with (at_builtin; refine wpList_append_own _ rfl _ _ 35 rfl B 5 i0 (.int .u8 0) 1 1 Tryd.underlying35 hi hz0 hz1 hz2 rfl (by decide) _ _ _ rfl (hown.alloc _) ⟨wr.heap.size, 0, none⟩ 1 1 [.int .u8 (b.toNat : Int)] rfl rfl (one_cell _ _ _) (one_one _ _) (by unfold maxLen; omega) (by omega) (by simp; omega) ?_; intro v' w1 hown' hgrow hiff; clear hiff)
      have hb1 := app_below8 hgrow hbw (by omega) (hown.alloc _)
      have ho1 : w1.ownsRow B 5 1 v' (L ++ (A ++ [b])).length (cel8 (L ++ (A ++ [b]))) := by
        rw [cel8_snoc, ← HN.out] at hown'
        rw [← List.append_assoc, List.length_append]
        exact hown'
      clear hown' hgrow hown
      go_wp2_with fail
      go_roundw
      case rel => exact ⟨j, A ++ [b], by omega, by go_num, ho1, by have := HA.out; show _ = _; rw [List.length_append]; simp; omega, HE', hb1⟩
      case measure => simp [intOf]

theorem lay_at (n x : Nat) (hn : n ≤ 8) (X : Int) (hX : Hid (X = (x : Int))) (w : World) (B : Nat) (hB : B ≤ w.heap.size) (v : Value) (m : Nat) (L : List UInt8) (hm : Hid (L.length = m)) (hown : w.ownsRow B 5 1 v m (cel8 L)) (hL : m ≤ 1099511627776) :
    Calls Tryd.prog 20 #[v, .int .u64 X, .int .i64 n] w fun e w' => ∃ v', e = .returned v' ∧ w'.ownsRow B 5 1 v' (L ++ be n x).length (cel8 (L ++ be n x)) ∧ Below B w w' := by
  rw [hX.out]
  rw [← hm.out] at hown hL
  exact lay_any n x hn w B hB v L hown hL
theorem conv_owned {w : World} {B n : Nat} {v : Value} {l : List UInt8} (hown : w.ownsRow B 5 1 v n (cel8 l)) (hn : l.length = n) (h0 : 0 < n) :
    ∃ a cap, v = .slice (some a) n cap ∧ (convert 35 9 (.slice (some a) n cap)).run Tryd.prog w = .ok (.string ⟨l.toArray⟩) w := by
  obtain ⟨A, cap, rfl, hf⟩ := owns_slice hown
  obtain ⟨g, rfl, _, _, _, _, hc⟩ := hf h0
  refine ⟨_, cap, rfl, ?_⟩
  subst hn
  refine run_convert_bytes_back w 35 9 5 ⟨g, 0, none⟩ cap l Tryd.underlying35 Tryd.underlying5 Tryd.underlying9 (fun j hj => ?_)
  have e : (⟨g, 0, none⟩ : Addr).add j = ⟨g, j, none⟩ := by unfold Addr.add; split <;> simp_all
  rw [e, (hc j hj).1, cel8_at l j hj]
theorem cel8_rep (n : Nat) : List.replicate n (Value.int .u8 0) = cel8 (List.replicate n 0) := by simp [cel8]

set_option maxRecDepth 100000 in
set_option maxHeartbeats 1000000 in
theorem padding_any (n : Nat) (hn : n ≤ 1099511627776) (w : World) :
    Calls Tryd.prog 19 #[.int .u64 n] w fun e w' => e = .returned (.string ⟨(padding n).toArray⟩) ∧ Below w.heap.size w w' := by
  obtain ⟨i0, hi, hz0, hz1, hz2⟩ := info_parts info5
  obtain ⟨z, hz⟩ : ∃ z, zer n = z := ⟨_, rfl⟩
  have hzl : z < 64 := by rw [← hz]; unfold zer; omega
  have HZ : ((119 : Int) - (n : Int) % 64) % 64 = (z : Int) := by rw [← hz]; unfold zer; omega
  have HZ' := Lib.hid hz
  clear hz
  go_enter Tryd.func19, Tryd.ntmps19
  go_upto_region 3 with (at_make; refine wpList_make_len _ rfl _ _ 35 rfl w.heap.size 5 i0 (.int .u8 0) Tryd.underlying35 hi hz0 hz1 rfl .u64 .u64 _ _ (1 + z) (9 + z) rfl rfl (by omega) (by omega) (by omega) (by rw [hz2]; omega) (by unfold maxLen; omega) (Nat.le_refl _) ?_; intro w0 hown0 hgrow0)
  have hc : w0.cell? ⟨w.heap.size, 0, none⟩ = some (.int .u8 0) := by rw [hown0.cellAt 0 (by omega), List.getElem?_replicate, if_pos (by omega)]
  have hf := hown0.frozenAt 0
  have hst := (hown0.stored 0 (.int .u8 128)).1
  have hst' : (w0.setCell ⟨w.heap.size, 0, none⟩ (.int .u8 128)).ownsRow w.heap.size 5 1 (.slice (some ⟨w.heap.size, 0, none⟩) (1 + z) (9 + z)) (1 + z) (cel8 (128 :: List.replicate z 0)) := by
    have e : (List.replicate (1 + z) (Value.int .u8 0)).set 0 (.int .u8 128) = cel8 (128 :: List.replicate z 0) := by
      rw [Nat.add_comm 1 z, List.replicate_succ, List.set_cons_zero, cel8_rep]; rfl
    rwa [e] at hst
  have hb0 : Below w.heap.size w (w0.setCell ⟨w.heap.size, 0, none⟩ (.int .u8 128)) := ((Below.refl _ w).grown hgrow0 (Nat.le_refl _) (fun k hk => by cases hk)).setCell (Nat.le_refl _) _
  have hl : Hid ((128 :: List.replicate z (0 : UInt8)).length = 1 + z) := by show _ = _; simp; omega
  have h8 : Hid ((8 : Int) * (n : Int) = ((8 * n : Nat) : Int)) := by show _ = _; omega
  clear hown0 hgrow0 hst
  have HST := Lib.hid hst'
  have HB0 := Lib.hid hb0
  have hsz := hb0.size
  have HSZ := Lib.hid hsz
  clear hst' hb0 hsz
  have HP : Hid ((128 :: List.replicate z 0) ++ be 8 (8 * n) = padding n) := by show _ = _; rw [padding, HZ'.out]; rfl
  go_wp2_with fail
  refine (lay_at 8 (8 * n) (by decide) _ h8 _ w.heap.size HSZ.out _ (1 + z) (128 :: List.replicate z 0) hl HST.out (by omega)).mono ?_
  rintro e w1 ⟨v', rfl, ho1, hb1⟩
  rw [HP.out] at ho1
  obtain ⟨a', cap, rfl, hcv⟩ := conv_owned ho1 rfl (by rw [padding_len]; omega)
  have HB1 := Lib.hid (HB0.out.trans hb1)
  clear ho1 hb1
  go_wp2_with fail
  go_ret
  exact ⟨rfl, HB1.out⟩
end Go.Proofs.YteajhimmhlccdaaDoor
