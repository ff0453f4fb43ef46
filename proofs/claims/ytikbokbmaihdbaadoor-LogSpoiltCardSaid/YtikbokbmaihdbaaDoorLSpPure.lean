/-
  LogSpoilt, plain mathematics: a record among others whose bits are turned.
-/
import Derived.Test.YtikbokbmaihdbaaDoorLWorks
namespace Go.Proofs.YtikbokbmaihdbaaDoor.logSpoilt

theorem vl_append : ∀ (x y : List UInt8), vl (x ++ y) = vl x ^^^ (vl y <<< (8 * x.length))
  | [], y => by simp [vl]
  | b :: x, y => by
    rw [List.cons_append, vl, vl_append x y, vl, Nat.shiftLeft_xor_distrib, Nat.xor_assoc, ← Nat.shiftLeft_add, List.length_cons, show 8 * x.length + 8 = 8 * (x.length + 1) by omega]
theorem turn_toNat (X : UInt8) (t : Nat) (ht : t < 8) : (UInt8.ofNat (X.toNat ^^^ 2 ^ t)).toNat = X.toNat ^^^ 2 ^ t := by
  have h : X.toNat ^^^ 2 ^ t < 2 ^ 8 := Nat.xor_lt_two_pow (UInt8.toNat_lt X) (Nat.pow_lt_pow_right (by decide) ht)
  simp only [UInt8.toNat_ofNat']
  exact Nat.mod_eq_of_lt h

/-- The record's frame with u in the text's place. -/
def hd8 (t u : List UInt8) : List UInt8 := le4 t.length ++ (le4 (ck t) ++ u)
theorem hd8_len (t u : List UInt8) : (hd8 t u).length = 8 + u.length := by simp only [hd8, List.length_append, le4_len]; omega
theorem hd8_self (t : List UInt8) : hd8 t t = fr t := rfl

/-- What the loop knows: the file's bytes are a ++ hd8 t u ++ c, u the record's bytes with bits turned (p, from bit f on). -/
structure Sp (σ : Dsk) (a t c : List UInt8) (f q p : Nat) (u : List UInt8) : Prop where
  fuse : σ.fuse = none
  room : σ.room = 65536
  file : σ.fs = [(rA, ⟨str (a ++ hd8 t u ++ c), 0, false⟩)]
  small : p < 2 ^ q
  len : u.length = t.length
  val : vl u = vl t ^^^ (p <<< f)
  zero : p = 0 → u = t
theorem Sp.skip {σ : Dsk} {a t c : List UInt8} {f q p : Nat} {u : List UInt8} (h : Sp σ a t c f q p u) : Sp σ a t c f (q + 1) p u :=
  ⟨h.fuse, h.room, h.file, Nat.lt_trans h.small (Nat.pow_lt_pow_right (by decide) (by omega)), h.len, h.val, h.zero⟩
theorem mid_eq (a t u c : List UInt8) : a ++ hd8 t u ++ c = (a ++ le4 t.length ++ le4 (ck t)) ++ (u ++ c) := by simp only [hd8, List.append_assoc]
theorem mid_len (a t : List UInt8) : (a ++ le4 t.length ++ le4 (ck t)).length = a.length + 8 := by simp only [List.length_append, le4_len]
theorem set_mid (a t u c : List UInt8) (j : Nat) (hj : j < u.length) (x : UInt8) : (a ++ hd8 t u ++ c).set (a.length + 8 + j) x = a ++ hd8 t (u.set j x) ++ c := by
  rw [mid_eq, mid_eq, List.set_append_right _ _ (by rw [mid_len]; omega), mid_len, show a.length + 8 + j - (a.length + 8) = j by omega, List.set_append_left _ _ hj]
theorem get_mid (a t u c : List UInt8) (j : Nat) (hj : j < u.length) : (a ++ hd8 t u ++ c).getD (a.length + 8 + j) 0 = u[j] := by
  have h1 : a.length + 8 + j < (a ++ hd8 t u ++ c).length := by simp only [List.length_append, hd8_len]; omega
  have h2 := set_mid a t u c j hj u[j]
  rw [List.set_getElem_self] at h2
  have h3 : ((a ++ hd8 t u ++ c).set (a.length + 8 + j) u[j])[a.length + 8 + j]'(by simpa using h1) = u[j] := List.getElem_set_self _
  have h4 : (a ++ hd8 t u ++ c)[a.length + 8 + j] = u[j] := by
    simp only [h2] at h3
    exact h3
  rw [List.getD_eq_getElem?_getD, List.getElem?_eq_getElem h1, h4]
  rfl
/-- One bit. -/
theorem Sp.turn {σ : Dsk} {a t c : List UInt8} {f q p : Nat} {u : List UInt8} (h : Sp σ a t c f q p u) (hj : (f + q) / 8 < u.length) (hb : a.length + 8 + t.length + c.length ≤ 65536) :
    p ^^^ 2 ^ q ≠ 0 ∧ ∃ τ v, spoil σ rA ((a.length + 8 + (f + q) / 8 : Nat) : Int) (UInt8.ofNat (2 ^ ((f + q) % 8))) = (τ, 0) ∧ Sp τ a t c f (q + 1) (p ^^^ 2 ^ q) v := by
  have ht : (f + q) % 8 < 8 := Nat.mod_lt _ (by decide)
  have hp := h.small
  have hg : get σ.fs rA = some ⟨str (a ++ hd8 t u ++ c), 0, false⟩ := by rw [h.file]; rfl
  have hsz : (str (a ++ hd8 t u ++ c)).size = a.length + (8 + u.length) + c.length := by rw [str_size]; simp only [List.length_append, hd8_len]
  have h2 : (2 : Nat) ^ ((f + q) % 8) < 256 := Nat.lt_of_lt_of_le (Nat.pow_lt_pow_right (by decide) ht) (by decide)
  have hof : (UInt8.ofNat (2 ^ ((f + q) % 8))).toNat = 2 ^ ((f + q) % 8) := by simp only [UInt8.toNat_ofNat']; exact Nat.mod_eq_of_lt h2
  have htx : Proofs.YtikbokbmaihdbaaDoor.turned (str (a ++ hd8 t u ++ c)) (a.length + 8 + (f + q) / 8) (UInt8.ofNat (2 ^ ((f + q) % 8))) = str (a ++ hd8 t (u.set ((f + q) / 8) (UInt8.ofNat (u[(f + q) / 8].toNat ^^^ 2 ^ ((f + q) % 8)))) ++ c) := by
    unfold Proofs.YtikbokbmaihdbaaDoor.turned
    rw [str_data, get_mid a t u c _ hj, hof, set_mid a t u c _ hj]
    rfl
  have hne : p ^^^ 2 ^ q ≠ 0 := by
    intro e
    have h1 := xor_back p (2 ^ q)
    rw [e, Nat.xor_zero] at h1
    omega
  refine ⟨hne, ⟨σ.room, σ.fuse, upd σ.fs rA ⟨str (a ++ hd8 t (u.set ((f + q) / 8) (UInt8.ofNat (u[(f + q) / 8].toNat ^^^ 2 ^ ((f + q) % 8)))) ++ c), 0, false⟩⟩, u.set ((f + q) / 8) (UInt8.ofNat (u[(f + q) / 8].toNat ^^^ 2 ^ ((f + q) % 8))), ?_, ⟨h.fuse, h.room, ?_, ?_, ?_, ?_, fun e => absurd e hne⟩⟩
  · unfold spoil
    rw [hg]
    dsimp only
    rw [if_neg (by omega), Int.toNat_natCast, htx]
  · dsimp only
    rw [h.file]
    rfl
  · exact Nat.xor_lt_two_pow (Nat.lt_trans hp (Nat.pow_lt_pow_right (by decide) (by omega))) (Nat.pow_lt_pow_right (by decide) (by omega))
  · simpa using h.len
  · rw [vl_turn (2 ^ ((f + q) % 8)) u _ hj _ (turn_toNat _ _ ht), h.val, Nat.shiftLeft_xor_distrib, Nat.xor_assoc]
    congr 2
    rw [Nat.shiftLeft_eq, Nat.shiftLeft_eq, ← Nat.pow_add, ← Nat.pow_add]
    congr 1
    omega

/-- What is scanned behind whole frames. -/
theorem sc_pre : ∀ (ts : List ByteArray) (r : List UInt8), (∀ t ∈ ts, t.size ≤ 1048576) → sc (frs ts ++ r) = (ts ++ (sc r).1, (frs ts).length + (sc r).2.1, (sc r).2.2)
  | [], r, _ => by simp [frs]
  | t :: ts, r, h => by
    have ht : t.data.toList.length ≤ 1048576 := by have := h t (by simp); rw [size_len] at this; exact this
    have ih := sc_pre ts r (fun u hu => h u (List.mem_cons_of_mem _ hu))
    rw [frs_cons, List.append_assoc, sc_step (cE_fr _ _ ht), cT_fr _ _ ht, cR_fr _ _ ht, ih, str_of, List.length_append, fr_len]
    simp [Nat.add_assoc]
theorem hd_parts (t u r : List UInt8) (ht : t.length ≤ 1048576) (hu : u.length = t.length) : cE (hd8 t u ++ r) = if ofN (le4 t.length ++ u) ≠ ofN (le4 t.length ++ t) then 60 else 0 := by
  have e0 : hd8 t u ++ r = le4 t.length ++ (le4 (ck t) ++ (u ++ r)) := by simp only [hd8, List.append_assoc]
  rw [e0]
  have hv : v4 (le4 t.length ++ (le4 (ck t) ++ (u ++ r))) = t.length := v4_le4 _ (by omega) _
  have hl : (le4 t.length ++ (le4 (ck t) ++ (u ++ r))).length = 8 + u.length + r.length := by simp only [List.length_append, le4_len]; omega
  have h2 : v4 ((le4 t.length ++ (le4 (ck t) ++ (u ++ r))).drop 4) = ck t := v4_le4 _ (ck_lt t) (u ++ r)
  have h3 : (le4 t.length ++ (le4 (ck t) ++ (u ++ r))).take 4 = le4 t.length := rfl
  have h4 : ((le4 t.length ++ (le4 (ck t) ++ (u ++ r))).drop 8).take t.length = u := by
    show (u ++ r).take t.length = u
    rw [← hu, List.take_left']
    rfl
  by_cases h : ofN (le4 t.length ++ u) ≠ ofN (le4 t.length ++ t)
  · rw [if_pos h]
    refine cE_sum (by omega) (by omega) (by omega) ?_
    rw [h2, h3, hv, h4]
    exact fun e => h e.symm
  · rw [if_neg h]
    refine cE_good (by omega) (by omega) (by omega) ?_
    rw [h2, h3, hv, h4]
    exact (by simpa using h : ofN (le4 t.length ++ u) = ofN (le4 t.length ++ t)).symm
theorem Sp.told {σ : Dsk} {a t c : List UInt8} {f q p : Nat} {u : List UInt8} (h : Sp σ a t c f q p u) (hq : q ≤ 32) (hf : f ≤ 8 * t.length) (ht : t.length ≤ 4096) :
    (p ≠ 0 → cE (hd8 t u ++ c) = 60) ∧ (p = 0 → u = t) := by
  have hp : p < 4294967296 := Nat.lt_of_lt_of_le h.small (Nat.pow_le_pow_right (n := 2) (by decide) hq)
  have hB := burst (a := le4 t.length ++ t) (b := le4 t.length ++ u) (p := p) (f := 32 + f) (by simp [h.len]) hp (by simp [le4_len]; omega) (by
    rw [vl_append, vl_append, h.val, Nat.shiftLeft_xor_distrib, ← Nat.xor_assoc, ← Nat.shiftLeft_add, le4_len, show f + 8 * 4 = 32 + f by omega])
  rw [hd_parts t u c (by omega) h.len]
  exact ⟨fun e => if_pos (hB.2 e), h.zero⟩

end Go.Proofs.YtikbokbmaihdbaaDoor.logSpoilt
