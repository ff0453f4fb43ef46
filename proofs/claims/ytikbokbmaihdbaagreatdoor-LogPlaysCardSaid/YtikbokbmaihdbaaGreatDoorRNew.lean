/-
  Layer 8: the document's log in memory ('TheRLog'): Sync, Len. (For LogPlays.)
  Layer 8: the document's Open, where the file is there. (For LogPlays.)
  Layer 8: the document's Create and Open, where there is no file. (For LogPlays.)
  Layer 8: the document's log: Append. (For LogPlays.)
-/
import Derived.Test.YtikbokbmaihdbaaGreatDoorRCut
import Derived.Test.YtikbokbmaihdbaaGreatDoorLRow
import Derived.Test.YtikbokbmaihdbaaGreatDoorLSync
import Derived.Test.YtikbokbmaihdbaaGreatDoorSQTail
import Derived.Test.YtikbokbmaihdbaaGreatDoorFRef
import Derived.BigQuiet
import Derived.Test.YtikbokbmaihdbaaGreatDoorRTold
import Derived.Laws.AppendOwnNone
namespace Go.Proofs.YtikbokbmaihdbaaGreatDoor
open Go.RowKit Go.Maps Go.ChangeShapes Go.WideShapes

def RLHead (w : World) (x gr : Nat) (v : Value) (su : Nat) (br : Bool) : Prop :=
  w.heap[x]? = some (.cells #[ptr gr, .string rA, v, .int .i64 (su : Nat), .bool br] 49 (0, 0))
section
variable {w : World} {x gr : Nat} {v : Value} {su : Nat} {br : Bool} (h : RLHead w x gr v su br)
include h
theorem RLHead.c0 : w.cell? ⟨x, 0, none⟩ = some (ptr gr) := by rw [cell_hp h]; rfl
theorem RLHead.c1 : w.cell? ⟨x, 1, none⟩ = some (.string rA) := by rw [cell_hp h]; rfl
theorem RLHead.c2 : w.cell? ⟨x, 2, none⟩ = some v := by rw [cell_hp h]; rfl
theorem RLHead.c3 : w.cell? ⟨x, 3, none⟩ = some (.int .i64 (su : Nat)) := by rw [cell_hp h]; rfl
theorem RLHead.c4 : w.cell? ⟨x, 4, none⟩ = some (.bool br) := by rw [cell_hp h]; rfl
theorem RLHead.fr (j : Nat) : w.frozen? ⟨x, j, none⟩ = false := frozen_hp h j
theorem RLHead.lt : x < w.heap.size := lt_of_heap h
end
def TheRLog : Logs := fun Q w x gr _ l => (frs l.recs).length ≤ 2199023255552 ∧ ∃ v, RLHead w x gr v l.sure l.broken ∧ w.ownsRow 0 9 1 v l.recs.length (txt l.recs) ∧ (∀ k, v.ownBlock = some k → k ≠ x) ∧ (∀ k, Q k ↔ (k = x ∨ v.ownBlock = some k))
theorem TheRLog.stays {Q : Nat → Prop} {w w' : World} {x gr : Nat} {n : ByteArray} {l : Lg} (h : TheRLog Q w x gr n l) (hk : ∀ k, Q k → w'.heap[k]? = w.heap[k]?) : TheRLog Q w' x gr n l := by
  obtain ⟨hs, v, hh, hr, hne, hQ⟩ := h
  exact ⟨hs, v, (hk x ((hQ x).2 (Or.inl rfl))).trans hh, row_keep hr (fun k hk' => hk k ((hQ k).2 (Or.inr hk'))), hne, hQ⟩
theorem TheRLog.own {Q : Nat → Prop} {w : World} {x gr : Nat} {n : ByteArray} {l : Lg} (h : TheRLog Q w x gr n l) : ∀ k, Q k → k < w.heap.size := by
  obtain ⟨hs, v, hh, hr, hne, hQ⟩ := h
  intro k hk
  rcases (hQ k).1 hk with rfl | hk
  · exact hh.lt
  · exact (hr.lt k hk).2
/-- Behind a call on the document's disk, and a change of the log's own blocks. -/
theorem rput_end {O O1 Q : Nat → Prop} {w w1 w2 : World} {x gr : Nat} {n : ByteArray} {τ : Dsk} {l : Lg} {er : Nat} {v v2 : Value} (hQ : ∀ k, Q k ↔ (k = x ∨ v.ownBlock = some k)) (hx : ∀ k, O k → ¬ Q k) (hlt : ∀ k, Q k → k < w.heap.size) (hd1 : TheRef O1 w1 gr τ) (ho1 : Only O w w1) (hn1 : ∀ k, O1 k → O k ∨ w.heap.size ≤ k)
    (hf : Only Q w1 w2) (hh : RLHead w2 x gr v2 l.sure l.broken) (hr : w2.ownsRow 0 9 1 v2 l.recs.length (txt l.recs)) (hne : ∀ k, v2.ownBlock = some k → k ≠ x) (hv2 : ∀ k, v2.ownBlock = some k → v.ownBlock = some k ∨ w1.heap.size ≤ k) (hs : (frs l.recs).length ≤ 2199023255552) : Put TheRef TheRLog O Q w x gr n (τ, l, er) (.returned (.int .i64 (er : Nat))) w2 := by
  have hnx : ∀ k, O1 k → ¬ Q k := fun k hk e => by
    rcases hn1 k hk with h | h
    · exact hx k h e
    · have := hlt k e; omega
  have hs1 := ho1.size
  refine ⟨rfl, O1, fun k => k = x ∨ v2.ownBlock = some k, hd1.stays (fun k hk => hf.block k (hd1.own k hk) (hnx k hk)), ⟨hs, v2, hh, hr, hne, fun k => Iff.rfl⟩, ?_, hn1, fun k hk => ?_, fun k hk hq => ?_⟩
  · exact ⟨hf.os.trans ho1.os, hf.tape.trans ho1.tape, hf.output.trans ho1.output, Nat.le_trans ho1.size hf.size, fun k hk hne => (hf.block k (Nat.lt_of_lt_of_le hk ho1.size) (fun e => hne (Or.inr e))).trans (ho1.block k hk (fun h => hne (Or.inl h)))⟩
  · rcases hk with rfl | hk
    · exact Or.inl ((hQ _).2 (Or.inl rfl))
    · rcases hv2 k hk with h | h
      · exact Or.inl ((hQ k).2 (Or.inr h))
      · exact Or.inr (by omega)
  · rcases hq with rfl | hq
    · exact hnx _ hk ((hQ _).2 (Or.inl rfl))
    · rcases hv2 k hq with h | h
      · exact hnx k hk ((hQ k).2 (Or.inr h))
      · have := hd1.own k hk; omega

theorem rlsync_eq {σ τ : Dsk} {n : ByteArray} {recs : List ByteArray} {su er : Nat} (h : sync σ n = (τ, er)) : lsync σ n ⟨recs, su, false⟩ = (τ, if er = 0 then ⟨recs, recs.length, false⟩ else ⟨recs, su, true⟩, er) := by
  unfold lsync
  rw [if_neg (by simp), h]

set_option maxRecDepth 100000 in
set_option maxHeartbeats 2000000 in
theorem rlog_sync {O Q : Nat → Prop} {w : World} {x gr : Nat} {σ : Dsk} {l : Lg} (hd : TheRef O w gr σ) (hl : TheRLog Q w x gr rA l) (hx : ∀ k, O k → ¬ Q k) : Calls Tryz.prog 13 #[ptr x] w (Put TheRef TheRLog O Q w x gr rA (lsync σ rA l)) := by
  have hlt := hl.own
  obtain ⟨hsz, v, hh, hr, hne, hQ⟩ := hl
  obtain ⟨recs, su, br⟩ := l
  have PE := Lib.hid (fun O1 w1 w2 τ l er v2 => rput_end (w1 := w1) (w2 := w2) (O1 := O1) (n := rA) (x := x) (gr := gr) (τ := τ) (l := l) (er := er) (v2 := v2) hQ hx hlt)
  have HSZ := Lib.hid hsz
  have HNE := Lib.hid hne
  have HR := Lib.hid hr
  have HH := Lib.hid hh
  have c4 := hh.c4
  have HD := Lib.hid hd
  have HQx : Hid (¬ O x) := fun h => hx x h ((hQ x).2 (Or.inl rfl))
  have HQr : Hid (∀ k, v.ownBlock = some k → ¬ O k) := fun k hk h => hx k h ((hQ k).2 (Or.inr hk))
  have HQi : Hid (∀ k, k = x → Q k) := fun k hk => (hQ k).2 (Or.inl hk)
  cases br with
  | true =>
    have e1 : lsync σ rA ⟨recs, su, true⟩ = (σ, ⟨recs, su, true⟩, 3) := if_pos rfl
    rw [e1]
    clear hh hr hne hQ hx hlt hsz hd
    go_enter Tryz.func13, Tryz.ntmps13
    go_wp2_with fail
    go_ret
    exact PE.out O w w σ ⟨recs, su, true⟩ 3 v HD.out (Only.refl _ _) (fun k hk => Or.inl hk) (Only.refl _ _) HH.out HR.out HNE.out (fun k hk => Or.inl hk) HSZ.out
  | false =>
    have c0 := hh.c0
    have c1 := hh.c1
    obtain ⟨A, cap, hv, hst, hlc, hcm⟩ := row_strs hr rfl
    obtain ⟨ct, hct⟩ : ∃ ct, recs.length = ct := ⟨_, rfl⟩
    have HCT := Lib.hid hct
    rw [hct] at hv
    obtain ⟨τ, er, hτ⟩ : ∃ τ er, sync σ rA = (τ, er) := ⟨_, _, rfl⟩
    have KS : Hid (∀ W, Below w.heap.size w W → Calls Tryz.prog 34 #[ptr gr, .string rA] W (Did TheRef O W gr (τ, er))) := fun W hW => by rw [← hτ]; exact ref_sync (hd.stays (fun k hk => hW.block k (hd.own k hk)))
    have HE := Lib.hid (rlsync_eq (recs := recs) (su := su) hτ)
    have HXL := Lib.hid hh.lt
    clear hh hne hQ hx hlt hsz hd hτ hst hct
    go_enter Tryz.func13, Tryz.ntmps13
    go_wp2_with fail
    refine wp_region_quiet_tail 8 (by kernel_rfl) (by kernel_rfl) ?_
    simp only [List.take_succ_cons, List.take_zero, List.drop_succ_cons, List.drop_zero]
    repeat (go_big_quiet_step (fail))
    refine wpQuiet_nil ?_
    rintro _ ⟨p, rfl⟩
    have HB1 := Lib.hid (((Below.refl w.heap.size w).drewN p))
    go_wp2_with fail
    refine (KS.out _ HB1.out).mono ?_
    rintro e w1 ⟨rfl, O1, hd1, ho1, hn1⟩
    have HD1 := Lib.hid hd1
    have HO1 := Lib.hid ((HB1.out.only O).trans ho1 (fun k hk => Or.inl hk))
    have HN1 : Hid (∀ k, O1 k → O k ∨ w.heap.size ≤ k) := fun k hk => by rcases hn1 k hk with h | h; exact Or.inl h; exact Or.inr (Nat.le_trans HB1.out.size h)
    have HH1 : Hid (RLHead w1 x gr v su false) := (HO1.out.block x HXL.out HQx.out).trans HH.out
    have HR1 := Lib.hid (row_keep HR.out (fun k hk => HO1.out.block k (HR.out.lt k hk).2 (HQr.out k hk)))
    clear hd1 ho1 hn1 KS c0 c1 c4
    by_cases h0 : er = 0
    · subst h0
      rw [if_pos rfl] at HE
      have c2 := HH1.out.c2
      rw [hv] at c2
      have d3 := HH1.out.c3
      have f3 := HH1.out.fr 3
      have hs3 := heap_set (i := 3) HH1.out (.int .i64 (ct : Nat))
      go_wp2_with fail
      go_ret
      rw [HE.out]
      refine PE.out O1 w1 _ τ ⟨recs, recs.length, false⟩ 0 v HD1.out HO1.out HN1.out ((Only.set w1 x 3 _).wide HQi.out) ?_ (row_keep HR1.out (fun k hk => Below.heap_setCell _ _ _ _ (HNE.out k hk))) HNE.out (fun k hk => Or.inl hk) HSZ.out
      show RLHead _ x gr v recs.length false
      rw [HCT.out]
      exact hs3
    · have q : ((er : Int) == 0) = false := by rw [beq_eq_false_iff_ne]; omega
      rw [if_neg h0] at HE
      have d4 := HH1.out.c4
      have f4 := HH1.out.fr 4
      have hs4 := heap_set (i := 4) HH1.out (.bool true)
      go_wp2_with fail
      go_ret
      rw [HE.out]
      exact PE.out O1 w1 _ τ ⟨recs, su, true⟩ er v HD1.out HO1.out HN1.out ((Only.set w1 x 4 _).wide HQi.out) hs4 (row_keep HR1.out (fun k hk => Below.heap_setCell _ _ _ _ (HNE.out k hk))) HNE.out (fun k hk => Or.inl hk) HSZ.out

theorem frs_len_snoc (rs : List ByteArray) (i : Nat) (h : i < rs.length) : (frs (rs.take (i + 1))).length = (frs (rs.take i)).length + (8 + rs[i].size) := by
  rw [List.take_succ_eq_append_getElem h, frs_append, List.length_append]
  have e : frs [rs[i]] = fr rs[i].data.toList := by simp [frs]
  rw [e, fr_len]
  simp
theorem frs_take_le' (rs : List ByteArray) (i : Nat) : (frs (rs.take i)).length ≤ (frs rs).length := by
  conv => rhs; rw [← List.take_append_drop i rs]
  rw [frs_append, List.length_append]
  omega
set_option maxRecDepth 100000 in
set_option maxHeartbeats 2000000 in
theorem rlog_len {Q : Nat → Prop} {w : World} {x gr : Nat} {l : Lg} (hl : TheRLog Q w x gr rA l) : Calls Tryz.prog 19 #[ptr x] w fun e w' => e = .returned (.int .i64 (llen l : Nat)) ∧ w = w' := by
  obtain ⟨hsz, v, hh, hr, hne, hQ⟩ := hl
  obtain ⟨recs, su, br⟩ := l
  dsimp only at hsz hr hh
  obtain ⟨A, cap, rfl, hst, hlc, hcm⟩ := row_strs hr rfl
  have e9 : llen ⟨recs, su, br⟩ = (frs recs).length := rfl
  have hcnt : recs.length ≤ 2199023255552 := by have := count_le recs; omega
  rw [e9]
  obtain ⟨m, hm⟩ : ∃ m, recs.length = m := ⟨_, rfl⟩
  have c2 := hh.c2
  rw [hm] at hst hlc c2 hcnt
  have HM := Lib.hid hm
  have HST := Lib.hid hst
  have HLE := Lib.hid (frs_take_le' recs)
  have HSN := Lib.hid (frs_len_snoc recs)
  clear hh hr hne hQ hst hm e9
  go_enter Tryz.func19, Tryz.ntmps19
  go_wp2_with fail
  go_loop [3, 4] (fun nv iv => ∃ i : Nat, i ≤ m ∧ iv = .int .i64 i ∧ nv = .int .i64 ((frs (recs.take i)).length : Nat)) (fun _ iv => m - (intOf iv).toNat)
  case atStart => exact ⟨0, Nat.zero_le _, rfl, rfl⟩
  case round =>
    obtain ⟨i, hi, rfl, rfl⟩ := hrel
    by_cases hlt : i < m
    · have hil : i < recs.length := by rw [HM.out]; exact hlt
      obtain ⟨b, off, rfl, hbl, hc⟩ := HST.out.cell i hil
      have h1 := HSN.out i hil
      have h2 := HLE.out (i + 1)
      obtain ⟨y, hy⟩ : ∃ y, recs[i] = y := ⟨_, rfl⟩
      rw [hy] at hc h1
      obtain ⟨a, ha⟩ : ∃ a, (frs (recs.take i)).length = a := ⟨_, rfl⟩
      rw [ha] at h1 ⊢
      have h3 : a + (8 + y.size) ≤ 2199023255552 := by omega
      have HN1 : Hid ((frs (recs.take (i + 1))).length = a + (8 + y.size)) := h1
      clear h1 h2 hy ha
      go_wp2_with fail
      go_round
      case rel => exact ⟨i + 1, by omega, by go_num, by rw [HN1.out]; go_num⟩
      case measure => simp [intOf]; omega
    · have e : recs.take i = recs := List.take_of_length_le (by rw [HM.out]; omega)
      rw [e]
      go_wp2_with fail
      go_ret
      exact ⟨rfl, rfl⟩

end Go.Proofs.YtikbokbmaihdbaaGreatDoor

namespace Go.Proofs.YtikbokbmaihdbaaGreatDoor
open Go.RowKit Go.Maps Go.ChangeShapes Go.WideShapes

def ROpened (O : Nat → Prop) (w : World) (gr : Nat) (r : Dsk × Nat × List ByteArray) (e : Ending) (w' : World) : Prop :=
  ∃ O', TheRef O' w' gr r.1 ∧ Only O w w' ∧ (∀ k, O' k → O k ∨ w.heap.size ≤ k) ∧
    ((r.2.1 = 0 ∧ ∃ x Q, e = .returned (.tuple #[ptr x, .int .i64 0]) ∧ TheRLog Q w' x gr rA ⟨r.2.2, r.2.2.length, false⟩ ∧ (∀ k, Q k → w.heap.size ≤ k) ∧ (∀ k, O' k → ¬ Q k)) ∨
     (r.2.1 ≠ 0 ∧ e = .returned (.tuple #[.pointer none, .int .i64 (r.2.1 : Nat)])))
theorem ropened_fail {O O3 : Nat → Prop} {w w3 : World} {gr : Nat} {τ : Dsk} {er : Nat} (hd3 : TheRef O3 w3 gr τ) (ho3 : Only O w w3) (hn3 : ∀ k, O3 k → O k ∨ w.heap.size ≤ k) (her : er ≠ 0) :
    ROpened O w gr (τ, er, []) (.returned (.tuple #[.pointer none, .int .i64 (er : Nat)])) w3 := ⟨O3, hd3, ho3, hn3, Or.inr ⟨her, rfl⟩⟩
theorem ropened_end {O O3 : Nat → Prop} {w w3 : World} {gr : Nat} {τ : Dsk} {ts : List ByteArray} {A : Option Addr} {cap m : Nat} (hm : ts.length = m) (hd3 : TheRef O3 w3 gr τ) (ho3 : Only O w w3) (hn3 : ∀ k, O3 k → O k ∨ w.heap.size ≤ k) (hr : w3.ownsRow 0 9 1 (.slice A m cap) m (txt ts)) (hrn : ∀ k, (Value.slice A m cap).ownBlock = some k → w.heap.size ≤ k ∧ ¬ O3 k) (hs : (frs ts).length ≤ 1048576) :
    ROpened O w gr (τ, 0, ts) (.returned (.tuple #[ptr w3.heap.size, .int .i64 0])) (w3.alloc (.cells #[ptr gr, .string rA, .slice A m cap, .int .i64 (m : Nat), .bool false] 49)) := by
  subst hm
  have hb := (Below.refl w3.heap.size w3).alloc (Nat.le_refl _) (Obj.cells #[ptr gr, .string rA, .slice A ts.length cap, .int .i64 (ts.length : Nat), .bool false] 49)
  have h1 := ho3.size
  refine ⟨O3, hd3.stays (fun k hk => hb.block k (hd3.own k hk)), ho3.trans (hb.only O3) (fun i hi => hn3 i hi), hn3, Or.inl ⟨rfl, w3.heap.size, fun k => k = w3.heap.size ∨ (Value.slice A ts.length cap).ownBlock = some k, rfl, ⟨by show (frs ts).length ≤ _; omega, .slice A ts.length cap, heap_alloc_new w3 _, row_keep hr (fun k hk => hb.block k (hr.lt k hk).2), fun k hk e => ?_, fun k => Iff.rfl⟩, fun k hk => ?_, fun k hk hq => ?_⟩⟩
  · have := (hr.lt k hk).2; omega
  · rcases hk with rfl | hk
    · exact h1
    · exact (hrn k hk).1
  · rcases hq with rfl | hq
    · have := hd3.own _ hk; omega
    · exact (hrn k hq).2 hk

set_option maxRecDepth 100000 in
set_option maxHeartbeats 4000000 in
theorem ropen_at {O : Nat → Prop} {w : World} {gr : Nat} {σ : Dsk} (hd : TheRef O w gr σ) (hr : σ.room ≤ 1048576) : Calls Tryz.prog 9 #[ptr gr, .string rA] w (ROpened O w gr (lopen σ rA)) := by
  have HD := Lib.hid hd
  obtain ⟨hi, hz, v, f, hfs, hfr, h, hrr, hne, hO⟩ := hd
  have hg : get σ.fs rA = some f := by rw [hfs]; exact get_one f
  have hu : used σ.fs = f.text.size := by rw [hfs]; exact used_one f
  have hfT : f.text.size ≤ 1048576 := by have h1 := hi.room; omega
  obtain ⟨T, hT0⟩ : ∃ T, f.text = T := ⟨_, rfl⟩
  obtain ⟨fl, hfl⟩ : ∃ fl, f.loose = fl := ⟨_, rfl⟩
  obtain ⟨ts, k, er0, hsc⟩ : ∃ ts k e, sc f.text.data.toList = (ts, k, e) := ⟨_, _, _, rfl⟩
  have hsz := sc_size _ f.text.data.toList (Nat.le_refl _)
  rw [hsc] at hsz
  have hK : (frs ts).length = k := hsz.1
  have hkl : k ≤ f.text.size := by have := hsz.2; simpa using this
  have hmk : made σ rA = (σ, 0) := by unfold made; rw [hg]; rfl
  have hno : (get σ.fs rA).isNone = false := by rw [hg]; rfl
  have hrec : recsOf σ rA = ts := by unfold recsOf; rw [hg]; show (sc f.text.data.toList).1 = ts; rw [hsc]
  have hfit1 : k < f.text.size → fit σ rA false = cut σ rA (k : Nat) := fun h => by unfold fit; rw [hg]; dsimp only; rw [show (scanOf f).2.1 = k by unfold scanOf; rw [hsc], if_pos h]
  have hfit2 : ¬ k < f.text.size → 0 < f.loose → fit σ rA false = sync σ rA := fun h h2 => by unfold fit; rw [hg]; dsimp only; rw [show (scanOf f).2.1 = k by unfold scanOf; rw [hsc], if_neg h, if_pos (Or.inr h2)]
  have hfit3 : ¬ k < f.text.size → ¬ 0 < f.loose → fit σ rA false = (σ, 0) := fun h h2 => by unfold fit; rw [hg]; dsimp only; rw [show (scanOf f).2.1 = k by unfold scanOf; rw [hsc], if_neg h, if_neg (by simp; omega)]
  have EB : Hid (∀ τ er, fit σ rA false = (τ, er) → er ≠ 0 → lopen σ rA = (τ, er, [])) := fun τ er h h0 => lopen_b2 hmk (by rw [hno]; exact h) h0
  have EG : Hid (∀ τ, fit σ rA false = (τ, 0) → lopen σ rA = (τ, 0, ts)) := fun τ h => lopen_ok hmk (by rw [hno]; exact h) hrec
  rw [hT0] at hsc hfT hkl hfit1 hfit2 hfit3
  rw [hfl] at hfit2 hfit3
  have hkm : k ≤ 1048576 := by omega
  obtain ⟨m, hm⟩ : ∃ m, ts.length = m := ⟨_, rfl⟩
  have HM := Lib.hid hm
  have HKK := Lib.hid hK
  have HSC := Lib.hid hsc
  have F1 := Lib.hid hfit1
  have F2 := Lib.hid hfit2
  have F3 := Lib.hid hfit3
  obtain ⟨q, c, rfl, hc⟩ := RRow.cells1 h hrr
  have HC := Lib.hid hc
  have HG : Hid (gr < w.heap.size) := lt_of_heap h
  have KA : Hid (∀ W, (∃ n, W = w.drewN n) → Calls Tryz.prog 30 #[ptr gr, .string rA] W fun e w' => e = .returned (.int .i64 0) ∧ ∃ n, w' = W.drewN n) := fun W hW => by
    obtain ⟨n, rfl⟩ := hW
    refine (rat_one (w := w.drewN n) (f := f) (z := σ.fuse) (room := σ.room) (v := .slice (some ⟨q, 0, none⟩) 1 c) h (rrow_kept hrr (fun _ _ => rfl))).mono ?_
    rintro e w' ⟨rfl, rfl⟩
    exact ⟨rfl, 0, rfl⟩
  have KA0 := rat_one h hrr
  have KA2 : Hid (∀ W, Below w.heap.size w W → Calls Tryz.prog 30 #[ptr gr, .string rA] W fun e w' => e = .returned (.int .i64 0) ∧ ∃ n, w' = W.drewN n) := fun W hW => by
    refine (rat_one (w := W) (f := f) (z := σ.fuse) (room := σ.room) (v := .slice (some ⟨q, 0, none⟩) 1 c) ((hW.block gr (lt_of_heap h)).trans h) (rrow_kept hrr (fun k hk => hW.block k (hrr.lt k hk).2))).mono ?_
    rintro e w' ⟨rfl, rfl⟩
    exact ⟨rfl, 0, rfl⟩
  have c1 := hc.c1
  have n1 := hc.n1
  rw [hT0] at n1
  have hc1 := hc.one
  have HOW := Lib.hid HD.out.own
  clear hi hz hfs hfr h hrr hne hO hg hu hsz hK hmk hno hrec hfit1 hfit2 hfit3 hsc hc hm
  go_enter Tryz.func9, Tryz.ntmps9
  go_wp2_with (go_at_call 30; refine KA0.mono ?_; rintro e w' ⟨rfl, rfl⟩)
  go_quiet ((go_at_call 30; exact Calls.quiet_of (KA.out _ ⟨_, rfl⟩)))
  have HB1 := Lib.hid ((Below.refl w.heap.size w).drewN nq)
  clear KA c1 n1
  obtain ⟨w1, hw1⟩ : ∃ w1, w.drewN nq = w1 := ⟨_, rfl⟩
  rw [hw1] at HB1 ⊢
  clear hw1
  go_wp2_with fail
  refine (Scan_ref0 T hfT _ ts k er0 HSC).mono ?_
  rintro e w2 ⟨A, cap, rfl, hown, hb2⟩
  have HB2 := Lib.hid (HB1.out.trans (hb2.mono HB1.out.size))
  have HR2 := Lib.hid (row_base hown HB1.out.size)
  rw [HM.out] at HR2 ⊢
  clear hown hb2 HB1 HSC
  have HD2 := Lib.hid (HD.out.stays (fun k hk => HB2.out.block k (HOW.out k hk)))
  have HRN : Hid (∀ k, (Value.slice A m cap).ownBlock = some k → w.heap.size ≤ k ∧ ¬ O k) := fun k hk => ⟨(HR2.out.lt k hk).1, fun h => by have h1 := HOW.out k h; have h2 := (HR2.out.lt k hk).1; omega⟩
  by_cases hk : k < T.size
  · have d1 : decide ((k : Int) < (T.size : Int)) = true := decide_eq_true (by omega)
    have KC := ref_cut (k : Nat) HD2.out
    obtain ⟨τ, er, hτ⟩ : ∃ τ er, cut σ rA (k : Nat) = (τ, er) := ⟨_, _, rfl⟩
    rw [hτ] at KC
    have HF : Hid (fit σ rA false = (τ, er)) := (F1.out hk).trans hτ
    clear hτ F1 F2 F3 KA2
    go_wp2_with fail
    refine KC.mono ?_
    rintro e w3 ⟨rfl, O3, hd3, ho3, hn3⟩
    have HD4 := Lib.hid hd3
    have HO4 := Lib.hid ((HB2.out.only O).trans ho3 (fun k hk => Or.inl hk))
    have HN4 : Hid (∀ k, O3 k → O k ∨ w.heap.size ≤ k) := fun k hk => by rcases hn3 k hk with h | h; exact Or.inl h; exact Or.inr (Nat.le_trans HB2.out.size h)
    have HR4 := Lib.hid (row_keep HR2.out (fun k hk => ho3.block k (HR2.out.lt k hk).2 (HRN.out k hk).2))
    have HRN4 : Hid (∀ k, (Value.slice A m cap).ownBlock = some k → w.heap.size ≤ k ∧ ¬ O3 k) := fun k hk => ⟨(HRN.out k hk).1, fun h => by
      rcases hn3 k h with h1 | h1
      · exact (HRN.out k hk).2 h1
      · have := (HR2.out.lt k hk).2; omega⟩
    clear hd3 ho3 hn3 KC
    by_cases h0 : er = 0
    · subst h0
      have HE := Lib.hid (EG.out τ HF.out)
      clear EB EG HF
      go_wp2_with fail
      go_ret2
      rw [HE.out]
      exact ropened_end HM.out HD4.out HO4.out HN4.out (row_base HR4.out (Nat.zero_le _)) HRN4.out (by rw [HKK.out]; exact hkm)
    · have q : ((er : Int) == 0) = false := by rw [beq_eq_false_iff_ne]; omega
      have HE := Lib.hid (EB.out τ er HF.out h0)
      clear EB EG HF
      go_wp2_with fail
      go_ret2
      rw [HE.out]
      exact ropened_fail HD4.out HO4.out HN4.out h0
  · have d1 : decide ((k : Int) < (T.size : Int)) = false := decide_eq_false (by omega)
    have HC2 := Lib.hid (HC.out.kept (HB2.out.block gr HG.out) (HB2.out.block q HC.out.lt) HB2.out.size)
    have c1 := HC2.out.c1
    have n2 := HC2.out.n2
    rw [hfl] at n2
    have KQ : Hid (∀ n, Calls Tryz.prog 30 #[ptr gr, .string rA] (w2.drewN n) fun e w' => e = .returned (.int .i64 0) ∧ ∃ n', w' = (w2.drewN n).drewN n') := fun n => KA2.out _ (HB2.out.drewN n)
    by_cases hl : 0 < fl
    · have d2 : decide (0 < fl) = true := decide_eq_true (by omega)
      have d3 : decide ((0 : Int) < (fl : Int)) = true := decide_eq_true (by omega)
      go_wp2_with fail
      go_quiet ((go_at_call 30; exact Calls.quiet_of (KQ.out _)))
      have HB3 : Hid (Below w.heap.size w (w2.drewN nq)) := HB2.out.drewN nq
      have HR3 := Lib.hid (owns_below HR2.out ((Below.refl _ w2).drewN nq))
      clear KQ c1 n2 HC2 HB2 HD2 HR2 KA2
      generalize w2.drewN nq = w3 at *
      clear w2
      have HD2 := Lib.hid (HD.out.stays (fun k hk => HB3.out.block k (HOW.out k hk)))
      have HB2 := HB3
      have HR2 := HR3
      clear HB3 HR3
      have KC := ref_sync HD2.out
      obtain ⟨τ, er, hτ⟩ : ∃ τ er, sync σ rA = (τ, er) := ⟨_, _, rfl⟩
      rw [hτ] at KC
      have HF : Hid (fit σ rA false = (τ, er)) := (F2.out hk hl).trans hτ
      clear hτ F1 F2 F3
      go_wp2_with fail
      refine KC.mono ?_
      rintro e w3 ⟨rfl, O3, hd3, ho3, hn3⟩
      have HD4 := Lib.hid hd3
      have HO4 := Lib.hid ((HB2.out.only O).trans ho3 (fun k hk => Or.inl hk))
      have HN4 : Hid (∀ k, O3 k → O k ∨ w.heap.size ≤ k) := fun k hk => by rcases hn3 k hk with h | h; exact Or.inl h; exact Or.inr (Nat.le_trans HB2.out.size h)
      have HR4 := Lib.hid (row_keep HR2.out (fun k hk => ho3.block k (HR2.out.lt k hk).2 (HRN.out k hk).2))
      have HRN4 : Hid (∀ k, (Value.slice A m cap).ownBlock = some k → w.heap.size ≤ k ∧ ¬ O3 k) := fun k hk => ⟨(HRN.out k hk).1, fun h => by
        rcases hn3 k h with h1 | h1
        · exact (HRN.out k hk).2 h1
        · have := (HR2.out.lt k hk).2; omega⟩
      clear hd3 ho3 hn3 KC
      by_cases h0 : er = 0
      · subst h0
        have HE := Lib.hid (EG.out τ HF.out)
        clear EB EG HF
        go_wp2_with fail
        go_ret2
        rw [HE.out]
        exact ropened_end HM.out HD4.out HO4.out HN4.out (row_base HR4.out (Nat.zero_le _)) HRN4.out (by rw [HKK.out]; exact hkm)
      · have q : ((er : Int) == 0) = false := by rw [beq_eq_false_iff_ne]; omega
        have HE := Lib.hid (EB.out τ er HF.out h0)
        clear EB EG HF
        go_wp2_with fail
        go_ret2
        rw [HE.out]
        exact ropened_fail HD4.out HO4.out HN4.out h0
    · have d2 : decide (0 < fl) = false := decide_eq_false (by omega)
      have d3 : decide ((0 : Int) < (fl : Int)) = false := decide_eq_false (by omega)
      have HE := Lib.hid (EG.out σ (F3.out hk hl))
      clear F1 F2 F3 EB EG
      go_wp2_with fail
      go_quiet ((go_at_call 30; exact Calls.quiet_of (KQ.out _)))
      have HB3 : Hid (Below w.heap.size w (w2.drewN nq)) := HB2.out.drewN nq
      have HR3 := Lib.hid (owns_below HR2.out ((Below.refl _ w2).drewN nq))
      clear KQ c1 n2 HC2 HB2 HD2 HR2 KA2
      generalize w2.drewN nq = w3 at *
      clear w2
      have HD3 := Lib.hid (HD.out.stays (fun k hk => HB3.out.block k (HOW.out k hk)))
      go_wp2_with fail
      go_ret2
      rw [HE.out]
      exact ropened_end HM.out HD3.out (HB3.out.only O) (fun k hk => Or.inl hk) (row_base HR3.out (Nat.zero_le _)) HRN.out (by rw [HKK.out]; exact hkm)

end Go.Proofs.YtikbokbmaihdbaaGreatDoor

namespace Go.Proofs.YtikbokbmaihdbaaGreatDoor
open Go.RowKit Go.Maps Go.ChangeShapes Go.WideShapes

theorem rmay (w : World) : Calls Tryz.prog 61 #[.string rA] w fun e w' => e = .returned (.bool true) ∧ w = w' := by
  go_enter Tryz.func61, Tryz.ntmps61
  go_wp2_with fail
  go_loop [3, 4] (fun iv _ => iv = .int .i64 0 ∨ iv = .int .i64 1) (fun iv _ => 1 - (intOf iv).toNat)
  case atStart => exact Or.inl rfl
  case round =>
    rcases hrel with rfl | rfl
    · go_wp2_with fail
      go_round
      case rel => exact Or.inr (by go_num)
      case measure => simp [intOf]
    · go_wp2_with fail
      go_ret
      exact ⟨rfl, rfl⟩

set_option maxRecDepth 100000 in
set_option maxHeartbeats 2000000 in
theorem rcreate_new {w : World} {gr room : Nat} (h : RHead w gr room (.slice none 0 0) none) : Calls Tryz.prog 31 #[ptr gr, .string rA] w fun e w' =>
    e = .returned (.int .i64 0) ∧ ∃ v, RHead w' gr room v none ∧ RRow w' v [(rA, ⟨⟨#[]⟩, 0, true⟩)] ∧ (∀ k, v.ownBlock = some k → w.heap.size ≤ k) ∧ Only (fun k => k = gr) w w' := by
  have KM := rmay w
  have KD := rdown_at h
  rw [decide_eq_false (by simp)] at KD
  have KA := rat_none h ⟨rfl, .inl ⟨rfl, rfl⟩⟩
  have KN := rdone_at h (by simp) (fun k hk => by cases hk)
  have c1 := h.c1
  obtain ⟨i, hi⟩ : ∃ i, Tryz.prog.info? 73 = some i := by
    have h := infoF
    cases hq : Tryz.prog.info? 73 with
    | none => rw [hq] at h; cases h
    | some i => exact ⟨i, rfl⟩
  have HGL := Lib.hid (lt_of_heap h)
  clear h
  go_enter Tryz.func31, Tryz.ntmps31
  go_wp2_with (first
    | (go_at_call 61; refine KM.mono ?_; rintro e w' ⟨rfl, rfl⟩)
    | (go_at_call 62; refine KD.mono ?_; rintro e w' ⟨rfl, rfl⟩)
    | (go_at_call 30; refine KA.mono ?_; rintro e w' ⟨rfl, rfl⟩))
  refine KN.mono ?_
  rintro e w1 ⟨rfl, h1, ho, hs⟩
  have H1 := Lib.hid h1
  have HO1 := Lib.hid ho
  have HS1 := Lib.hid hs
  have c1 := h1.c1
  clear h1 ho hs KN KM KD KA
  go_wp2_with fail
  go_loop [5] (fun kv => kv = .int .i64 0) (fun _ => 0)
  case atStart => rfl
  case round =>
    subst hrel
    go_wp2_with (first
      | (at_builtin; refine wpList_append_file (by rfl) (.tmp 53) (.tmp 56) (by rfl) w1 ⟨#[]⟩ 0 true (by rfl) (by rfl) (by rfl) ?_; intro v5 w5 hr5 hn5 hb5; obtain ⟨A5, c5, hv5, _⟩ := hr5.lies; dsimp only [List.length_cons, List.length_nil, Nat.zero_add] at hv5; subst hv5; have HR5 := Lib.hid hr5; have HN5 := Lib.hid hn5; have HB5 := Lib.hid hb5; have H5 : Hid (RHead w5 gr room (.slice none 0 0) none) := ((hb5.block gr (lt_of_heap H1.out)).trans H1.out); have d1 := H5.out.c1; have f1 := H5.out.fr 1; have hs5 := heap_set (i := 1) H5.out (.slice A5 1 c5); clear hr5 hn5 hb5)
      | (at_builtin; refine wpList_append_own_none (by rfl) (.tmp 59) (.tmp 65) _ (by rfl) 0 73 i 4 Tryz.underlying59 hi (.slice A5 1 c5) 1 (fcs [(rA, ⟨⟨#[]⟩, 0, true⟩)]) (by rfl) HR5.out (by rfl) ?_))
    go_ret
    have hsz := HB5.out.size
    have hgl := HGL.out
    have hq5 : ∀ k, (Value.slice A5 1 c5).ownBlock = some k → k ≠ gr := fun k hk e => by have h1 := HN5.out k hk; have h2 := HS1.out; omega
    refine ⟨rfl, _, hs5, rrow_kept HR5.out (fun k hk => Below.heap_setCell _ _ _ _ (hq5 k hk)), fun k hk => by have h1 := HN5.out k hk; have h2 := HS1.out; omega, ?_⟩
    exact (HO1.out.trans (HB5.out.only _) (fun k hk => Or.inl hk)).trans (Only.set w5 gr 1 _) (fun k hk => Or.inl hk)

set_option maxRecDepth 100000 in
set_option maxHeartbeats 2000000 in
theorem ropen_new {w : World} {gr room : Nat} (h : RHead w gr room (.slice none 0 0) none) (hrm : room ≤ 1048576) : Calls Tryz.prog 9 #[ptr gr, .string rA] w (ROpened (fun k => k = gr) w gr (lopen ⟨room, none, []⟩ rA)) := by
  have hln : lopen ⟨room, none, []⟩ rA = (⟨room, none, [(rA, ⟨⟨#[]⟩, 0, false⟩)]⟩, 0, []) := lopen_new List.Pairwise.nil rfl rfl rfl (show (0 : Nat) < 16 by decide)
  have HI : Hid (Inv ⟨room, none, [(rA, ⟨⟨#[]⟩, 0, false⟩)]⟩) := by have h1 := (Inv.fresh (room := room) (by omega)).lopen rA; rw [hln] at h1; exact h1
  rw [hln]
  clear hln
  have KA0 := rat_none h ⟨rfl, .inl ⟨rfl, rfl⟩⟩
  have KC := rcreate_new h
  have HGL := Lib.hid (lt_of_heap h)
  clear h
  go_enter Tryz.func9, Tryz.ntmps9
  go_wp2_with (go_at_call 30; refine KA0.mono ?_; rintro e w' ⟨rfl, rfl⟩)
  refine KC.mono ?_
  rintro e w1 ⟨rfl, v, h1, hr1, hn1, ho1⟩
  obtain ⟨q, c, rfl, hc⟩ := RRow.cells1 h1 hr1
  have H1 := Lib.hid h1
  have HR1 := Lib.hid hr1
  have HN1 := Lib.hid hn1
  have HO1 := Lib.hid ho1
  have KA : Hid (∀ n, Calls Tryz.prog 30 #[ptr gr, .string rA] (w1.drewN n) fun e w' => e = .returned (.int .i64 0) ∧ ∃ n', w' = (w1.drewN n).drewN n') := fun n => by
    refine (rat_one (w := w1.drewN n) (f := ⟨⟨#[]⟩, 0, true⟩) (z := none) (room := room) (v := .slice (some ⟨q, 0, none⟩) 1 c) h1 (rrow_kept hr1 (fun _ _ => rfl))).mono ?_
    rintro e w' ⟨rfl, rfl⟩
    exact ⟨rfl, 0, rfl⟩
  obtain ⟨T, hT⟩ : ∃ T : ByteArray, ⟨#[]⟩ = T := ⟨_, rfl⟩
  have hTs : T.size = 0 := by rw [← hT]; rfl
  have HSC : Hid (sc T.data.toList = ([], 0, 0)) := by show _ = _; rw [← hT]; rfl
  have c1 := hc.c1
  have n1 := hc.n1
  have hc1 := hc.one
  have HC := Lib.hid hc
  dsimp only at n1
  rw [hT] at n1
  have HT := Lib.hid hT
  clear h1 hr1 hn1 ho1 hc KC KA0 hT
  go_wp2_with fail
  go_quiet ((go_at_call 30; exact Calls.quiet_of (KA.out _)))
  have HB2 := Lib.hid ((Below.refl w1.heap.size w1).drewN nq)
  clear KA c1 n1
  obtain ⟨w2, hw2⟩ : ∃ w2, w1.drewN nq = w2 := ⟨_, rfl⟩
  rw [hw2] at HB2 ⊢
  clear hw2
  go_wp2_with fail
  refine (Scan_ref0 T (by omega) _ [] 0 0 HSC).mono ?_
  rintro e w3 ⟨A, cap, rfl, hown, hb3⟩
  have HB3 := Lib.hid (HB2.out.trans (hb3.mono HB2.out.size))
  have HR3 := Lib.hid (row_base hown HB2.out.size)
  obtain ⟨m, hm⟩ : ∃ m, ([] : List ByteArray).length = m := ⟨_, rfl⟩
  rw [hm] at HR3 ⊢
  have HM := Lib.hid hm
  have d1 : decide ((0 : Int) < (T.size : Int)) = false := decide_eq_false (by omega)
  have d2 : decide (0 < T.size) = false := decide_eq_false (by omega)
  have h3 : RHead w3 gr room (.slice (some ⟨q, 0, none⟩) 1 c) none := (HB3.out.block gr (lt_of_heap H1.out)).trans H1.out
  have hr3 : RRow w3 (.slice (some ⟨q, 0, none⟩) 1 c) [(rA, ⟨⟨#[]⟩, 0, true⟩)] := rrow_kept HR1.out (fun k hk => HB3.out.block k (HR1.out.lt k hk).2)
  have HC3 := Lib.hid (HC.out.kept (HB3.out.block gr (lt_of_heap H1.out)) (HB3.out.block q HC.out.lt) HB3.out.size)
  have c1 := HC3.out.c1
  have n2 : w3.cell? ⟨q, 2, none⟩ = some (.int .i64 0) := HC3.out.n2
  have KQ : Hid (∀ n, Calls Tryz.prog 30 #[ptr gr, .string rA] (w3.drewN n) fun e w' => e = .returned (.int .i64 0) ∧ ∃ n', w' = (w3.drewN n).drewN n') := fun n => by
    refine (rat_one (w := w3.drewN n) (f := ⟨⟨#[]⟩, 0, true⟩) (z := none) (room := room) (v := .slice (some ⟨q, 0, none⟩) 1 c) h3 (rrow_kept hr3 (fun _ _ => rfl))).mono ?_
    rintro e w' ⟨rfl, rfl⟩
    exact ⟨rfl, 0, rfl⟩
  have H3 := Lib.hid h3
  have HRR3 := Lib.hid hr3
  clear hown hb3 HB2 HSC hm h3 hr3 HC
  go_wp2_with fail
  go_quiet ((go_at_call 30; exact Calls.quiet_of (KQ.out _)))
  have HB4 : Hid (Below w1.heap.size w1 (w3.drewN nq)) := HB3.out.drewN nq
  have HR4 := Lib.hid (owns_below HR3.out ((Below.refl _ w3).drewN nq))
  have H4 : Hid (RHead (w3.drewN nq) gr room (.slice (some ⟨q, 0, none⟩) 1 c) none) := H3.out
  have HRR4 := Lib.hid (rrow_kept (w' := w3.drewN nq) HRR3.out (fun _ _ => rfl))
  clear KQ c1 n2 HC3 HB3 HR3 H3 HRR3
  generalize w3.drewN nq = w4 at *
  clear w3
  have hqg : q ≠ gr := fun e => by have h1 := HN1.out q rfl; have h2 := HGL.out; omega
  have KS := rsync_at H4.out HRR4.out (by simp) (fun k hk => by cases hk) (fun k hk e => hqg (by injection hk with hk; exact hk.trans e))
  go_wp2_with fail
  refine KS.mono ?_
  rintro e w5 ⟨rfl, h5, hr5, ho5⟩
  have H5 := Lib.hid h5
  have HRR5 := Lib.hid hr5
  have HO5 := Lib.hid ho5
  clear h5 hr5 ho5 KS
  go_wp2_with fail
  go_ret2
  have hs4 := HB4.out.size
  have hs1 := HO1.out.size
  have hq1 : q < w1.heap.size := (HR1.out.lt q rfl).2
  have hrow : ∀ k, (Value.slice A m cap).ownBlock = some k → w1.heap.size ≤ k := fun k hk => (HR4.out.lt k hk).1
  have hTR : TheRef (fun k => k = gr ∨ (Value.slice (some ⟨q, 0, none⟩) 1 c).ownBlock = some k) w5 gr ⟨room, none, [(rA, ⟨⟨#[]⟩, 0, false⟩)]⟩ := ⟨HI.out, (fun k hk => by cases hk), _, ⟨⟨#[]⟩, 0, false⟩, rfl, rfl, H5.out, HRR5.out, (fun k hk e => hqg (by injection hk with hk; exact hk.trans e)), fun k => Iff.rfl⟩
  have hon : Only (fun k => k = gr) w w5 := by
    refine ⟨HO5.out.os.trans (HB4.out.os.trans HO1.out.os), HO5.out.tape.trans (HB4.out.tape.trans HO1.out.tape), HO5.out.output.trans (HB4.out.output.trans HO1.out.output), Nat.le_trans hs1 (Nat.le_trans hs4 HO5.out.size), fun k hk hn => ?_⟩
    rw [HO5.out.block k (by omega) (fun h => by
      rcases h with h | h
      · exact hn h
      · have h1 := HN1.out k h; omega), HB4.out.block k (by omega), HO1.out.block k hk hn]
  refine ropened_end HM.out hTR hon (fun k hk => ?_) (row_base (row_keep HR4.out (fun k hk => HO5.out.block k (HR4.out.lt k hk).2 (fun h => ?_))) (Nat.zero_le _)) (fun k hk => ⟨Nat.le_trans hs1 (hrow k hk), fun h => ?_⟩) (by decide)
  · rcases hk with rfl | hk
    · exact Or.inl rfl
    · exact Or.inr (HN1.out k hk)
  · have h1 := hrow k hk
    rcases h with h | h
    · have h2 := HGL.out; omega
    · have h3 : k = q := by injection h with h; exact h.symm
      omega
  · have h1 := hrow k hk
    rcases h with h | h
    · have h2 := HGL.out; omega
    · have h3 : k = q := by injection h with h; exact h.symm
      omega

end Go.Proofs.YtikbokbmaihdbaaGreatDoor

namespace Go.Proofs.YtikbokbmaihdbaaGreatDoor
open Go.RowKit Go.Maps Go.ChangeShapes Go.WideShapes

set_option maxRecDepth 100000 in
/-- 'g.L = append(g.L, l...)', at the operation. -/
theorem wpList_more_row {ops : Array Oper} {rest : List Oper} {o : Oper} {a : Act} {w : World} {Q : Exit → Act → World → Prop} (hgd : o.guard = none) (s y : Operand)
    (ho : o.op = .call { callee := .builtin .append, args := #[s, y], argTypes := #[33, 33] }) (v : Value) (ts rs : List ByteArray) (hs : a.eval s = v) (hO : Hid (w.ownsRow 0 9 1 v ts.length (txt ts))) (ad : Addr) (m c : Nat) (hx : a.eval y = .slice (some ad) m c) (hst : Hid (Strs w (some ad) m rs)) (hl : ts.length ≤ 1099511627776) (hm : m ≤ 1048576)
    (h : ∀ v' w', Hid (w'.ownsRow 0 9 1 v' (ts ++ rs).length (txt (ts ++ rs))) → Hid (w.grownBy w' v.ownBlock) → Hid (v'.ownBlock = v.ownBlock ∨ v'.ownBlock = some w.heap.size) → wpList Tryz.prog ops Q rest (a.put o.dst v') w') : wpList Tryz.prog ops Q (o :: rest) a w := by
  obtain ⟨i, hi, hz, hs1, hb⟩ : ∃ i, Tryz.prog.info? 9 = some i ∧ i.zero = some (.string ByteArray.empty) ∧ i.size = 1 ∧ i.bytes = 16 := by
    have h := info9
    cases hq : Tryz.prog.info? 9 with
    | none => rw [hq] at h; cases h
    | some i => rw [hq] at h; simp at h; exact ⟨i, rfl, h.1, h.2.1, h.2.2⟩
  have hlen := hst.out.len
  refine wpList_append_own_at _ hgd s y 33 ho 0 9 i (.string ByteArray.empty) 1 16 Tryz.underlying33 hi hz hs1 hb rfl (by decide) v ts.length (txt ts) hs hO.out ad m c (txt rs) hx (by simp [txt, hlen]) ?_ (by intro u hu; obtain ⟨y, _, rfl⟩ := List.mem_map.1 hu; rfl) (by unfold maxLen; omega) (by omega) (Nat.zero_le _) ?_
  · intro j u hj
    have hjl : j < rs.length := by have := (List.getElem?_eq_some_iff.1 hj).1; simpa [txt] using this
    obtain ⟨b, off, e, _, hc⟩ := hst.out.cell j hjl
    injection e with e
    subst e
    rw [add_plain, hc]
    simp [txt, List.getElem?_eq_getElem hjl] at hj
    rw [hj]
  · intro v' w' hown hg _ hat
    refine h v' w' ?_ hg hat
    have e : txt ts ++ txt rs = txt (ts ++ rs) := by simp [txt]
    have e2 : ts.length + m = (ts ++ rs).length := by rw [List.length_append, hlen]
    rw [e, e2] at hown
    exact hown

theorem rlappend_eq {σ τ : Dsk} {n : ByteArray} {recs rs : List ByteArray} {su er : Nat} (hs : ∀ r ∈ rs, r.size ≤ 1048576) (hne : rs ≠ []) (h : append σ n (str (frs rs)) = (τ, er)) :
    lappend σ n ⟨recs, su, false⟩ rs = (τ, if er = 0 then ⟨recs ++ rs, su, false⟩ else if er = 6 then ⟨recs, su, false⟩ else ⟨recs, su, true⟩, er) := lappend_eq hs hne h

set_option maxRecDepth 100000 in
set_option maxHeartbeats 4000000 in
theorem rlog_append {O Q : Nat → Prop} {w : World} {x gr : Nat} {σ : Dsk} {l : Lg} (A : Option Addr) (c : Nat) (rs : List ByteArray) (hd : TheRef O w gr σ) (hl : TheRLog Q w x gr rA l) (hx : ∀ k, O k → ¬ Q k) (hst : Strs w A rs.length rs) (hA : ∀ ad, A = some ad → rs ≠ [] → ¬ O ad.block) (hf : (frs rs).length ≤ 1048576) (hlb : (frs l.recs).length ≤ 1099511627776) :
    Calls Tryz.prog 11 #[ptr x, .slice A rs.length c] w (Put TheRef TheRLog O Q w x gr rA (lappend σ rA l rs)) := by
  have hlt := hl.own
  obtain ⟨hsz, v, hh, hr, hne, hQ⟩ := hl
  obtain ⟨recs, su, br⟩ := l
  have PE := Lib.hid (fun O1 w1 w2 τ l er v2 => rput_end (w1 := w1) (w2 := w2) (O1 := O1) (n := rA) (x := x) (gr := gr) (τ := τ) (l := l) (er := er) (v2 := v2) hQ hx hlt)
  have HSZ := Lib.hid hsz
  have HNE := Lib.hid hne
  have HR := Lib.hid hr
  have HH := Lib.hid hh
  have c4 := hh.c4
  have HD := Lib.hid hd
  have HQx : Hid (¬ O x) := fun h => hx x h ((hQ x).2 (Or.inl rfl))
  have HQr : Hid (∀ k, v.ownBlock = some k → ¬ O k) := fun k hk h => hx k h ((hQ k).2 (Or.inr hk))
  have HQi : Hid (∀ k, k = x → Q k) := fun k hk => (hQ k).2 (Or.inl hk)
  have HQj : Hid (∀ k, v.ownBlock = some k → Q k) := fun k hk => (hQ k).2 (Or.inr hk)
  obtain ⟨m, hm⟩ : ∃ m, rs.length = m := ⟨_, rfl⟩
  rw [hm] at hst ⊢
  cases br with
  | true =>
    have e1 : lappend σ rA ⟨recs, su, true⟩ rs = (σ, ⟨recs, su, true⟩, 3) := if_pos rfl
    rw [e1]
    clear hh hr hne hQ hx hlt hsz hd
    go_enter Tryz.func11, Tryz.ntmps11
    go_wp2_with fail
    go_ret
    exact PE.out O w w σ ⟨recs, su, true⟩ 3 v HD.out (Only.refl _ _) (fun k hk => Or.inl hk) (Only.refl _ _) HH.out HR.out HNE.out (fun k hk => Or.inl hk) HSZ.out
  | false =>
    have HSA := Lib.hid (short_all hf)
    have HSNO := Lib.hid (frs_take_snoc rs)
    have HLEN := Lib.hid (frs_take_le rs)
    have HS := Lib.hid hst
    have HL := Lib.hid hm
    have hrl : m ≤ 1048576 := by have := count_le rs; omega
    have hct1 : recs.length ≤ 1099511627776 := by have := count_le recs; have h2 : (frs recs).length ≤ 1099511627776 := hlb; omega
    have HXL := Lib.hid hh.lt
    have HLB := Lib.hid hlb
    have c0 := hh.c0
    have c1 := hh.c1
    clear hh hr hne hQ hx hlt hsz hd hst hlb
    go_enter Tryz.func11, Tryz.ntmps11
    go_wp2_with fail
    go_loopw [5, 6] (fun sv iv wr => ∃ (i : Nat) (S : ByteArray), i ≤ m ∧ iv = .int .i64 i ∧ sv = .string S ∧ Hid (str (frs (rs.take i)) = S) ∧ Below w.heap.size w wr) (fun _ iv _ => m - (intOf iv).toNat)
    case atStart => exact ⟨0, ⟨#[]⟩, Nat.zero_le _, rfl, rfl, rfl, Below.refl _ _⟩
    case round =>
      obtain ⟨i, S, hi, rfl, rfl, HSS, hbw⟩ := hrel
      have hsw := hbw.size
      by_cases hlti : i < m
      · have hil : i < rs.length := by rw [HL.out]; exact hlti
        obtain ⟨b, off, rfl, hbl, hc⟩ := HS.out.cell i hil
        have hys := HSA.out rs[i] (List.getElem_mem _)
        have hsn := HSNO.out i hil
        have hle := HLEN.out (i + 1)
        obtain ⟨y, hy⟩ : ∃ y, rs[i] = y := ⟨_, rfl⟩
        rw [hy] at hc hys hsn
        have hcw : wr.cell? ⟨b, off + i, none⟩ = some (.string y) := (hbw.cell (p := ⟨b, off + i, none⟩) hbl).trans hc
        obtain ⟨F, hF⟩ : ∃ F, str (fr y.data.toList) = F := ⟨_, rfl⟩
        have HE : Hid (str (frs (rs.take (i + 1))) = S ++ F) := by show _ = _; rw [hsn, ← hF, ← HSS.out, str_append]
        have HF := Lib.hid hF
        have d1 : decide ((1048576 : Int) < (y.size : Int)) = false := decide_eq_false (by omega)
        have hSF : S.size + F.size ≤ 1048576 := by
          have h1 : S.size = (frs (rs.take i)).length := by rw [← HSS.out, str_size]
          have h2 : F.size = (fr y.data.toList).length := by rw [← hF, str_size]
          rw [hsn, List.length_append] at hle
          omega
        clear hy hc hsn hF hle HSS
        go_wp2_with fail
        refine (Put_ref y F hys _ HF).mono ?_
        rintro e w1 ⟨rfl, hb1⟩
        have hb2 : Below w.heap.size w w1 := hbw.trans (hb1.mono hsw)
        clear hcw hbw hb1 HF
        go_wp2_with fail
        go_roundw
        case rel => exact ⟨i + 1, S ++ F, by omega, by go_num, rfl, HE, hb2⟩
        case measure => simp [intOf]; omega
      · have hte : rs.take i = rs := List.take_of_length_le (by rw [HL.out]; omega)
        rw [hte] at HSS
        have HBW := Lib.hid hbw
        clear hbw hsw hte
        by_cases hm0 : m = 0
        · have hrs : rs = [] := List.length_eq_zero_iff.1 (by rw [HL.out]; exact hm0)
          have q1 : ((m : Int) == 0) = true := by rw [beq_iff_eq]; omega
          have HE : Hid (lappend σ rA ⟨recs, su, false⟩ rs = (σ, ⟨recs, su, false⟩, 0)) := by show _ = _; rw [hrs]; exact lappend_none rfl
          go_wp2_with fail
          go_ret
          rw [HE.out]
          exact PE.out O wr wr σ ⟨recs, su, false⟩ 0 v (HD.out.stays (fun k hk => HBW.out.block k (HD.out.own k hk))) (HBW.out.only O) (fun k hk => Or.inl hk) (Only.refl _ _) ((HBW.out.block x HXL.out).trans HH.out) (row_keep HR.out (fun k hk => HBW.out.block k (HR.out.lt k hk).2)) HNE.out (fun k hk => Or.inl hk) HSZ.out
        · have hne : rs ≠ [] := fun h => hm0 (by rw [← HL.out, h]; rfl)
          have q1 : ((m : Int) == 0) = false := by rw [beq_eq_false_iff_ne]; omega
          obtain ⟨τ, er, hτ⟩ : ∃ τ er, append σ rA (str (frs rs)) = (τ, er) := ⟨_, _, rfl⟩
          have HE := Lib.hid (lappend_eq (recs := recs) (su := su) HSA.out hne hτ)
          have KA : Hid (∀ W, Below w.heap.size w W → Calls Tryz.prog 43 #[ptr gr, .string rA, .string S] W (Did TheRef O W gr (τ, er))) := fun W hW => by
            rw [← hτ, HSS.out]
            exact ref_append S (HD.out.stays (fun k hk => hW.block k (HD.out.own k hk)))
          obtain ⟨b, off, rfl, hbl, _⟩ := HS.out.cell 0 (by rw [HL.out]; omega)
          have hAO : Hid (¬ O b) := hA _ rfl hne
          have HH1 : Hid (RLHead wr x gr v su false) := (HBW.out.block x HXL.out).trans HH.out
          have c0 := HH1.out.c0
          have c1 := HH1.out.c1
          clear hτ hne HSA HSNO HLEN HSS
          go_wp2_with fail
          refine wp_region_quiet_tail 9 (by kernel_rfl) (by kernel_rfl) ?_
          simp only [List.take_succ_cons, List.take_zero, List.drop_succ_cons, List.drop_zero]
          repeat (go_big_quiet_step (fail))
          refine wpQuiet_nil ?_
          rintro _ ⟨p, rfl⟩
          have HB1 : Hid (Below w.heap.size w (wr.drewN p)) := HBW.out.drewN p
          clear HBW HH1 c0 c1
          generalize wr.drewN p = wq at *
          go_wp2_with fail
          refine (KA.out _ HB1.out).mono ?_
          rintro e w1 ⟨rfl, O1, hd1, ho1, hn1⟩
          have HD1 := Lib.hid hd1
          have HO1 := Lib.hid ((HB1.out.only O).trans ho1 (fun k hk => Or.inl hk))
          have HN1 : Hid (∀ k, O1 k → O k ∨ w.heap.size ≤ k) := fun k hk => by rcases hn1 k hk with h | h; exact Or.inl h; exact Or.inr (Nat.le_trans HB1.out.size h)
          have HH1 : Hid (RLHead w1 x gr v su false) := (HO1.out.block x HXL.out HQx.out).trans HH.out
          have HR1 := Lib.hid (row_keep HR.out (fun k hk => HO1.out.block k (HR.out.lt k hk).2 (HQr.out k hk)))
          have HS1 := Lib.hid (strs_only HS.out HO1.out (fun ad had => by injection had with had; rw [← had]; exact hAO.out))
          clear hd1 ho1 hn1 KA
          by_cases h0 : er = 0
          · subst h0
            rw [if_pos rfl] at HE
            have c2 := HH1.out.c2
            have f2 := HH1.out.fr 2
            have hx1 := HH1.out.lt
            go_wp2_with (at_builtin; refine wpList_more_row (by rfl) (.tmp 50) (.tmp 51) (by rfl) v recs rs (by rfl) HR1 ⟨b, off, none⟩ m c (by rfl) HS1 hct1 hrl ?_; intro v2 w2 HR2 HG2 HA2; obtain ⟨A2, cp2, hv2, _⟩ := row_strs HR2.out rfl; obtain ⟨n2, hn2⟩ : ∃ n2, (recs ++ rs).length = n2 := ⟨_, rfl⟩; rw [hn2] at hv2; subst hv2; have HH2 : Hid (RLHead w2 x gr v su false) := (HG2.out.block x hx1 (fun e => HNE.out x e.symm rfl)).trans HH1.out; have d2 := HH2.out.c2; have g2 := HH2.out.fr 2; have hs2 := heap_set (i := 2) HH2.out (.slice A2 n2 cp2))
            go_ret
            rw [HE.out]
            have hne2 : ∀ k, (Value.slice A2 n2 cp2).ownBlock = some k → k ≠ x := fun k hk e => by
              rcases HA2.out with h | h
              · exact HNE.out k (h.symm.trans hk) e
              · rw [h] at hk; injection hk with hk; omega
            refine PE.out O1 w1 _ τ ⟨recs ++ rs, su, false⟩ 0 (.slice A2 n2 cp2) HD1.out HO1.out HN1.out ?_ hs2 (row_keep HR2.out (fun k hk => Below.heap_setCell _ _ _ _ (hne2 k hk))) hne2 ?_ ?_
            · have hg : Only Q w1 w2 := ⟨HG2.out.os, HG2.out.tape, HG2.out.output, HG2.out.size, fun k hk hn => HG2.out.block k hk (fun e => hn (HQj.out k e.symm))⟩
              exact hg.trans ((Only.set w2 x 2 _).wide HQi.out) (fun k hk => Or.inl hk)
            · intro k hk
              rcases HA2.out with h | h
              · exact Or.inl (h.symm.trans hk)
              · rw [h] at hk; injection hk with hk; exact Or.inr (by omega)
            · show (frs (recs ++ rs)).length ≤ _
              rw [frs_append, List.length_append]
              have h1 : (frs recs).length ≤ 1099511627776 := HLB.out
              omega
          · have q : ((er : Int) == 0) = false := by rw [beq_eq_false_iff_ne]; omega
            rw [if_neg h0] at HE
            by_cases h6 : er = 6
            · subst h6
              rw [if_pos rfl] at HE
              go_wp2_with fail
              go_ret
              rw [HE.out]
              exact PE.out O1 w1 w1 τ ⟨recs, su, false⟩ 6 v HD1.out HO1.out HN1.out (Only.refl _ _) HH1.out HR1.out HNE.out (fun k hk => Or.inl hk) HSZ.out
            · rw [if_neg h6] at HE
              have q6 : ((er : Int) == 6) = false := by rw [beq_eq_false_iff_ne]; omega
              have d4 := HH1.out.c4
              have f4 := HH1.out.fr 4
              have hs4 := heap_set (i := 4) HH1.out (.bool true)
              go_wp2_with fail
              go_ret
              rw [HE.out]
              exact PE.out O1 w1 _ τ ⟨recs, su, true⟩ er v HD1.out HO1.out HN1.out ((Only.set w1 x 4 _).wide HQi.out) hs4 (row_keep HR1.out (fun k hk => Below.heap_setCell _ _ _ _ (HNE.out k hk))) HNE.out (fun k hk => Or.inl hk) HSZ.out

end Go.Proofs.YtikbokbmaihdbaaGreatDoor
