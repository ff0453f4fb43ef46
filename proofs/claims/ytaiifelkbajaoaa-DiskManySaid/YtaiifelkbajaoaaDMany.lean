/-
  DiskMany, the walk, over any disk ('Door').
-/
import Derived.Test.YtaiifelkbajaoaaDWorks
import Derived.Test.YtaiifelkbajaoaaBRow
import Derived.OpenShut
namespace Go.Proofs.Ytaiifelkbajaoaa.diskMany
open Go.RowKit Go.ChangeShapes Go.WideShapes

/-- Which names there are, and how many; no fuse. -/
structure J (σ : Dsk) (S : ByteArray → Prop) (c : Nat) : Prop where
  fuse : σ.fuse = none
  len : σ.fs.length = c
  mem : ∀ n, get σ.fs n ≠ none ↔ S n
theorem J.congr {σ : Dsk} {S T : ByteArray → Prop} {c d : Nat} (h : J σ S c) (hc : c = d) (hst : ∀ n, S n ↔ T n) : J σ T d := ⟨h.fuse, hc ▸ h.len, fun n => (h.mem n).trans (hst n)⟩
theorem J.create {σ : Dsk} {S : ByteArray → Prop} {c : Nat} (h : J σ S c) (hi : Inv σ) {n : ByteArray} (hn : mayB n = true) (hs : ¬ S n) (hc : c < 16) :
    ∃ τ, Proofs.Ytaiifelkbajaoaa.create σ n = (τ, 0) ∧ J τ (fun m => m = n ∨ S m) (c + 1) := by
  have hg : get σ.fs n = none := by
    cases hq : get σ.fs n with
    | none => rfl
    | some f => exact absurd ((h.mem n).1 (by rw [hq]; simp)) hs
  have e : Proofs.Ytaiifelkbajaoaa.create σ n = (⟨σ.room, burn σ, ins n ⟨⟨#[]⟩, 0, true⟩ σ.fs⟩, 0) := by
    simp [Proofs.Ytaiifelkbajaoaa.create, hn, h.fuse, hg, h.len, Nat.not_le.2 hc]
  refine ⟨_, e, by simp [burn, h.fuse], by simp [len_ins, h.len], fun m => ?_⟩
  by_cases hm : m = n
  · subst hm
    simp [get_ins_same hi.srt hg]
  · simp only [get_ins_other hm, hm, false_or]
    exact h.mem m
theorem J.full {σ : Dsk} {S : ByteArray → Prop} {c : Nat} (h : J σ S c) {n : ByteArray} (hn : mayB n = true) (hs : ¬ S n) (hc : 16 ≤ c) : Proofs.Ytaiifelkbajaoaa.create σ n = (σ, 6) := by
  have hg : get σ.fs n = none := by
    cases hq : get σ.fs n with
    | none => rfl
    | some f => exact absurd ((h.mem n).1 (by rw [hq]; simp)) hs
  simp [Proofs.Ytaiifelkbajaoaa.create, hn, h.fuse, hg, h.len, hc]
theorem J.remove {σ : Dsk} {S : ByteArray → Prop} {c : Nat} (h : J σ S c) (hi : Inv σ) {n : ByteArray} (hs : S n) :
    ∃ τ, Proofs.Ytaiifelkbajaoaa.remove σ n = (τ, 0) ∧ J τ (fun m => m ≠ n ∧ S m) (c - 1) := by
  obtain ⟨f, hg⟩ : ∃ f, get σ.fs n = some f := by
    cases hq : get σ.fs n with
    | none => exact absurd hq ((h.mem n).2 hs)
    | some f => exact ⟨f, rfl⟩
  have e : Proofs.Ytaiifelkbajaoaa.remove σ n = (⟨σ.room, burn σ, del σ.fs n⟩, 0) := by
    simp [Proofs.Ytaiifelkbajaoaa.remove, h.fuse, hg]
  refine ⟨_, e, by simp [burn, h.fuse], ?_, fun m => ?_⟩
  · have := len_del_one hi.srt hg
    have := h.len
    simp only
    omega
  · by_cases hm : m = n
    · subst hm
      simp [get_del_same]
    · simp only [get_del_other hm, hm, ne_eq, not_false_eq_true, true_and]
      exact h.mem m

/-- The names. -/
def nm (c : UInt8) (j : Nat) : ByteArray := ⟨#[c, UInt8.ofNat (97 + j)]⟩
theorem nm_inj {c d : UInt8} {i j : Nat} (hi : i < 26) (hj : j < 26) (h : nm c i = nm d j) : c = d ∧ i = j := by
  simp only [nm, ByteArray.mk.injEq, Array.mk.injEq, List.cons.injEq, and_true] at h
  refine ⟨h.1, ?_⟩
  have := congrArg UInt8.toNat h.2
  simp only [UInt8.toNat_ofNat'] at this
  omega
theorem nm_may : ∀ j : Fin 26, mayB (nm 102 j) = true ∧ mayB (nm 103 j) = true := by decide +kernel

theorem brow_made (w : World) (l : List UInt8) (cs : List Value) (t : TypeId) (h : cs = l.map (fun b => Value.int .u8 (b.toNat : Int))) : BRow (w.alloc (.cells cs.toArray t)) w.heap.size l := by
  subst h
  refine ⟨by simp, fun j hj => ⟨?_, World.frozen?_alloc_new w _ t j⟩⟩
  rw [cell_of_row _ _ _ _ _ _ (heap_alloc_new w _)]
  simp [hj]

/-- 'string([]byte{'a' + byte(i)})'. -/
theorem conv_one (i : Nat) (hi : i < 26) (W : World) : (convert 50 9 (.slice (some ⟨W.heap.size, 0, none⟩) 1 1)).run Try.prog (W.alloc (.cells #[.int .u8 (97 + (i : Int))] 5)) = .ok (.string ⟨#[UInt8.ofNat (97 + i)]⟩) (W.alloc (.cells #[.int .u8 (97 + (i : Int))] 5)) :=
  (brow_made W [UInt8.ofNat (97 + i)] [.int .u8 (97 + (i : Int))] 5 (by simp; omega)).back 1 1 rfl

set_option maxRecDepth 100000 in
set_option maxHeartbeats 1000000 in
theorem walk_any {D : Disks} (hD : Door D) (a b : Nat) (ha : a < 256) (hb : b < 256) (w : World) :
    Calls Try.prog 7 #[.int .u8 a, .int .u8 b] w fun e w' => e = .returned (.bool true) ∧ Below w.heap.size w w' := by
  have HD := Lib.hid hD
  clear hD
  obtain ⟨n, hn⟩ : ∃ n, a % 21 = n := ⟨_, rfl⟩
  have hnl : n < 21 := by omega
  have hna : (a : Int) % 21 = (n : Int) := by omega
  obtain ⟨c, hc⟩ : ∃ c, b % 10 = c := ⟨_, rfl⟩
  have hcl : c < 10 := by omega
  have HCB : Hid ((b : Int) % 10 = (c : Int)) := by show _ = _; omega
  clear hn hc
  go_enter Try.func7, Try.ntmps7
  go_wp2_with fail
  refine (new_at HD.out (Below.refl _ _) 100 (by decide)).mono ?_
  rintro e w1 ⟨g, rfl, hm, _⟩
  have M1 := Lib.hid hm
  clear hm
  go_wp2_with fail
  rw [hna]
  clear hna
  go_loopw [8] (fun iv wr => ∃ (i : Nat) (σ : Dsk), i ≤ n ∧ iv = .int .i64 i ∧ Hid (Mine D w wr g σ) ∧ Hid (J σ (fun m => ∃ j, j < min i 16 ∧ m = nm 102 j) (min i 16))) (fun iv _ => n - (intOf iv).toNat)
  case atStart => exact ⟨0, _, Nat.zero_le _, rfl, M1, ⟨rfl, rfl, fun m => by simp [get]⟩⟩
  case round =>
    clear M1
    obtain ⟨i, σ, hi, rfl, HM, HJ⟩ := hrel
    by_cases hlt : i < n
    · have hcv := conv_one i (by omega) wr
      obtain ⟨x, hx⟩ : ∃ x, UInt8.ofNat (97 + i) = x := ⟨_, rfl⟩
      obtain ⟨N, hN⟩ : ∃ N, (⟨#[102]⟩ : ByteArray) ++ ⟨#[x]⟩ = N := ⟨_, rfl⟩
      have HN : Hid (N = nm 102 i) := by show _ = _; rw [← hN, ← hx]; rfl
      have hNs : N.size ≤ many := by rw [HN.out]; exact (by decide : (2 : Nat) ≤ many)
      rw [hx] at hcv
      clear hx
      go_wp2_with (simp only [hcv])
      have HI := Lib.hid (HM.out.inv HD.out)
      by_cases c16 : i < 16
      · have d1 : decide ((i : Int) < 16) = true := by rw [decide_eq_true_iff]; omega
        obtain ⟨τ, hc, hj⟩ := HJ.out.create HI.out (n := N) (by rw [HN.out]; exact (nm_may ⟨i, by omega⟩).1) (by
          rintro ⟨j, hj, e⟩
          rw [HN.out] at e
          have := (nm_inj (by omega) (by omega) e).2
          omega) (by omega)
        have HJ2 : Hid (J τ (fun m => ∃ j, j < min (i + 1) 16 ∧ m = nm 102 j) (min (i + 1) 16)) := hj.congr (by omega) (fun m => by
          rw [HN.out]
          constructor
          · rintro (rfl | ⟨j, h1, h2⟩)
            · exact ⟨i, by omega, rfl⟩
            · exact ⟨j, by omega, h2⟩
          · rintro ⟨j, h1, h2⟩
            by_cases e : j = i
            · left; rw [h2, e]
            · right; exact ⟨j, by omega, h2⟩)
        have HC := Lib.hid hc
        clear hc hj
        go_wp2_with (simp only [hcv])
        have K := create_at HD.out (HM.out.below HD.out ((Below.refl _ _).alloc (Nat.le_refl _) (.cells #[.int .u8 (97 + (i : Int))] 5))) N hNs
        rw [HC.out] at K
        refine K.mono ?_
        rintro e w2 ⟨rfl, hm⟩
        have HM2 := Lib.hid hm
        clear hm K hcv HM HJ
        go_wp2_with fail
        go_roundw
        case rel => exact ⟨i + 1, τ, by omega, by go_num, HM2, HJ2⟩
        case measure => simp [intOf]; omega
      · have d1 : decide ((i : Int) < 16) = false := by rw [decide_eq_false_iff_not]; omega
        have hc := HJ.out.full (n := N) (by rw [HN.out]; exact (nm_may ⟨i, by omega⟩).1) (by
          rintro ⟨j, hj, e⟩
          rw [HN.out] at e
          have := (nm_inj (by omega) (by omega) e).2
          omega) (by omega)
        have HJ2 : Hid (J σ (fun m => ∃ j, j < min (i + 1) 16 ∧ m = nm 102 j) (min (i + 1) 16)) := HJ.out.congr (by omega) (fun m => by rw [show min (i + 1) 16 = min i 16 by omega])
        have HC := Lib.hid hc
        clear hc
        go_wp2_with (simp only [hcv])
        have K := create_at HD.out (HM.out.below HD.out ((Below.refl _ _).alloc (Nat.le_refl _) (.cells #[.int .u8 (97 + (i : Int))] 5))) N hNs
        rw [HC.out] at K
        refine K.mono ?_
        rintro e w2 ⟨rfl, hm⟩
        have HM2 := Lib.hid hm
        clear hm K hcv HM HJ
        go_wp2_with fail
        go_roundw
        case rel => exact ⟨i + 1, σ, by omega, by go_num, HM2, HJ2⟩
        case measure => simp [intOf]; omega
    · have hin : i = n := by omega
      subst hin
      have hcb := HCB.out
      by_cases q1 : i ≤ 16
      · by_cases q2 : c ≤ i
        · go_wp2_with fail
          have HJ0 : Hid (J σ (fun m => ∃ j, 0 ≤ j ∧ j < i ∧ m = nm 102 j) (i - 0)) := HJ.out.congr (by omega) (fun m => by
            constructor
            · rintro ⟨j, h1, h2⟩
              exact ⟨j, Nat.zero_le _, by omega, h2⟩
            · rintro ⟨j, _, h1, h2⟩
              exact ⟨j, by omega, h2⟩)
          clear HJ hcb
          go_loopw [12] (fun iv wr => ∃ (q : Nat) (τ : Dsk), q ≤ c ∧ iv = .int .i64 q ∧ Hid (Mine D w wr g τ) ∧ Hid (J τ (fun m => ∃ j, q ≤ j ∧ j < i ∧ m = nm 102 j) (i - q))) (fun iv _ => c - (intOf iv).toNat)
          case atStart => exact ⟨0, σ, Nat.zero_le _, rfl, HM, HJ0⟩
          case round =>
            clear HM HJ0
            obtain ⟨q, τ, hq, rfl, HM, HJ⟩ := hrel
            by_cases hlt : q < c
            · have hcv := conv_one q (by omega) wr
              obtain ⟨x, hx⟩ : ∃ x, UInt8.ofNat (97 + q) = x := ⟨_, rfl⟩
              obtain ⟨N, hN⟩ : ∃ N, (⟨#[102]⟩ : ByteArray) ++ ⟨#[x]⟩ = N := ⟨_, rfl⟩
              have HN : Hid (N = nm 102 q) := by show _ = _; rw [← hN, ← hx]; rfl
              have hNs : N.size ≤ many := by rw [HN.out]; exact (by decide : (2 : Nat) ≤ many)
              rw [hx] at hcv
              clear hx
              obtain ⟨υ, hc, hj⟩ := HJ.out.remove (HM.out.inv HD.out) (n := N) ⟨q, Nat.le_refl _, by omega, HN.out⟩
              have HJ2 : Hid (J υ (fun m => ∃ j, q + 1 ≤ j ∧ j < i ∧ m = nm 102 j) (i - (q + 1))) := hj.congr (by omega) (fun m => by
                rw [HN.out]
                constructor
                · rintro ⟨h0, j, h1, h2, h3⟩
                  by_cases e : j = q
                  · exact absurd (by rw [h3, e]) h0
                  · exact ⟨j, by omega, h2, h3⟩
                · rintro ⟨j, h1, h2, h3⟩
                  refine ⟨fun e => ?_, j, by omega, h2, h3⟩
                  rw [h3] at e
                  have := (nm_inj (by omega) (by omega) e).2
                  omega)
              have HC := Lib.hid hc
              clear hc hj
              go_wp2_with (simp only [hcv])
              have K := remove_at HD.out (HM.out.below HD.out ((Below.refl _ _).alloc (Nat.le_refl _) (.cells #[.int .u8 (97 + (q : Int))] 5))) N hNs
              rw [HC.out] at K
              refine K.mono ?_
              rintro e w2 ⟨rfl, hm⟩
              have HM2 := Lib.hid hm
              clear hm K hcv HM HJ
              go_wp2_with fail
              go_roundw
              case rel => exact ⟨q + 1, υ, by omega, by go_num, HM2, HJ2⟩
              case measure => simp [intOf]; omega
            · have hqk : q = c := by omega
              have HJ3 : Hid (J τ (fun m => (∃ j, c ≤ j ∧ j < i ∧ m = nm 102 j) ∨ ∃ j, j < 0 ∧ m = nm 103 j) (i - c + 0)) := HJ.out.congr (by omega) (fun m => by
                rw [hqk]
                constructor
                · intro h; exact Or.inl h
                · rintro (h | ⟨j, h, _⟩)
                  · exact h
                  · omega)
              clear HJ hqk
              go_wp2_with fail
              go_loopw [13] (fun iv wr => ∃ (r : Nat) (υ : Dsk), r ≤ c ∧ iv = .int .i64 r ∧ Hid (Mine D w wr g υ) ∧ Hid (J υ (fun m => (∃ j, c ≤ j ∧ j < i ∧ m = nm 102 j) ∨ ∃ j, j < r ∧ m = nm 103 j) (i - c + r))) (fun iv _ => c - (intOf iv).toNat)
              case atStart => exact ⟨0, τ, Nat.zero_le _, rfl, HM, HJ3⟩
              case round =>
                clear HM HJ3
                obtain ⟨r, υ, hr, rfl, HM, HJ⟩ := hrel
                by_cases hlr : r < c
                · have hcv := conv_one r (by omega) wr
                  obtain ⟨x, hx⟩ : ∃ x, UInt8.ofNat (97 + r) = x := ⟨_, rfl⟩
                  obtain ⟨N, hN⟩ : ∃ N, (⟨#[103]⟩ : ByteArray) ++ ⟨#[x]⟩ = N := ⟨_, rfl⟩
                  have HN : Hid (N = nm 103 r) := by show _ = _; rw [← hN, ← hx]; rfl
                  have hNs : N.size ≤ many := by rw [HN.out]; exact (by decide : (2 : Nat) ≤ many)
                  rw [hx] at hcv
                  clear hx
                  obtain ⟨φ, hc, hj⟩ := HJ.out.create (HM.out.inv HD.out) (n := N) (by rw [HN.out]; exact (nm_may ⟨r, by omega⟩).2) (by
                    rintro (⟨j, h1, h2, e⟩ | ⟨j, h1, e⟩)
                    · rw [HN.out] at e
                      have := (nm_inj (by omega) (by omega) e).1
                      exact absurd this (by decide)
                    · rw [HN.out] at e
                      have := (nm_inj (by omega) (by omega) e).2
                      omega) (by omega)
                  have HJ2 : Hid (J φ (fun m => (∃ j, c ≤ j ∧ j < i ∧ m = nm 102 j) ∨ ∃ j, j < r + 1 ∧ m = nm 103 j) (i - c + (r + 1))) := hj.congr (by omega) (fun m => by
                    rw [HN.out]
                    constructor
                    · rintro (rfl | h | ⟨j, h1, h2⟩)
                      · exact Or.inr ⟨r, by omega, rfl⟩
                      · exact Or.inl h
                      · exact Or.inr ⟨j, by omega, h2⟩
                    · rintro (h | ⟨j, h1, h2⟩)
                      · exact Or.inr (Or.inl h)
                      · by_cases e : j = r
                        · left; rw [h2, e]
                        · exact Or.inr (Or.inr ⟨j, by omega, h2⟩))
                  have HC := Lib.hid hc
                  clear hc hj
                  go_wp2_with (simp only [hcv])
                  have K := create_at HD.out (HM.out.below HD.out ((Below.refl _ _).alloc (Nat.le_refl _) (.cells #[.int .u8 (97 + (r : Int))] 5))) N hNs
                  rw [HC.out] at K
                  refine K.mono ?_
                  rintro e w2 ⟨rfl, hm⟩
                  have HM2 := Lib.hid hm
                  clear hm K hcv HM HJ
                  go_wp2_with fail
                  go_roundw
                  case rel => exact ⟨r + 1, φ, by omega, by go_num, HM2, HJ2⟩
                  case measure => simp [intOf]; omega
                · have hrk : r = c := by omega
                  have hln : (names υ.fs).length = i := by
                    have := HJ.out.len
                    simp only [names, List.length_map]
                    omega
                  have hfull : i = 16 → create υ ⟨#[104]⟩ = (υ, 6) := fun h16 => HJ.out.full (by decide +kernel) (by
                    rintro (⟨j, _, _, e⟩ | ⟨j, _, e⟩)
                    · have := congrArg ByteArray.size e
                      exact absurd this (show ¬ (1 : Nat) = 2 by decide)
                    · have := congrArg ByteArray.size e
                      exact absurd this (show ¬ (1 : Nat) = 2 by decide)) (by omega)
                  have HFULL := Lib.hid hfull
                  have HLN := Lib.hid hln
                  clear HJ hrk hfull hln
                  go_wp2_with fail
                  have K := names_at HD.out HM.out
                  unfold Listed at K
                  rw [HLN.out] at K
                  refine K.mono ?_
                  rintro e w3 ⟨A, cc, rfl, _, hb, _⟩
                  have HM3 := Lib.hid (HM.out.below HD.out hb)
                  clear hb K HM
                  by_cases q3 : i < 16
                  · have d1 : decide ((i : Int) < 16) = true := by rw [decide_eq_true_iff]; omega
                    go_wp2_with fail
                    refine (works_any HD.out _).mono ?_
                    rintro e w5 ⟨rfl, hb⟩
                    have HB5 := Lib.hid (HM3.out.bel.trans (hb.mono HM3.out.bel.size))
                    clear hb
                    go_wp2_with fail
                    go_ret
                    exact ⟨rfl, HB5.out⟩
                  · have d1 : decide ((i : Int) < 16) = false := by rw [decide_eq_false_iff_not]; omega
                    go_wp2_with fail
                    have K := create_at HD.out HM3.out ⟨#[104]⟩ (by decide)
                    rw [HFULL.out (by omega)] at K
                    refine K.mono ?_
                    rintro e w4 ⟨rfl, hm⟩
                    have HM4 := Lib.hid hm
                    clear hm K HM3
                    go_wp2_with fail
                    refine (works_any HD.out _).mono ?_
                    rintro e w5 ⟨rfl, hb⟩
                    have HB5 := Lib.hid (HM4.out.bel.trans (hb.mono HM4.out.bel.size))
                    clear hb
                    go_wp2_with fail
                    go_ret
                    exact ⟨rfl, HB5.out⟩
        · go_wp2_with fail
          have HJ0 : Hid (J σ (fun m => ∃ j, 0 ≤ j ∧ j < i ∧ m = nm 102 j) (i - 0)) := HJ.out.congr (by omega) (fun m => by
            constructor
            · rintro ⟨j, h1, h2⟩
              exact ⟨j, Nat.zero_le _, by omega, h2⟩
            · rintro ⟨j, _, h1, h2⟩
              exact ⟨j, by omega, h2⟩)
          clear HJ hcb
          go_loopw [12] (fun iv wr => ∃ (q : Nat) (τ : Dsk), q ≤ i ∧ iv = .int .i64 q ∧ Hid (Mine D w wr g τ) ∧ Hid (J τ (fun m => ∃ j, q ≤ j ∧ j < i ∧ m = nm 102 j) (i - q))) (fun iv _ => i - (intOf iv).toNat)
          case atStart => exact ⟨0, σ, Nat.zero_le _, rfl, HM, HJ0⟩
          case round =>
            clear HM HJ0
            obtain ⟨q, τ, hq, rfl, HM, HJ⟩ := hrel
            by_cases hlt : q < i
            · have hcv := conv_one q (by omega) wr
              obtain ⟨x, hx⟩ : ∃ x, UInt8.ofNat (97 + q) = x := ⟨_, rfl⟩
              obtain ⟨N, hN⟩ : ∃ N, (⟨#[102]⟩ : ByteArray) ++ ⟨#[x]⟩ = N := ⟨_, rfl⟩
              have HN : Hid (N = nm 102 q) := by show _ = _; rw [← hN, ← hx]; rfl
              have hNs : N.size ≤ many := by rw [HN.out]; exact (by decide : (2 : Nat) ≤ many)
              rw [hx] at hcv
              clear hx
              obtain ⟨υ, hc, hj⟩ := HJ.out.remove (HM.out.inv HD.out) (n := N) ⟨q, Nat.le_refl _, by omega, HN.out⟩
              have HJ2 : Hid (J υ (fun m => ∃ j, q + 1 ≤ j ∧ j < i ∧ m = nm 102 j) (i - (q + 1))) := hj.congr (by omega) (fun m => by
                rw [HN.out]
                constructor
                · rintro ⟨h0, j, h1, h2, h3⟩
                  by_cases e : j = q
                  · exact absurd (by rw [h3, e]) h0
                  · exact ⟨j, by omega, h2, h3⟩
                · rintro ⟨j, h1, h2, h3⟩
                  refine ⟨fun e => ?_, j, by omega, h2, h3⟩
                  rw [h3] at e
                  have := (nm_inj (by omega) (by omega) e).2
                  omega)
              have HC := Lib.hid hc
              clear hc hj
              go_wp2_with (simp only [hcv])
              have K := remove_at HD.out (HM.out.below HD.out ((Below.refl _ _).alloc (Nat.le_refl _) (.cells #[.int .u8 (97 + (q : Int))] 5))) N hNs
              rw [HC.out] at K
              refine K.mono ?_
              rintro e w2 ⟨rfl, hm⟩
              have HM2 := Lib.hid hm
              clear hm K hcv HM HJ
              go_wp2_with fail
              go_roundw
              case rel => exact ⟨q + 1, υ, by omega, by go_num, HM2, HJ2⟩
              case measure => simp [intOf]; omega
            · have hqk : q = i := by omega
              have HJ3 : Hid (J τ (fun m => (∃ j, i ≤ j ∧ j < i ∧ m = nm 102 j) ∨ ∃ j, j < 0 ∧ m = nm 103 j) (i - i + 0)) := HJ.out.congr (by omega) (fun m => by
                rw [hqk]
                constructor
                · intro h; exact Or.inl h
                · rintro (h | ⟨j, h, _⟩)
                  · exact h
                  · omega)
              clear HJ hqk
              go_wp2_with fail
              go_loopw [13] (fun iv wr => ∃ (r : Nat) (υ : Dsk), r ≤ i ∧ iv = .int .i64 r ∧ Hid (Mine D w wr g υ) ∧ Hid (J υ (fun m => (∃ j, i ≤ j ∧ j < i ∧ m = nm 102 j) ∨ ∃ j, j < r ∧ m = nm 103 j) (i - i + r))) (fun iv _ => i - (intOf iv).toNat)
              case atStart => exact ⟨0, τ, Nat.zero_le _, rfl, HM, HJ3⟩
              case round =>
                clear HM HJ3
                obtain ⟨r, υ, hr, rfl, HM, HJ⟩ := hrel
                by_cases hlr : r < i
                · have hcv := conv_one r (by omega) wr
                  obtain ⟨x, hx⟩ : ∃ x, UInt8.ofNat (97 + r) = x := ⟨_, rfl⟩
                  obtain ⟨N, hN⟩ : ∃ N, (⟨#[103]⟩ : ByteArray) ++ ⟨#[x]⟩ = N := ⟨_, rfl⟩
                  have HN : Hid (N = nm 103 r) := by show _ = _; rw [← hN, ← hx]; rfl
                  have hNs : N.size ≤ many := by rw [HN.out]; exact (by decide : (2 : Nat) ≤ many)
                  rw [hx] at hcv
                  clear hx
                  obtain ⟨φ, hc, hj⟩ := HJ.out.create (HM.out.inv HD.out) (n := N) (by rw [HN.out]; exact (nm_may ⟨r, by omega⟩).2) (by
                    rintro (⟨j, h1, h2, e⟩ | ⟨j, h1, e⟩)
                    · rw [HN.out] at e
                      have := (nm_inj (by omega) (by omega) e).1
                      exact absurd this (by decide)
                    · rw [HN.out] at e
                      have := (nm_inj (by omega) (by omega) e).2
                      omega) (by omega)
                  have HJ2 : Hid (J φ (fun m => (∃ j, i ≤ j ∧ j < i ∧ m = nm 102 j) ∨ ∃ j, j < r + 1 ∧ m = nm 103 j) (i - i + (r + 1))) := hj.congr (by omega) (fun m => by
                    rw [HN.out]
                    constructor
                    · rintro (rfl | h | ⟨j, h1, h2⟩)
                      · exact Or.inr ⟨r, by omega, rfl⟩
                      · exact Or.inl h
                      · exact Or.inr ⟨j, by omega, h2⟩
                    · rintro (h | ⟨j, h1, h2⟩)
                      · exact Or.inr (Or.inl h)
                      · by_cases e : j = r
                        · left; rw [h2, e]
                        · exact Or.inr (Or.inr ⟨j, by omega, h2⟩))
                  have HC := Lib.hid hc
                  clear hc hj
                  go_wp2_with (simp only [hcv])
                  have K := create_at HD.out (HM.out.below HD.out ((Below.refl _ _).alloc (Nat.le_refl _) (.cells #[.int .u8 (97 + (r : Int))] 5))) N hNs
                  rw [HC.out] at K
                  refine K.mono ?_
                  rintro e w2 ⟨rfl, hm⟩
                  have HM2 := Lib.hid hm
                  clear hm K hcv HM HJ
                  go_wp2_with fail
                  go_roundw
                  case rel => exact ⟨r + 1, φ, by omega, by go_num, HM2, HJ2⟩
                  case measure => simp [intOf]; omega
                · have hrk : r = i := by omega
                  have hln : (names υ.fs).length = i := by
                    have := HJ.out.len
                    simp only [names, List.length_map]
                    omega
                  have hfull : i = 16 → create υ ⟨#[104]⟩ = (υ, 6) := fun h16 => HJ.out.full (by decide +kernel) (by
                    rintro (⟨j, _, _, e⟩ | ⟨j, _, e⟩)
                    · have := congrArg ByteArray.size e
                      exact absurd this (show ¬ (1 : Nat) = 2 by decide)
                    · have := congrArg ByteArray.size e
                      exact absurd this (show ¬ (1 : Nat) = 2 by decide)) (by omega)
                  have HFULL := Lib.hid hfull
                  have HLN := Lib.hid hln
                  clear HJ hrk hfull hln
                  go_wp2_with fail
                  have K := names_at HD.out HM.out
                  unfold Listed at K
                  rw [HLN.out] at K
                  refine K.mono ?_
                  rintro e w3 ⟨A, cc, rfl, _, hb, _⟩
                  have HM3 := Lib.hid (HM.out.below HD.out hb)
                  clear hb K HM
                  by_cases q3 : i < 16
                  · have d1 : decide ((i : Int) < 16) = true := by rw [decide_eq_true_iff]; omega
                    go_wp2_with fail
                    refine (works_any HD.out _).mono ?_
                    rintro e w5 ⟨rfl, hb⟩
                    have HB5 := Lib.hid (HM3.out.bel.trans (hb.mono HM3.out.bel.size))
                    clear hb
                    go_wp2_with fail
                    go_ret
                    exact ⟨rfl, HB5.out⟩
                  · have d1 : decide ((i : Int) < 16) = false := by rw [decide_eq_false_iff_not]; omega
                    go_wp2_with fail
                    have K := create_at HD.out HM3.out ⟨#[104]⟩ (by decide)
                    rw [HFULL.out (by omega)] at K
                    refine K.mono ?_
                    rintro e w4 ⟨rfl, hm⟩
                    have HM4 := Lib.hid hm
                    clear hm K HM3
                    go_wp2_with fail
                    refine (works_any HD.out _).mono ?_
                    rintro e w5 ⟨rfl, hb⟩
                    have HB5 := Lib.hid (HM4.out.bel.trans (hb.mono HM4.out.bel.size))
                    clear hb
                    go_wp2_with fail
                    go_ret
                    exact ⟨rfl, HB5.out⟩
      · by_cases q2 : c ≤ 16
        · go_wp2_with fail
          have HJ0 : Hid (J σ (fun m => ∃ j, 0 ≤ j ∧ j < 16 ∧ m = nm 102 j) (16 - 0)) := HJ.out.congr (by omega) (fun m => by
            constructor
            · rintro ⟨j, h1, h2⟩
              exact ⟨j, Nat.zero_le _, by omega, h2⟩
            · rintro ⟨j, _, h1, h2⟩
              exact ⟨j, by omega, h2⟩)
          clear HJ hcb
          go_loopw [12] (fun iv wr => ∃ (q : Nat) (τ : Dsk), q ≤ c ∧ iv = .int .i64 q ∧ Hid (Mine D w wr g τ) ∧ Hid (J τ (fun m => ∃ j, q ≤ j ∧ j < 16 ∧ m = nm 102 j) (16 - q))) (fun iv _ => c - (intOf iv).toNat)
          case atStart => exact ⟨0, σ, Nat.zero_le _, rfl, HM, HJ0⟩
          case round =>
            clear HM HJ0
            obtain ⟨q, τ, hq, rfl, HM, HJ⟩ := hrel
            by_cases hlt : q < c
            · have hcv := conv_one q (by omega) wr
              obtain ⟨x, hx⟩ : ∃ x, UInt8.ofNat (97 + q) = x := ⟨_, rfl⟩
              obtain ⟨N, hN⟩ : ∃ N, (⟨#[102]⟩ : ByteArray) ++ ⟨#[x]⟩ = N := ⟨_, rfl⟩
              have HN : Hid (N = nm 102 q) := by show _ = _; rw [← hN, ← hx]; rfl
              have hNs : N.size ≤ many := by rw [HN.out]; exact (by decide : (2 : Nat) ≤ many)
              rw [hx] at hcv
              clear hx
              obtain ⟨υ, hc, hj⟩ := HJ.out.remove (HM.out.inv HD.out) (n := N) ⟨q, Nat.le_refl _, by omega, HN.out⟩
              have HJ2 : Hid (J υ (fun m => ∃ j, q + 1 ≤ j ∧ j < 16 ∧ m = nm 102 j) (16 - (q + 1))) := hj.congr (by omega) (fun m => by
                rw [HN.out]
                constructor
                · rintro ⟨h0, j, h1, h2, h3⟩
                  by_cases e : j = q
                  · exact absurd (by rw [h3, e]) h0
                  · exact ⟨j, by omega, h2, h3⟩
                · rintro ⟨j, h1, h2, h3⟩
                  refine ⟨fun e => ?_, j, by omega, h2, h3⟩
                  rw [h3] at e
                  have := (nm_inj (by omega) (by omega) e).2
                  omega)
              have HC := Lib.hid hc
              clear hc hj
              go_wp2_with (simp only [hcv])
              have K := remove_at HD.out (HM.out.below HD.out ((Below.refl _ _).alloc (Nat.le_refl _) (.cells #[.int .u8 (97 + (q : Int))] 5))) N hNs
              rw [HC.out] at K
              refine K.mono ?_
              rintro e w2 ⟨rfl, hm⟩
              have HM2 := Lib.hid hm
              clear hm K hcv HM HJ
              go_wp2_with fail
              go_roundw
              case rel => exact ⟨q + 1, υ, by omega, by go_num, HM2, HJ2⟩
              case measure => simp [intOf]; omega
            · have hqk : q = c := by omega
              have HJ3 : Hid (J τ (fun m => (∃ j, c ≤ j ∧ j < 16 ∧ m = nm 102 j) ∨ ∃ j, j < 0 ∧ m = nm 103 j) (16 - c + 0)) := HJ.out.congr (by omega) (fun m => by
                rw [hqk]
                constructor
                · intro h; exact Or.inl h
                · rintro (h | ⟨j, h, _⟩)
                  · exact h
                  · omega)
              clear HJ hqk
              go_wp2_with fail
              go_loopw [13] (fun iv wr => ∃ (r : Nat) (υ : Dsk), r ≤ c ∧ iv = .int .i64 r ∧ Hid (Mine D w wr g υ) ∧ Hid (J υ (fun m => (∃ j, c ≤ j ∧ j < 16 ∧ m = nm 102 j) ∨ ∃ j, j < r ∧ m = nm 103 j) (16 - c + r))) (fun iv _ => c - (intOf iv).toNat)
              case atStart => exact ⟨0, τ, Nat.zero_le _, rfl, HM, HJ3⟩
              case round =>
                clear HM HJ3
                obtain ⟨r, υ, hr, rfl, HM, HJ⟩ := hrel
                by_cases hlr : r < c
                · have hcv := conv_one r (by omega) wr
                  obtain ⟨x, hx⟩ : ∃ x, UInt8.ofNat (97 + r) = x := ⟨_, rfl⟩
                  obtain ⟨N, hN⟩ : ∃ N, (⟨#[103]⟩ : ByteArray) ++ ⟨#[x]⟩ = N := ⟨_, rfl⟩
                  have HN : Hid (N = nm 103 r) := by show _ = _; rw [← hN, ← hx]; rfl
                  have hNs : N.size ≤ many := by rw [HN.out]; exact (by decide : (2 : Nat) ≤ many)
                  rw [hx] at hcv
                  clear hx
                  obtain ⟨φ, hc, hj⟩ := HJ.out.create (HM.out.inv HD.out) (n := N) (by rw [HN.out]; exact (nm_may ⟨r, by omega⟩).2) (by
                    rintro (⟨j, h1, h2, e⟩ | ⟨j, h1, e⟩)
                    · rw [HN.out] at e
                      have := (nm_inj (by omega) (by omega) e).1
                      exact absurd this (by decide)
                    · rw [HN.out] at e
                      have := (nm_inj (by omega) (by omega) e).2
                      omega) (by omega)
                  have HJ2 : Hid (J φ (fun m => (∃ j, c ≤ j ∧ j < 16 ∧ m = nm 102 j) ∨ ∃ j, j < r + 1 ∧ m = nm 103 j) (16 - c + (r + 1))) := hj.congr (by omega) (fun m => by
                    rw [HN.out]
                    constructor
                    · rintro (rfl | h | ⟨j, h1, h2⟩)
                      · exact Or.inr ⟨r, by omega, rfl⟩
                      · exact Or.inl h
                      · exact Or.inr ⟨j, by omega, h2⟩
                    · rintro (h | ⟨j, h1, h2⟩)
                      · exact Or.inr (Or.inl h)
                      · by_cases e : j = r
                        · left; rw [h2, e]
                        · exact Or.inr (Or.inr ⟨j, by omega, h2⟩))
                  have HC := Lib.hid hc
                  clear hc hj
                  go_wp2_with (simp only [hcv])
                  have K := create_at HD.out (HM.out.below HD.out ((Below.refl _ _).alloc (Nat.le_refl _) (.cells #[.int .u8 (97 + (r : Int))] 5))) N hNs
                  rw [HC.out] at K
                  refine K.mono ?_
                  rintro e w2 ⟨rfl, hm⟩
                  have HM2 := Lib.hid hm
                  clear hm K hcv HM HJ
                  go_wp2_with fail
                  go_roundw
                  case rel => exact ⟨r + 1, φ, by omega, by go_num, HM2, HJ2⟩
                  case measure => simp [intOf]; omega
                · have hrk : r = c := by omega
                  have hln : (names υ.fs).length = 16 := by
                    have := HJ.out.len
                    simp only [names, List.length_map]
                    omega
                  have hfull : 16 = 16 → create υ ⟨#[104]⟩ = (υ, 6) := fun h16 => HJ.out.full (by decide +kernel) (by
                    rintro (⟨j, _, _, e⟩ | ⟨j, _, e⟩)
                    · have := congrArg ByteArray.size e
                      exact absurd this (show ¬ (1 : Nat) = 2 by decide)
                    · have := congrArg ByteArray.size e
                      exact absurd this (show ¬ (1 : Nat) = 2 by decide)) (by omega)
                  have HFULL := Lib.hid hfull
                  have HLN := Lib.hid hln
                  clear HJ hrk hfull hln
                  go_wp2_with fail
                  have K := names_at HD.out HM.out
                  unfold Listed at K
                  rw [HLN.out] at K
                  refine K.mono ?_
                  rintro e w3 ⟨A, cc, rfl, _, hb, _⟩
                  have HM3 := Lib.hid (HM.out.below HD.out hb)
                  clear hb K HM
                  go_wp2_with fail
                  have K := create_at HD.out HM3.out ⟨#[104]⟩ (by decide)
                  rw [HFULL.out (by first | trivial | rfl)] at K
                  refine K.mono ?_
                  rintro e w4 ⟨rfl, hm⟩
                  have HM4 := Lib.hid hm
                  clear hm K HM3
                  go_wp2_with fail
                  refine (works_any HD.out _).mono ?_
                  rintro e w5 ⟨rfl, hb⟩
                  have HB5 := Lib.hid (HM4.out.bel.trans (hb.mono HM4.out.bel.size))
                  clear hb
                  go_wp2_with fail
                  go_ret
                  exact ⟨rfl, HB5.out⟩
        · omega

theorem walk {D : Disks} (hD : Door D) (a b : Int) (ha : (Lit.int .u8 a).wf = true) (hb : (Lit.int .u8 b).wf = true) (w : World) :
    Calls Try.prog 7 #[.int .u8 a, .int .u8 b] w fun e w' => e = .returned (.bool true) ∧ Below w.heap.size w w' := by
  have h1 := bounds_u8 ha
  have h2 := bounds_u8 hb
  obtain ⟨a, rfl⟩ := Int.eq_ofNat_of_zero_le h1.1
  obtain ⟨b, rfl⟩ := Int.eq_ofNat_of_zero_le h2.1
  exact walk_any hD a b (by omega) (by omega) w

end Go.Proofs.Ytaiifelkbajaoaa.diskMany
