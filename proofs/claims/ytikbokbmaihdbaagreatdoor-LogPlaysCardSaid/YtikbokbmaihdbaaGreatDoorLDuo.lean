/-
  Layer 8: two disks beside each other, each with a log or none; a call on one leaves the other. (For LogPlays.)
-/
import Derived.Test.YtikbokbmaihdbaaGreatDoorLOpen
import Derived.Test.YtikbokbmaihdbaaGreatDoorLDisked
import Derived.Test.YtikbokbmaihdbaaGreatDoorRNew
namespace Go.Proofs.YtikbokbmaihdbaaGreatDoor
open Go.RowKit Go.ChangeShapes Go.WideShapes

abbrev Parts := (Nat → Prop) → World → Prop
structure Firm (X : Parts) : Prop where
  stays : ∀ {P w w'}, X P w → (∀ k, P k → w'.heap[k]? = w.heap[k]?) → X P w'
  own : ∀ {P w}, X P w → ∀ k, P k → k < w.heap.size
/-- A disk, and its log, if there is one. -/
def Side (D : Disks) (L : Logs) (g : Nat) (σ : Dsk) : Option (Nat × Lg) → Parts
  | none => fun P w => D P w g σ
  | some (x, l) => fun P w => ∃ O Q, D O w g σ ∧ L Q w x g rA l ∧ (∀ k, O k → ¬ Q k) ∧ ∀ k, P k ↔ (O k ∨ Q k)
/-- Two, apart, both new since w0; the blocks F are others'. -/
def Duo (w0 w : World) (X X' : Parts) (F : Nat → Prop) : Prop :=
  ∃ P P', X P w ∧ X' P' w ∧ (∀ k, P k → ¬ P' k) ∧ (∀ k, P k → w0.heap.size ≤ k) ∧ (∀ k, P' k → w0.heap.size ≤ k) ∧ Below w0.heap.size w0 w ∧ ∀ k, F k → k < w.heap.size ∧ ¬ P k ∧ ¬ P' k
/-- What a call on a part leaves. -/
def Moved (P : Nat → Prop) (w : World) (X : Parts) (w' : World) : Prop := ∃ P2, X P2 w' ∧ Only P w w' ∧ ∀ k, P2 k → P k ∨ w.heap.size ≤ k

theorem firm_side {D : Disks} {L : Logs} (d1 : ∀ {O w w' g σ}, D O w g σ → (∀ k, O k → w'.heap[k]? = w.heap[k]?) → D O w' g σ) (d2 : ∀ {O w g σ}, D O w g σ → ∀ k, O k → k < w.heap.size)
    (l1 : ∀ {Q w w' x g n l}, L Q w x g n l → (∀ k, Q k → w'.heap[k]? = w.heap[k]?) → L Q w' x g n l) (l2 : ∀ {Q w x g n l}, L Q w x g n l → ∀ k, Q k → k < w.heap.size) (g : Nat) (σ : Dsk) (lo : Option (Nat × Lg)) : Firm (Side D L g σ lo) := by
  cases lo with
  | none => exact ⟨fun h k => d1 h k, fun h => d2 h⟩
  | some p =>
    obtain ⟨x, l⟩ := p
    refine ⟨?_, ?_⟩
    · rintro P w w' ⟨O, Q, h1, h2, h3, h4⟩ hk
      exact ⟨O, Q, d1 h1 (fun k h => hk k ((h4 k).2 (Or.inl h))), l1 h2 (fun k h => hk k ((h4 k).2 (Or.inr h))), h3, h4⟩
    · rintro P w ⟨O, Q, h1, h2, h3, h4⟩ k hk
      rcases (h4 k).1 hk with h | h
      · exact d2 h1 k h
      · exact l2 h2 k h

section
variable {w0 w w' : World} {X X' : Parts} {F F' : Nat → Prop}
theorem Duo.bel (h : Duo w0 w X X' F) : Below w0.heap.size w0 w := by obtain ⟨_, _, _, _, _, _, _, hb, _⟩ := h; exact hb
theorem Duo.swap (h : Duo w0 w X X' F) : Duo w0 w X' X F := by
  obtain ⟨P, P', h1, h2, h3, h4, h5, h6, h7⟩ := h
  exact ⟨P', P, h2, h1, fun k hk hp => h3 k hp hk, h5, h4, h6, fun k hk => ⟨(h7 k hk).1, (h7 k hk).2.2, (h7 k hk).2.1⟩⟩
theorem Duo.below (f : Firm X) (f' : Firm X') (h : Duo w0 w X X' F) (hb : Below w.heap.size w w') : Duo w0 w' X X' F := by
  obtain ⟨P, P', h1, h2, h3, h4, h5, h6, h7⟩ := h
  exact ⟨P, P', f.stays h1 (fun k hk => hb.block k (f.own h1 k hk)), f'.stays h2 (fun k hk => hb.block k (f'.own h2 k hk)), h3, h4, h5, h6.trans (hb.mono h6.size), fun k hk => ⟨Nat.lt_of_lt_of_le (h7 k hk).1 hb.size, (h7 k hk).2⟩⟩
theorem Duo.drop (h : Duo w0 w X X' F) : Duo w0 w X X' noF := by
  obtain ⟨P, P', h1, h2, h3, h4, h5, h6, h7⟩ := h
  exact ⟨P, P', h1, h2, h3, h4, h5, h6, fun k hk => hk.elim⟩
theorem Duo.alloc (f : Firm X) (f' : Firm X') (h : Duo w0 w X X' noF) (o : Obj) : Duo w0 (w.alloc o) X X' (fun k => k = w.heap.size) := by
  have hb := (Below.refl w.heap.size w).alloc (Nat.le_refl _) o
  obtain ⟨P, P', h1, h2, h3, h4, h5, h6, h7⟩ := h
  refine ⟨P, P', f.stays h1 (fun k hk => hb.block k (f.own h1 k hk)), f'.stays h2 (fun k hk => hb.block k (f'.own h2 k hk)), h3, h4, h5, h6.trans (hb.mono h6.size), fun k hk => ⟨by rw [hk]; simp, fun hp => ?_, fun hp => ?_⟩⟩
  · have := f.own h1 k hp; omega
  · have := f'.own h2 k hp; omega
/-- A call on the first. G: blocks that it has made for itself, as others'. -/
theorem Duo.left {Y : Type} {E : Y → Ending → World → Prop} {X2 : Y → Parts} {f : FuncId} {args : Array Value} {G : Y → Nat → Prop} (f' : Firm X') (h : Duo w0 w X X' F) (hK : ∀ P, X P w → (∀ k, P k → w0.heap.size ≤ k) → Calls Tryz.prog f args w fun e w' => ∃ y, E y e w' ∧ ∃ P2, X2 y P2 w' ∧ Only P w w' ∧ (∀ k, P2 k → P k ∨ w.heap.size ≤ k) ∧ ∀ k, G y k → k < w'.heap.size ∧ w.heap.size ≤ k ∧ ¬ P2 k) :
    Calls Tryz.prog f args w fun e w' => ∃ y, E y e w' ∧ Duo w0 w' (X2 y) X' (fun k => F k ∨ G y k) ∧ Kept F w w' ∧ w.heap.size ≤ w'.heap.size := by
  obtain ⟨P, P', h1, h2, h3, h4, h5, h6, h7⟩ := h
  refine (hK P h1 h4).mono ?_
  rintro e w' ⟨y, he, P2, hx, ho, hn, hG⟩
  have hs := h6.size
  have hs2 := ho.size
  refine ⟨y, he, ⟨P2, P', hx, f'.stays h2 (fun k hk => ho.block k (f'.own h2 k hk) (fun hp => h3 k hp hk)), fun k hk hp => ?_, fun k hk => ?_, h5, h6.trans (ho.below h4 hs), fun k hk => ?_⟩, fun k hk => ho.block k (h7 k hk).1 (h7 k hk).2.1, hs2⟩
  · rcases hn k hk with h | h
    · exact h3 k h hp
    · have := f'.own h2 k hp; omega
  · rcases hn k hk with h | h
    · exact h4 k h
    · omega
  · rcases hk with hk | hk
    · refine ⟨Nat.lt_of_lt_of_le (h7 k hk).1 hs2, fun hp => ?_, (h7 k hk).2.2⟩
      rcases hn k hp with h | h
      · exact (h7 k hk).2.1 h
      · have := (h7 k hk).1; omega
    · refine ⟨(hG k hk).1, (hG k hk).2.2, fun hp => ?_⟩
      have := f'.own h2 k hp; have := (hG k hk).2.1; omega
end

section
variable {D : Disks} {L : Logs} {g x : Nat} {σ : Dsk} {l : Lg} {w0 w : World} {X' : Parts} {F : Nat → Prop} {f : FuncId} {args : Array Value}
theorem duo_put {r : Dsk × Lg × Nat} (f' : Firm X') (h : Duo w0 w (Side D L g σ (some (x, l))) X' F) (hK : ∀ O Q, D O w g σ → L Q w x g rA l → (∀ k, O k → ¬ Q k) → (∀ k, O k → w0.heap.size ≤ k) → Calls Tryz.prog f args w (Put D L O Q w x g rA r)) :
    Calls Tryz.prog f args w fun e w' => e = .returned (.int .i64 (r.2.2 : Nat)) ∧ Duo w0 w' (Side D L g r.1 (some (x, r.2.1))) X' F ∧ Kept F w w' := by
  refine (Duo.left (Y := Unit) (E := fun _ e _ => e = .returned (.int .i64 (r.2.2 : Nat))) (X2 := fun _ => Side D L g r.1 (some (x, r.2.1))) (G := fun _ _ => False) f' h ?_).mono ?_
  · rintro P ⟨O, Q, h1, h2, h3, h4⟩ hP
    refine (hK O Q h1 h2 h3 (fun k hk => hP k ((h4 k).2 (Or.inl hk)))).mono ?_
    rintro e w' ⟨he, O', Q', hd, hl, ho, hO', hQ', hx⟩
    refine ⟨(), he, fun k => O' k ∨ Q' k, ⟨O', Q', hd, hl, hx, fun k => Iff.rfl⟩, ho.wide (fun k hk => (h4 k).2 hk), fun k hk => ?_, fun k hk => hk.elim⟩
    rcases hk with hk | hk
    · rcases hO' k hk with h | h
      · exact Or.inl ((h4 k).2 (Or.inl h))
      · exact Or.inr h
    · rcases hQ' k hk with h | h
      · exact Or.inl ((h4 k).2 (Or.inr h))
      · exact Or.inr h
  · rintro e w' ⟨_, he, ⟨P, P', h1, h2, h3, h4, h5, h6, h7⟩, hk⟩
    exact ⟨he, ⟨P, P', h1, h2, h3, h4, h5, h6, fun k hk => h7 k (Or.inl hk)⟩, hk.1⟩
theorem duo_quiet {lo : Option (Nat × Lg)} {τ : Dsk} (l1 : ∀ {Q w w' x g n l}, L Q w x g n l → (∀ k, Q k → w'.heap[k]? = w.heap[k]?) → L Q w' x g n l) (l2 : ∀ {Q w x g n l}, L Q w x g n l → ∀ k, Q k → k < w.heap.size) (f' : Firm X') (h : Duo w0 w (Side D L g σ lo) X' F) (hK : ∀ O, D O w g σ → Calls Tryz.prog f args w (Quietly D O w g τ)) :
    Calls Tryz.prog f args w fun e w' => e = .returned (.tuple #[]) ∧ Duo w0 w' (Side D L g τ lo) X' F ∧ Kept F w w' := by
  refine (Duo.left (Y := Unit) (E := fun _ e _ => e = .returned (.tuple #[])) (X2 := fun _ => Side D L g τ lo) (G := fun _ _ => False) f' h ?_).mono ?_
  · intro P hX hP
    cases lo with
    | none =>
      refine (hK P hX).mono ?_
      rintro e w' ⟨he, O', hd, ho, hn⟩
      exact ⟨(), he, O', hd, ho, hn, fun k hk => hk.elim⟩
    | some p =>
      obtain ⟨x, l⟩ := p
      obtain ⟨O, Q, h1, h2, h3, h4⟩ := hX
      refine (hK O h1).mono ?_
      rintro e w' ⟨he, O', hd, ho, hn⟩
      refine ⟨(), he, fun k => O' k ∨ Q k, ⟨O', Q, hd, l1 h2 (fun k hk => ho.block k (l2 h2 k hk) (fun hp => h3 k hp hk)), fun k hk hq => ?_, fun k => Iff.rfl⟩, ho.wide (fun k hk => (h4 k).2 (Or.inl hk)), fun k hk => ?_, fun k hk => hk.elim⟩
      · rcases hn k hk with h | h
        · exact h3 k h hq
        · have := l2 h2 k hq; omega
      · rcases hk with hk | hk
        · rcases hn k hk with h | h
          · exact Or.inl ((h4 k).2 (Or.inl h))
          · exact Or.inr h
        · exact Or.inl ((h4 k).2 (Or.inr hk))
  · rintro e w' ⟨_, he, ⟨P, P', h1, h2, h3, h4, h5, h6, h7⟩, hk⟩
    exact ⟨he, ⟨P, P', h1, h2, h3, h4, h5, h6, fun k hk => h7 k (Or.inl hk)⟩, hk.1⟩
/-- The disk of a side alone. -/
theorem Side.disk {lo : Option (Nat × Lg)} {P : Nat → Prop} (h : Side D L g σ lo P w) : ∃ O, D O w g σ ∧ (∀ k, O k → P k) := by
  cases lo with
  | none => exact ⟨P, h, fun k hk => hk⟩
  | some p =>
    obtain ⟨x, l⟩ := p
    obtain ⟨O, Q, h1, h2, h3, h4⟩ := h
    exact ⟨O, h1, fun k hk => (h4 k).2 (Or.inl hk)⟩
theorem Side.log {P : Nat → Prop} (h : Side D L g σ (some (x, l)) P w) : ∃ Q, L Q w x g rA l := by
  obtain ⟨O, Q, h1, h2, h3, h4⟩ := h
  exact ⟨Q, h2⟩
end

theorem firmR : ∀ g σ lo, Firm (Side TheRef TheRLog g σ lo) := firm_side (fun h k => h.stays k) (fun h => h.own) (fun h k => h.stays k) (fun h => h.own)
theorem TheLog.stays {Q : Nat → Prop} {w w' : World} {x g : Nat} {n : ByteArray} {l : Lg} (h : TheLog Q w x g n l) (hk : ∀ k, Q k → w'.heap[k]? = w.heap[k]?) : TheLog Q w' x g n l := by
  obtain ⟨hn, hs, hh, hQ⟩ := h
  exact ⟨hn, hs, (hk x ((hQ x).2 rfl)).trans hh, hQ⟩
theorem TheLog.own {Q : Nat → Prop} {w : World} {x g : Nat} {n : ByteArray} {l : Lg} (h : TheLog Q w x g n l) : ∀ k, Q k → k < w.heap.size := by
  obtain ⟨hn, hs, hh, hQ⟩ := h
  intro k hk
  obtain rfl := (hQ k).1 hk
  exact hh.lt
theorem firmP {D : Disks} (hD : DoorB D) : ∀ g σ lo, Firm (Side D TheLog g σ lo) := firm_side (fun h k => hD.stays h k) (fun h => hD.own h) (fun h k => h.stays k) (fun h => h.own)

/-- The row's block, where it has texts. -/
def rowG (A : Option Addr) (ts : List ByteArray) : Nat → Prop := fun k => ts ≠ [] ∧ ∃ ad, A = some ad ∧ k = ad.block
theorem rowG_strs {A : Option Addr} {ts : List ByteArray} {w w' : World} {n : Nat} (h : Strs w A n ts) (hk : ∀ k, rowG A ts k → w'.heap[k]? = w.heap[k]?) (hs : w.heap.size ≤ w'.heap.size) : Strs w' A n ts :=
  ⟨h.len, fun i hi => by
    obtain ⟨b, off, e, hl, hc⟩ := h.cell i hi
    refine ⟨b, off, e, Nat.lt_of_lt_of_le hl hs, ?_⟩
    have hb := hk b ⟨fun h0 => by rw [h0] at hi; simp at hi, _, e, rfl⟩
    unfold World.cell? at hc ⊢
    rw [hb]
    exact hc⟩
inductive OpenedY where
  | made (x : Nat) (A : Option Addr) (c : Nat)
  | not (A : Option Addr) (c : Nat)
def POpenE (r : Dsk × Nat × List ByteArray) : OpenedY → Ending → World → Prop
  | .made x A c, e, w' => r.2.1 = 0 ∧ e = .returned (.tuple #[ptr x, .slice A r.2.2.length c, .int .i64 0]) ∧ Strs w' A r.2.2.length r.2.2 ∧ (A = none → c = 0)
  | .not A c, e, _ => r.2.1 ≠ 0 ∧ e = .returned (.tuple #[.pointer none, .slice A 0 c, .int .i64 (r.2.1 : Nat)])
def openLo (r : Dsk × Nat × List ByteArray) : OpenedY → Option (Nat × Lg)
  | .made x _ _ => some (x, ⟨r.2.2, r.2.2.length, false⟩)
  | .not _ _ => none
def openG (r : Dsk × Nat × List ByteArray) : OpenedY → Nat → Prop
  | .made _ A _ => rowG A r.2.2
  | .not _ _ => fun _ => False
theorem duo_popen {D : Disks} (hD : DoorB D) {g : Nat} {σ : Dsk} {lo : Option (Nat × Lg)} {w0 w : World} {X' : Parts} {F : Nat → Prop} (f' : Firm X') (h : Duo w0 w (Side D TheLog g σ lo) X' F) (hr : σ.room ≤ 1048576) (hT : Hid (Tab w0)) :
    Calls Tryz.prog 8 #[ptr g, .string rA] w fun e w' => ∃ y, POpenE (lopen σ rA) y e w' ∧ Duo w0 w' (Side D TheLog g (lopen σ rA).1 (openLo (lopen σ rA) y)) X' (fun k => F k ∨ openG (lopen σ rA) y k) ∧ Kept F w w' ∧ w.heap.size ≤ w'.heap.size := by
  refine Duo.left f' h ?_
  intro P hX hP
  obtain ⟨O, h1, hOP⟩ := hX.disk
  refine (lg_opens0 hD rA h1 hr (by decide) (tab_later hT h.bel)).mono ?_
  rintro e w' ⟨O', hd, ho, hn, hc⟩
  rcases hc with ⟨h0, x, Q, A, c, he, hl, hQ, hx, hst, hnil, hA⟩ | ⟨h0, A, c, he⟩
  · refine ⟨.made x A c, ⟨h0, he, hst, hnil⟩, fun k => O' k ∨ Q k, ⟨O', Q, hd, hl, hx, fun k => Iff.rfl⟩, ho.wide hOP, fun k hk => ?_, ?_⟩
    · rcases hk with hk | hk
      · rcases hn k hk with h | h
        · exact Or.inl (hOP k h)
        · exact Or.inr h
      · exact Or.inr (hQ k hk)
    · rintro k ⟨hne, ad, had, rfl⟩
      obtain ⟨a1, a2, a3⟩ := hA ad had hne
      obtain ⟨b, off, e, hl2, _⟩ := hst.cell 0 (List.length_pos_iff.2 hne)
      rw [had] at e
      injection e with e
      refine ⟨by rw [e]; exact hl2, a1, fun h => ?_⟩
      rcases h with h | h
      · exact a2 h
      · exact a3 h
  · refine ⟨.not A c, ⟨h0, he⟩, O', hd, ho.wide hOP, fun k hk => ?_, fun k hk => hk.elim⟩
    rcases hn k hk with h | h
    · exact Or.inl (hOP k h)
    · exact Or.inr h
def ROpenE (r : Dsk × Nat × List ByteArray) : Option Nat → Ending → Prop
  | some x, e => r.2.1 = 0 ∧ e = .returned (.tuple #[ptr x, .int .i64 0])
  | none, e => r.2.1 ≠ 0 ∧ e = .returned (.tuple #[.pointer none, .int .i64 (r.2.1 : Nat)])
def ropenLo (r : Dsk × Nat × List ByteArray) : Option Nat → Option (Nat × Lg)
  | some x => some (x, ⟨r.2.2, r.2.2.length, false⟩)
  | none => none
theorem duo_ropen {r : Dsk × Nat × List ByteArray} {gr : Nat} {w0 w : World} {X X' : Parts} {F : Nat → Prop} (f' : Firm X') (h : Duo w0 w X X' F) (hK : ∀ P, X P w → ∃ O, (∀ k, O k → P k) ∧ Calls Tryz.prog 9 #[ptr gr, .string rA] w (ROpened O w gr r)) :
    Calls Tryz.prog 9 #[ptr gr, .string rA] w fun e w' => ∃ y, ROpenE r y e ∧ Duo w0 w' (Side TheRef TheRLog gr r.1 (ropenLo r y)) X' F ∧ Kept F w w' ∧ w.heap.size ≤ w'.heap.size := by
  refine (Duo.left (Y := Option Nat) (E := fun y e _ => ROpenE r y e) (X2 := fun y => Side TheRef TheRLog gr r.1 (ropenLo r y)) (G := fun _ _ => False) f' h ?_).mono ?_
  · intro P hX hP
    obtain ⟨O, hOP, hk⟩ := hK P hX
    refine hk.mono ?_
    rintro e w' ⟨O', hd, ho, hn, hc⟩
    rcases hc with ⟨h0, x, Q, he, hl, hQ, hx⟩ | ⟨h0, he⟩
    · refine ⟨some x, ⟨h0, he⟩, fun k => O' k ∨ Q k, ⟨O', Q, hd, hl, hx, fun k => Iff.rfl⟩, ho.wide hOP, fun k hk => ?_, fun k hk => hk.elim⟩
      rcases hk with hk | hk
      · rcases hn k hk with h | h
        · exact Or.inl (hOP k h)
        · exact Or.inr h
      · exact Or.inr (hQ k hk)
    · refine ⟨none, ⟨h0, he⟩, O', hd, ho.wide hOP, fun k hk => ?_, fun k hk => hk.elim⟩
      rcases hn k hk with h | h
      · exact Or.inl (hOP k h)
      · exact Or.inr h
  · rintro e w' ⟨y, he, ⟨P, P', h1, h2, h3, h4, h5, h6, h7⟩, hk⟩
    exact ⟨y, he, ⟨P, P', h1, h2, h3, h4, h5, h6, fun k hk => h7 k (Or.inl hk)⟩, hk⟩

end Go.Proofs.YtikbokbmaihdbaaGreatDoor
