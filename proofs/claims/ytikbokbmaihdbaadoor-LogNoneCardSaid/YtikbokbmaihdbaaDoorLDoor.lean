/-
  Layer 8: what the laws' walks want of a log's calls ('LDoor D L'), whatever a disk ('D') and a log ('L') are in memory.
-/
import Derived.Test.YtikbokbmaihdbaaDoorDInts
import Derived.Test.YtikbokbmaihdbaaDoorLModel
import Derived.Test.YtikbokbmaihdbaaDoorCWalkA
namespace Go.Proofs.YtikbokbmaihdbaaDoor
open Go.RowKit Go.ChangeShapes Go.WideShapes

/-- 'L Q w x g n l': at block x lies, in w, a log l of the file n of the disk at g; its own blocks are Q. -/
abbrev Logs := (Nat → Prop) → World → Nat → Nat → ByteArray → Lg → Prop

/-- What Open leaves. -/
def Opened (D : Disks) (L : Logs) (O : Nat → Prop) (w : World) (g : Nat) (n : ByteArray) (r : Dsk × Nat × List ByteArray) (e : Ending) (w' : World) : Prop :=
  ∃ O', D O' w' g r.1 ∧ Only O w w' ∧ (∀ k, O' k → O k ∨ w.heap.size ≤ k) ∧
    ((r.2.1 = 0 ∧ ∃ x Q A c, e = .returned (.tuple #[ptr x, .slice A r.2.2.length c, .int .i64 0]) ∧ L Q w' x g n ⟨r.2.2, r.2.2.length, false⟩ ∧ (∀ k, Q k → w.heap.size ≤ k) ∧ (∀ k, O' k → ¬ Q k) ∧ Strs w' A r.2.2.length r.2.2 ∧ (A = none → c = 0)) ∨
     (r.2.1 ≠ 0 ∧ ∃ A c, e = .returned (.tuple #[.pointer none, .slice A 0 c, .int .i64 (r.2.1 : Nat)])))
/-- What Append and Sync leave. -/
def Put (D : Disks) (L : Logs) (O Q : Nat → Prop) (w : World) (x g : Nat) (n : ByteArray) (r : Dsk × Lg × Nat) (e : Ending) (w' : World) : Prop :=
  e = .returned (.int .i64 (r.2.2 : Nat)) ∧ ∃ O' Q', D O' w' g r.1 ∧ L Q' w' x g n r.2.1 ∧ Only (fun k => O k ∨ Q k) w w' ∧ (∀ k, O' k → O k ∨ w.heap.size ≤ k) ∧ (∀ k, Q' k → Q k ∨ w.heap.size ≤ k) ∧ ∀ k, O' k → ¬ Q' k

structure LDoor (D : Disks) (L : Logs) : Prop where
  stays : ∀ {Q w w' x g n l}, L Q w x g n l → (∀ k, Q k → w'.heap[k]? = w.heap[k]?) → L Q w' x g n l
  own : ∀ {Q w x g n l}, L Q w x g n l → ∀ k, Q k → k < w.heap.size
  opens : ∀ {O w g σ} (n : ByteArray), D O w g σ → σ.room ≤ 1048576 → n.size ≤ many → Hid (Tab w) → Calls Tryd.prog 10 #[ptr g, .string n] w (Opened D L O w g n (lopen σ n))
  append : ∀ {O Q w x g σ n l} (A : Option Addr) (c : Nat) (rs : List ByteArray), D O w g σ → L Q w x g n l → (∀ k, O k → ¬ Q k) → σ.room ≤ 1048576 → Hid (Tab w) → Strs w A rs.length rs → rs.length ≤ c → c ≤ maxLen → (∀ ad, A = some ad → ¬ O ad.block ∧ ¬ Q ad.block) → (frs rs).length ≤ 1048576 → (frs l.recs).length ≤ 1099511627776 →
    Calls Tryd.prog 12 #[ptr x, .slice A rs.length c] w (Put D L O Q w x g n (lappend σ n l rs))
  sync : ∀ {O Q w x g σ n l}, D O w g σ → L Q w x g n l → (∀ k, O k → ¬ Q k) → Calls Tryd.prog 13 #[ptr x] w (Put D L O Q w x g n (lsync σ n l))
  len : ∀ {Q w x g n l}, L Q w x g n l → Calls Tryd.prog 19 #[ptr x] w fun e w' => e = .returned (.int .i64 (llen l : Nat)) ∧ Below w.heap.size w w'
  count : ∀ {Q w x g n l}, L Q w x g n l → Calls Tryd.prog 15 #[ptr x] w fun e w' => e = .returned (.int .i64 (l.recs.length : Nat)) ∧ Below w.heap.size w w'
  sure : ∀ {Q w x g n l}, L Q w x g n l → Calls Tryd.prog 14 #[ptr x] w fun e w' => e = .returned (.int .i64 (l.sure : Nat)) ∧ Below w.heap.size w w'

/-- A disk, and a log on it, both made since w0; the blocks F are another's. -/
def Both (D : Disks) (L : Logs) (w0 w : World) (g : Nat) (σ : Dsk) (x : Nat) (n : ByteArray) (l : Lg) (F : Nat → Prop) : Prop :=
  ∃ O Q, D O w g σ ∧ L Q w x g n l ∧ (∀ k, O k → ¬ Q k) ∧ (∀ k, O k → w0.heap.size ≤ k) ∧ (∀ k, Q k → w0.heap.size ≤ k) ∧ Below w0.heap.size w0 w ∧ ∀ k, F k → k < w.heap.size ∧ ¬ O k ∧ ¬ Q k
/-- A disk made since w0, beside the blocks F. -/
def Lone (D : Disks) (w0 w : World) (g : Nat) (σ : Dsk) (F : Nat → Prop) : Prop :=
  ∃ O, D O w g σ ∧ (∀ k, O k → w0.heap.size ≤ k) ∧ Below w0.heap.size w0 w ∧ ∀ k, F k → k < w.heap.size ∧ ¬ O k
def noF : Nat → Prop := fun _ => False
/-- F's blocks are as they were. -/
def Kept (F : Nat → Prop) (w w' : World) : Prop := ∀ k, F k → w'.heap[k]? = w.heap[k]?
/-- What Open leaves, told from outside. -/
def Opens (D : Disks) (L : Logs) (w0 : World) (g : Nat) (n : ByteArray) (F : Nat → Prop) (r : Dsk × Nat × List ByteArray) (e : Ending) (w' : World) : Prop :=
  (r.2.1 = 0 ∧ ∃ x A c, e = .returned (.tuple #[ptr x, .slice A r.2.2.length c, .int .i64 0]) ∧ Both D L w0 w' g r.1 x n ⟨r.2.2, r.2.2.length, false⟩ F ∧ Strs w' A r.2.2.length r.2.2 ∧ (A = none → c = 0)) ∨
  (r.2.1 ≠ 0 ∧ ∃ A c, e = .returned (.tuple #[.pointer none, .slice A 0 c, .int .i64 (r.2.1 : Nat)]) ∧ Lone D w0 w' g r.1 F)

section
variable {D : Disks} {L : Logs} {w0 w : World} {g x : Nat} {σ : Dsk} {n : ByteArray} {l : Lg} {F : Nat → Prop}
theorem Both.bel (h : Both D L w0 w g σ x n l F) : Below w0.heap.size w0 w := by obtain ⟨_, _, _, _, _, _, _, hb, _⟩ := h; exact hb
theorem Both.lone (h : Both D L w0 w g σ x n l F) : Lone D w0 w g σ F := by
  obtain ⟨O, Q, hd, _, _, hO, _, hb, hF⟩ := h
  exact ⟨O, hd, hO, hb, fun k hk => ⟨(hF k hk).1, (hF k hk).2.1⟩⟩
theorem Lone.bel (h : Lone D w0 w g σ F) : Below w0.heap.size w0 w := by obtain ⟨_, _, _, hb, _⟩ := h; exact hb
theorem Lone.mine (h : Lone D w0 w g σ F) : Mine D w0 w g σ := by
  obtain ⟨O, hd, hO, hb, _⟩ := h
  exact ⟨O, hd, hO, hb⟩
theorem Mine.lone (h : Mine D w0 w g σ) : Lone D w0 w g σ noF := by
  obtain ⟨O, hd, hO, hb⟩ := h
  exact ⟨O, hd, hO, hb, fun k hk => hk.elim⟩
theorem tab_later {w0 w : World} (hT : Hid (Tab w0)) (hb : Below w0.heap.size w0 w) : Hid (Tab w) := hT.out.below hb
/-- Other blocks in the others' place: they are there, and new since a world in which the disk and the log were there; or they were there as others'. -/
theorem Lone.frame (hD : DoorB D) {w' : World} {F' : Nat → Prop} (h : Lone D w0 w g σ F) (hb : Below w.heap.size w w' ∨ (Below w0.heap.size w0 w' ∧ ∀ k, k < w.heap.size → ¬ F k → w'.heap[k]? = w.heap[k]?)) (hF : ∀ k, F' k → k < w'.heap.size ∧ (F k ∨ w.heap.size ≤ k)) : Lone D w0 w' g σ F' := by
  obtain ⟨O, hd, hO, hb0, hf⟩ := h
  have hk : ∀ k, O k → w'.heap[k]? = w.heap[k]? := fun k hk => by
    rcases hb with hb | hb
    · exact hb.block k (hD.own hd k hk)
    · exact hb.2 k (hD.own hd k hk) (fun h1 => (hf k h1).2 hk)
  have hbel : Below w0.heap.size w0 w' := by
    rcases hb with hb | hb
    · exact hb0.trans (hb.mono hb0.size)
    · exact hb.1
  refine ⟨O, hD.stays hd hk, hO, hbel, fun k hk' => ⟨(hF k hk').1, fun ho => ?_⟩⟩
  rcases (hF k hk').2 with h1 | h1
  · exact (hf k h1).2 ho
  · have := hD.own hd k ho; omega

variable (hD : DoorB D) (hL : LDoor D L)
include hD hL
theorem Both.frame {w' : World} {F' : Nat → Prop} (h : Both D L w0 w g σ x n l F) (hb : Below w.heap.size w w' ∨ (Below w0.heap.size w0 w' ∧ ∀ k, k < w.heap.size → ¬ F k → w'.heap[k]? = w.heap[k]?)) (hF : ∀ k, F' k → k < w'.heap.size ∧ (F k ∨ w.heap.size ≤ k)) : Both D L w0 w' g σ x n l F' := by
  obtain ⟨O, Q, hd, hl, hx, hO, hQ, hb0, hf⟩ := h
  have hk : ∀ k, k < w.heap.size → ¬ F k → w'.heap[k]? = w.heap[k]? := fun k hk hn => by
    rcases hb with hb | hb
    · exact hb.block k hk
    · exact hb.2 k hk hn
  have hbel : Below w0.heap.size w0 w' := by
    rcases hb with hb | hb
    · exact hb0.trans (hb.mono hb0.size)
    · exact hb.1
  refine ⟨O, Q, hD.stays hd (fun k h1 => hk k (hD.own hd k h1) (fun h2 => (hf k h2).2.1 h1)), hL.stays hl (fun k h1 => hk k (hL.own hl k h1) (fun h2 => (hf k h2).2.2 h1)), hx, hO, hQ, hbel, fun k hk' => ⟨(hF k hk').1, fun ho => ?_, fun hq => ?_⟩⟩
  · rcases (hF k hk').2 with h1 | h1
    · exact (hf k h1).2.1 ho
    · have := hD.own hd k ho; omega
  · rcases (hF k hk').2 with h1 | h1
    · exact (hf k h1).2.2 hq
    · have := hL.own hl k hq; omega
theorem Both.below {w' : World} (h : Both D L w0 w g σ x n l F) (hb : Below w.heap.size w w') : Both D L w0 w' g σ x n l F := by
  have hf : ∀ k, F k → k < w'.heap.size ∧ (F k ∨ w.heap.size ≤ k) := by
    obtain ⟨O, Q, _, _, _, _, _, _, hf⟩ := h
    exact fun k hk => ⟨Nat.lt_of_lt_of_le (hf k hk).1 hb.size, Or.inl hk⟩
  exact Both.frame hD hL h (Or.inl hb) hf
omit hL in
theorem Lone.below {w' : World} (h : Lone D w0 w g σ F) (hb : Below w.heap.size w w') : Lone D w0 w' g σ F := by
  have hf : ∀ k, F k → k < w'.heap.size ∧ (F k ∨ w.heap.size ≤ k) := by
    obtain ⟨O, _, _, _, hf⟩ := h
    exact fun k hk => ⟨Nat.lt_of_lt_of_le (hf k hk).1 hb.size, Or.inl hk⟩
  exact h.frame hD (Or.inl hb) hf
omit hD in
/-- Behind a call on the disk alone. -/
theorem Both.turned {f : FuncId} {args : Array Value} {r : Dsk × Nat} (h : Both D L w0 w g σ x n l F) (hc : ∀ O, D O w g σ → (∀ k, O k → w0.heap.size ≤ k) → Calls Tryd.prog f args w (Did D O w g r)) :
    Calls Tryd.prog f args w fun e w' => e = .returned (.int .i64 (r.2 : Nat)) ∧ Both D L w0 w' g r.1 x n l F ∧ Kept F w w' := by
  obtain ⟨O, Q, hd, hl, hx, hO, hQ, hb, hF⟩ := h
  refine (hc O hd hO).mono ?_
  rintro e w' ⟨rfl, O', hd', ho, hn⟩
  have hs := hb.size
  refine ⟨rfl, ⟨O', Q, hd', hL.stays hl (fun k hk => ho.block k (hL.own hl k hk) (fun h1 => hx k h1 hk)), fun k hk hq => ?_, fun k hk => ?_, hQ, hb.trans (ho.below hO hs), fun k hk => ⟨Nat.lt_of_lt_of_le (hF k hk).1 ho.size, fun h1 => ?_, (hF k hk).2.2⟩⟩, fun k hk => ho.block k (hF k hk).1 (hF k hk).2.1⟩
  · rcases hn k hk with h1 | h1
    · exact hx k h1 hq
    · have := hL.own hl k hq; omega
  · rcases hn k hk with h1 | h1
    · exact hO k h1
    · omega
  · rcases hn k h1 with h2 | h2
    · exact (hF k hk).2.1 h2
    · have := (hF k hk).1; omega
omit hD hL in
theorem Lone.turned {f : FuncId} {args : Array Value} {r : Dsk × Nat} (h : Lone D w0 w g σ F) (hc : ∀ O, D O w g σ → (∀ k, O k → w0.heap.size ≤ k) → Calls Tryd.prog f args w (Did D O w g r)) :
    Calls Tryd.prog f args w fun e w' => e = .returned (.int .i64 (r.2 : Nat)) ∧ Lone D w0 w' g r.1 F ∧ Kept F w w' := by
  obtain ⟨O, hd, hO, hb, hF⟩ := h
  refine (hc O hd hO).mono ?_
  rintro e w' ⟨rfl, O', hd', ho, hn⟩
  have hs := hb.size
  refine ⟨rfl, ⟨O', hd', fun k hk => ?_, hb.trans (ho.below hO hs), fun k hk => ⟨Nat.lt_of_lt_of_le (hF k hk).1 ho.size, fun h1 => ?_⟩⟩, fun k hk => ho.block k (hF k hk).1 (hF k hk).2⟩
  · rcases hn k hk with h1 | h1
    · exact hO k h1
    · omega
  · rcases hn k h1 with h2 | h2
    · exact (hF k hk).2 h2
    · have := (hF k hk).1; omega
omit hD in
theorem lopen_at (n : ByteArray) (h : Lone D w0 w g σ F) (hr : σ.room ≤ 1048576) (hn : n.size ≤ many) (hT : Hid (Tab w0)) : Calls Tryd.prog 10 #[ptr g, .string n] w fun e w' => Opens D L w0 g n F (lopen σ n) e w' ∧ Kept F w w' := by
  obtain ⟨O, hd, hO, hb, hF⟩ := h
  refine (hL.opens n hd hr hn (tab_later hT hb)).mono ?_
  rintro e w' ⟨O', hd', ho, hn', hc⟩
  have hs := hb.size
  have hO' : ∀ k, O' k → w0.heap.size ≤ k := fun k hk => by
    rcases hn' k hk with h1 | h1
    · exact hO k h1
    · omega
  have hF' : ∀ k, F k → k < w'.heap.size ∧ ¬ O' k := fun k hk => ⟨Nat.lt_of_lt_of_le (hF k hk).1 ho.size, fun h1 => by
    rcases hn' k h1 with h2 | h2
    · exact (hF k hk).2 h2
    · have := (hF k hk).1; omega⟩
  have hb' := hb.trans (ho.below hO hs)
  refine ⟨?_, fun k hk => ho.block k (hF k hk).1 (hF k hk).2⟩
  rcases hc with ⟨h0, x, Q, A, c, he, hl, hQ, hx, hst⟩ | ⟨h0, A, c, he⟩
  · exact Or.inl ⟨h0, x, A, c, he, ⟨O', Q, hd', hl, hx, hO', fun k hk => Nat.le_trans hs (hQ k hk), hb', fun k hk => ⟨(hF' k hk).1, (hF' k hk).2, fun hq => by have := hQ k hq; have := (hF k hk).1; omega⟩⟩, hst⟩
  · exact Or.inr ⟨h0, A, c, he, ⟨O', hd', hO', hb', hF'⟩⟩
omit hD in
/-- .. where there is another log already: it stays. -/
theorem lopen_both (m : ByteArray) (h : Both D L w0 w g σ x n l F) (hr : σ.room ≤ 1048576) (hm : m.size ≤ many) (hT : Hid (Tab w0)) : Calls Tryd.prog 10 #[ptr g, .string m] w fun e w' =>
    Both D L w0 w' g (lopen σ m).1 x n l F ∧ Opens D L w0 g m F (lopen σ m) e w' ∧ Kept F w w' := by
  obtain ⟨O, Q, hd, hl, hx, hO, hQ, hb, hF⟩ := h
  refine (hL.opens m hd hr hm (tab_later hT hb)).mono ?_
  rintro e w' ⟨O', hd', ho, hn', hc⟩
  have hs := hb.size
  have hO' : ∀ k, O' k → w0.heap.size ≤ k := fun k hk => by
    rcases hn' k hk with h1 | h1
    · exact hO k h1
    · omega
  have hF' : ∀ k, F k → k < w'.heap.size ∧ ¬ O' k := fun k hk => ⟨Nat.lt_of_lt_of_le (hF k hk).1 ho.size, fun h1 => by
    rcases hn' k h1 with h2 | h2
    · exact (hF k hk).2.1 h2
    · have := (hF k hk).1; omega⟩
  have hb' := hb.trans (ho.below hO hs)
  refine ⟨⟨O', Q, hd', hL.stays hl (fun k hk => ho.block k (hL.own hl k hk) (fun h1 => hx k h1 hk)), fun k hk hq => ?_, hO', hQ, hb', fun k hk => ⟨(hF' k hk).1, (hF' k hk).2, (hF k hk).2.2⟩⟩, ?_, fun k hk => ho.block k (hF k hk).1 (hF k hk).2.1⟩
  · rcases hn' k hk with h1 | h1
    · exact hx k h1 hq
    · have := hL.own hl k hq; omega
  · rcases hc with ⟨h0, y, Q', A, c, he, hl', hQ', hx', hst⟩ | ⟨h0, A, c, he⟩
    · exact Or.inl ⟨h0, y, A, c, he, ⟨O', Q', hd', hl', hx', hO', fun k hk => Nat.le_trans hs (hQ' k hk), hb', fun k hk => ⟨(hF' k hk).1, (hF' k hk).2, fun hq => by have := hQ' k hq; have := (hF k hk).1; omega⟩⟩, hst⟩
    · exact Or.inr ⟨h0, A, c, he, ⟨O', hd', hO', hb', hF'⟩⟩
omit hD hL in
theorem put_both {f : FuncId} {args : Array Value} {r : Dsk × Lg × Nat} {O Q : Nat → Prop} (hO : ∀ k, O k → w0.heap.size ≤ k) (hQ : ∀ k, Q k → w0.heap.size ≤ k) (hb : Below w0.heap.size w0 w) (hF : ∀ k, F k → k < w.heap.size ∧ ¬ O k ∧ ¬ Q k) (hc : Calls Tryd.prog f args w (Put D L O Q w x g n r)) :
    Calls Tryd.prog f args w fun e w' => e = .returned (.int .i64 (r.2.2 : Nat)) ∧ Both D L w0 w' g r.1 x n r.2.1 F ∧ Kept F w w' := by
  refine hc.mono ?_
  rintro e w' ⟨rfl, O', Q', hd, hl, ho, hO', hQ', hx⟩
  have hs := hb.size
  refine ⟨rfl, ⟨O', Q', hd, hl, hx, fun k hk => ?_, fun k hk => ?_, hb.trans (ho.below (fun k hk => by rcases hk with h1 | h1; exact hO k h1; exact hQ k h1) hs), fun k hk => ⟨Nat.lt_of_lt_of_le (hF k hk).1 ho.size, fun h1 => ?_, fun h1 => ?_⟩⟩, fun k hk => ho.block k (hF k hk).1 (fun h1 => by rcases h1 with h2 | h2; exact (hF k hk).2.1 h2; exact (hF k hk).2.2 h2)⟩
  · rcases hO' k hk with h1 | h1
    · exact hO k h1
    · omega
  · rcases hQ' k hk with h1 | h1
    · exact hQ k h1
    · omega
  · rcases hO' k h1 with h2 | h2
    · exact (hF k hk).2.1 h2
    · have := (hF k hk).1; omega
  · rcases hQ' k h1 with h2 | h2
    · exact (hF k hk).2.2 h2
    · have := (hF k hk).1; omega
/-- With records that lie in a row which is new, or was there ahead of both. -/
theorem lappend_at (h : Both D L w0 w g σ x n l F) (hr : σ.room ≤ 1048576) (hT : Hid (Tab w0)) {w' : World} (hb' : Below w.heap.size w w') (A : Option Addr) (c : Nat) (rs : List ByteArray) (hst : Strs w' A rs.length rs) (hlc : rs.length ≤ c) (hcm : c ≤ maxLen) (hA : ∀ ad, A = some ad → ad.block < w0.heap.size ∨ w.heap.size ≤ ad.block) (hf : (frs rs).length ≤ 1048576) (hlb : (frs l.recs).length ≤ 1099511627776) :
    Calls Tryd.prog 12 #[ptr x, .slice A rs.length c] w' fun e w'' => e = .returned (.int .i64 ((lappend σ n l rs).2.2 : Nat)) ∧ Both D L w0 w'' g (lappend σ n l rs).1 x n (lappend σ n l rs).2.1 F ∧ Kept F w' w'' := by
  obtain ⟨O, Q, hd, hl, hx, hO, hQ, hb, hF⟩ := h
  have hd' := hD.below hd hb'
  have hl' := hL.stays hl (fun k hk => hb'.block k (hL.own hl k hk))
  have hbb := hb.trans (hb'.mono hb.size)
  refine put_both hO hQ hbb (fun k hk => ⟨Nat.lt_of_lt_of_le (hF k hk).1 hb'.size, (hF k hk).2⟩) (hL.append A c rs hd' hl' hx hr (tab_later hT hbb) hst hlc hcm (fun ad had => ⟨fun ho => ?_, fun hq => ?_⟩) hf hlb)
  · have h1 := hO _ ho
    have h2 := hD.own hd _ ho
    rcases hA ad had with h3 | h3 <;> omega
  · have h1 := hQ _ hq
    have h2 := hL.own hl _ hq
    rcases hA ad had with h3 | h3 <;> omega
omit hD in
theorem lsync_at (h : Both D L w0 w g σ x n l F) : Calls Tryd.prog 13 #[ptr x] w fun e w' => e = .returned (.int .i64 ((lsync σ n l).2.2 : Nat)) ∧ Both D L w0 w' g (lsync σ n l).1 x n (lsync σ n l).2.1 F ∧ Kept F w w' := by
  obtain ⟨O, Q, hd, hl, hx, hO, hQ, hb, hF⟩ := h
  exact put_both hO hQ hb hF (hL.sync hd hl hx)
omit hD in
theorem llen_at (h : Both D L w0 w g σ x n l F) : Calls Tryd.prog 19 #[ptr x] w fun e w' => e = .returned (.int .i64 (llen l : Nat)) ∧ Below w.heap.size w w' := by
  obtain ⟨O, Q, hd, hl, _⟩ := h
  exact hL.len hl
omit hD in
theorem lcount_at (h : Both D L w0 w g σ x n l F) : Calls Tryd.prog 15 #[ptr x] w fun e w' => e = .returned (.int .i64 (l.recs.length : Nat)) ∧ Below w.heap.size w w' := by
  obtain ⟨O, Q, hd, hl, _⟩ := h
  exact hL.count hl
omit hD in
theorem lsure_at (h : Both D L w0 w g σ x n l F) : Calls Tryd.prog 14 #[ptr x] w fun e w' => e = .returned (.int .i64 (l.sure : Nat)) ∧ Below w.heap.size w w' := by
  obtain ⟨O, Q, hd, hl, _⟩ := h
  exact hL.sure hl
end

/-- What no log answers, and Open where there is no disk. -/
structure LShut : Prop where
  opens : ∀ (n : ByteArray) (w : World), n.size ≤ many → Calls Tryd.prog 10 #[.pointer none, .string n] w fun e w' => (∃ A c, e = .returned (.tuple #[.pointer none, .slice A 0 c, .int .i64 1])) ∧ Below w.heap.size w w'
  append : ∀ (A : Option Addr) (k c : Nat) (w : World), k ≤ c → Calls Tryd.prog 12 #[.pointer none, .slice A k c] w fun e w' => e = .returned (.int .i64 1) ∧ Below w.heap.size w w'
  sync : ∀ (w : World), Calls Tryd.prog 13 #[.pointer none] w fun e w' => e = .returned (.int .i64 1) ∧ Below w.heap.size w w'
  len : ∀ (w : World), Calls Tryd.prog 19 #[.pointer none] w fun e w' => e = .returned (.int .i64 0) ∧ Below w.heap.size w w'
  count : ∀ (w : World), Calls Tryd.prog 15 #[.pointer none] w fun e w' => e = .returned (.int .i64 0) ∧ Below w.heap.size w w'
  sure : ∀ (w : World), Calls Tryd.prog 14 #[.pointer none] w fun e w' => e = .returned (.int .i64 0) ∧ Below w.heap.size w w'

end Go.Proofs.YtikbokbmaihdbaaDoor
