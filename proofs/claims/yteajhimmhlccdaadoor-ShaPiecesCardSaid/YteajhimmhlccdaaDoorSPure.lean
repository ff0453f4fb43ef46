/-
  SHA-256 on natural numbers, bytes as lists: the document's words. No model.
-/
import Lean.Elab.Tactic.Omega
namespace Go.Proofs.YteajhimmhlccdaaDoor

theorem byte_lt32 (b : UInt8) : b.toNat < 256 := UInt8.toNat_lt b

/-! ### Words -/
def rot (x n : Nat) : Nat := (x / 2 ^ n) ||| (x * 2 ^ (32 - n) % 4294967296)
def g0 (x : Nat) : Nat := (rot x 7 ^^^ rot x 18) ^^^ x / 8
def g1 (x : Nat) : Nat := (rot x 17 ^^^ rot x 19) ^^^ x / 1024
def S0 (a : Nat) : Nat := (rot a 2 ^^^ rot a 13) ^^^ rot a 22
def S1 (e : Nat) : Nat := (rot e 6 ^^^ rot e 11) ^^^ rot e 25
def ch (e f g : Nat) : Nat := (e &&& f) ^^^ ((4294967295 ^^^ e) &&& g)
def mj (a b c : Nat) : Nat := ((a &&& b) ^^^ (a &&& c)) ^^^ (b &&& c)

theorem xor32 {a b : Nat} (ha : a < 4294967296) (hb : b < 4294967296) : a ^^^ b < 4294967296 := Nat.xor_lt_two_pow (n := 32) ha hb
theorem or32 {a b : Nat} (ha : a < 4294967296) (hb : b < 4294967296) : a ||| b < 4294967296 := Nat.or_lt_two_pow (n := 32) ha hb
theorem and32 {a : Nat} (b : Nat) (ha : a < 4294967296) : a &&& b < 4294967296 := Nat.lt_of_le_of_lt Nat.and_le_left ha
theorem div32 {a : Nat} (n : Nat) (ha : a < 4294967296) : a / n < 4294967296 := Nat.lt_of_le_of_lt (Nat.div_le_self _ _) ha
theorem mod32 (a : Nat) : a % 4294967296 < 4294967296 := Nat.mod_lt _ (by decide)
theorem rot_lt {x : Nat} (n : Nat) (h : x < 4294967296) : rot x n < 4294967296 := or32 (div32 _ h) (mod32 _)
theorem g0_lt {x : Nat} (h : x < 4294967296) : g0 x < 4294967296 := xor32 (xor32 (rot_lt _ h) (rot_lt _ h)) (div32 _ h)
theorem g1_lt {x : Nat} (h : x < 4294967296) : g1 x < 4294967296 := xor32 (xor32 (rot_lt _ h) (rot_lt _ h)) (div32 _ h)
theorem S0_lt {x : Nat} (h : x < 4294967296) : S0 x < 4294967296 := xor32 (xor32 (rot_lt _ h) (rot_lt _ h)) (rot_lt _ h)
theorem S1_lt {x : Nat} (h : x < 4294967296) : S1 x < 4294967296 := xor32 (xor32 (rot_lt _ h) (rot_lt _ h)) (rot_lt _ h)
theorem ch_lt {e f g : Nat} (h : e < 4294967296) : ch e f g < 4294967296 := xor32 (and32 _ h) (and32 _ (xor32 (by decide) h))
theorem mj_lt {a b c : Nat} (h : a < 4294967296) (hb : b < 4294967296) : mj a b c < 4294967296 := xor32 (xor32 (and32 _ h) (and32 _ h)) (and32 _ hb)

/-! ### A round -/
structure St where
  a : Nat
  b : Nat
  c : Nat
  d : Nat
  e : Nat
  f : Nat
  g : Nat
  h : Nat

def St.ok (s : St) : Prop := s.a < 4294967296 ∧ s.b < 4294967296 ∧ s.c < 4294967296 ∧ s.d < 4294967296 ∧ s.e < 4294967296 ∧ s.f < 4294967296 ∧ s.g < 4294967296 ∧ s.h < 4294967296
def St.l (s : St) : List Nat := [s.a, s.b, s.c, s.d, s.e, s.f, s.g, s.h]
def St.plus (s t : St) : St := ⟨(s.a + t.a) % 4294967296, (s.b + t.b) % 4294967296, (s.c + t.c) % 4294967296, (s.d + t.d) % 4294967296, (s.e + t.e) % 4294967296, (s.f + t.f) % 4294967296, (s.g + t.g) % 4294967296, (s.h + t.h) % 4294967296⟩
def tx (s : St) (k w : Nat) : Nat := ((((s.h + S1 s.e) % 4294967296 + ch s.e s.f s.g) % 4294967296 + k) % 4294967296 + w) % 4294967296
def ty (s : St) : Nat := (S0 s.a + mj s.a s.b s.c) % 4294967296
def rnd (s : St) (k w : Nat) : St := ⟨(tx s k w + ty s) % 4294967296, s.a, s.b, s.c, (s.d + tx s k w) % 4294967296, s.e, s.f, s.g⟩
theorem tx_lt (s : St) (k w : Nat) : tx s k w < 4294967296 := mod32 _
theorem ty_lt (s : St) : ty s < 4294967296 := mod32 _
theorem rnd_ok {s : St} (k w : Nat) (h : s.ok) : (rnd s k w).ok := ⟨mod32 _, h.1, h.2.1, h.2.2.1, mod32 _, h.2.2.2.2.1, h.2.2.2.2.2.1, h.2.2.2.2.2.2.1⟩
theorem plus_ok (s t : St) : (s.plus t).ok := ⟨mod32 _, mod32 _, mod32 _, mod32 _, mod32 _, mod32 _, mod32 _, mod32 _⟩
theorem St.l_len (s : St) : s.l.length = 8 := rfl
theorem St.l_lt {s : St} (h : s.ok) : ∀ x ∈ s.l, x < 4294967296 := by
  obtain ⟨h1, h2, h3, h4, h5, h6, h7, h8⟩ := h
  intro x hx
  simp only [St.l, List.mem_cons, List.not_mem_nil, or_false] at hx
  rcases hx with rfl | rfl | rfl | rfl | rfl | rfl | rfl | rfl <;> assumption

/-! ### A block's words -/
def wd (l : List UInt8) : Nat := l.foldl (fun r b => r * 256 + b.toNat) 0
theorem wd_snoc (l : List UInt8) (b : UInt8) : wd (l ++ [b]) = wd l * 256 + b.toNat := by simp [wd]
theorem wd_acc : ∀ (l : List UInt8) (r : Nat), l.foldl (fun r b => r * 256 + b.toNat) r < (r + 1) * 256 ^ l.length
  | [], r => by simp
  | b :: l, r => by
    have h := wd_acc l (r * 256 + b.toNat)
    have hb := byte_lt32 b
    rw [List.foldl_cons, List.length_cons, Nat.pow_succ]
    refine Nat.lt_of_lt_of_le h ?_
    rw [Nat.mul_comm (256 ^ l.length) 256, ← Nat.mul_assoc]
    exact Nat.mul_le_mul_right _ (by omega)
theorem wd_lt (l : List UInt8) : wd l < 256 ^ l.length := by
  have := wd_acc l 0
  simpa [wd] using this
theorem wd_four (x y z u : UInt8) : wd [x, y, z, u] = ((x.toNat * 256 + y.toNat) * 256 + z.toNat) * 256 + u.toNat := by simp [wd]
def word (B : List UInt8) (q : Nat) : Nat := wd ((B.drop (4 * q)).take 4)
theorem word_lt (B : List UInt8) (q : Nat) : word B q < 4294967296 := by
  have h := wd_lt ((B.drop (4 * q)).take 4)
  have h2 : ((B.drop (4 * q)).take 4).length ≤ 4 := by rw [List.length_take]; omega
  have h3 : (256 : Nat) ^ ((B.drop (4 * q)).take 4).length ≤ 256 ^ 4 := Nat.pow_le_pow_right (by decide) h2
  unfold word
  have h4 : (256 : Nat) ^ 4 = 4294967296 := by decide
  omega
theorem word_four (B : List UInt8) (q : Nat) (h : 4 * q + 3 < B.length) : word B q = ((B[4 * q].toNat * 256 + B[4 * q + 1].toNat) * 256 + B[4 * q + 2].toNat) * 256 + B[4 * q + 3].toNat := by
  unfold word
  rw [← wd_four]
  congr 1
  rw [List.drop_eq_getElem_cons (by omega), List.drop_eq_getElem_cons (by omega), List.drop_eq_getElem_cons (by omega), List.drop_eq_getElem_cons (by omega)]
  rfl
/-- What stands in word q once i bytes have come. -/
def pw (B : List UInt8) (i q : Nat) : Nat := wd (((B.take i).drop (4 * q)).take 4)
theorem pw_zero (B : List UInt8) (q : Nat) : pw B 0 q = 0 := by simp [pw, wd]
theorem pw_full (B : List UInt8) (q : Nat) : pw B B.length q = word B q := by simp [pw, word]
theorem pw_same (B : List UInt8) (i : Nat) (hi : i < B.length) : pw B (i + 1) (i / 4) = pw B i (i / 4) * 256 + B[i].toNat := by
  unfold pw
  have h1 : ((B.take i).drop (4 * (i / 4))).length < 4 := by simp; omega
  rw [← wd_snoc, List.take_succ_eq_append_getElem hi, List.drop_append_of_le_length (by simp; omega), List.take_of_length_le (by simp; omega), List.take_of_length_le (Nat.le_of_lt h1)]
theorem pw_other (B : List UInt8) (i q : Nat) (hi : i < B.length) (hq : q ≠ i / 4) : pw B (i + 1) q = pw B i q := by
  unfold pw
  congr 1
  rw [List.take_succ_eq_append_getElem hi]
  by_cases h : 4 * q ≤ i
  · rw [List.drop_append_of_le_length (by simp; omega), List.take_append_of_le_length (by simp; omega)]
  · rw [List.drop_of_length_le (by simp; omega), List.drop_of_length_le (by simp; omega)]
theorem pw_small (B : List UInt8) (i : Nat) (hi : i < B.length) : pw B i (i / 4) < 16777216 := by
  unfold pw
  have h := wd_lt (((B.take i).drop (4 * (i / 4))).take 4)
  have h2 : (((B.take i).drop (4 * (i / 4))).take 4).length ≤ 3 := by simp; omega
  have h3 : (256 : Nat) ^ (((B.take i).drop (4 * (i / 4))).take 4).length ≤ 256 ^ 3 := Nat.pow_le_pow_right (by decide) h2
  have h4 : (256 : Nat) ^ 3 = 16777216 := by decide
  omega

/-- The words that follow. -/
def nxt (L : List Nat) : Nat := ((((g1 (L.getD (L.length - 2) 0) + L.getD (L.length - 7) 0) % 4294967296 + g0 (L.getD (L.length - 15) 0)) % 4294967296) + L.getD (L.length - 16) 0) % 4294967296
def sch (B : List UInt8) : Nat → List Nat
  | 0 => (List.range 16).map (word B)
  | n + 1 => sch B n ++ [nxt (sch B n)]
theorem sch_len (B : List UInt8) : ∀ n, (sch B n).length = 16 + n
  | 0 => by simp [sch]
  | n + 1 => by simp [sch, sch_len B n]; omega
theorem nxt_lt (L : List Nat) : nxt L < 4294967296 := mod32 _
theorem sch_lt (B : List UInt8) : ∀ n, ∀ x ∈ sch B n, x < 4294967296
  | 0 => by
    intro x hx
    simp only [sch, List.mem_map] at hx
    obtain ⟨q, _, rfl⟩ := hx
    exact word_lt B q
  | n + 1 => by
    intro x hx
    simp only [sch, List.mem_append, List.mem_singleton] at hx
    rcases hx with hx | rfl
    · exact sch_lt B n x hx
    · exact nxt_lt _
theorem getD_lt {L : List Nat} (h : ∀ x ∈ L, x < 4294967296) (i : Nat) : L.getD i 0 < 4294967296 := by
  rw [List.getD_eq_getElem?_getD]
  cases hi : L[i]? with
  | none => decide
  | some x => exact h x (List.mem_of_getElem? hi)
theorem sch_getD (B : List UInt8) (i : Nat) : ∀ n, i < 16 + n → (sch B (n + 1)).getD i 0 = (sch B n).getD i 0 := by
  intro n h
  have := sch_len B n
  rw [sch, List.getD_eq_getElem?_getD, List.getD_eq_getElem?_getD, List.getElem?_append_left (by omega)]
theorem sch_last (B : List UInt8) (n : Nat) : (sch B (n + 1)).getD (16 + n) 0 = nxt (sch B n) := by
  have := sch_len B n
  rw [sch, List.getD_eq_getElem?_getD, List.getElem?_append_right (by omega)]
  simp [this]
/-- A block's 64 words. -/
def wl (B : List UInt8) : List Nat := sch B 48
theorem wl_len (B : List UInt8) : (wl B).length = 64 := sch_len B 48
theorem wl_lt (B : List UInt8) (i : Nat) : (wl B).getD i 0 < 4294967296 := getD_lt (sch_lt B 48) i
theorem sch_first (B : List UInt8) (i : Nat) (h : i < 16) : (sch B 0).getD i 0 = word B i := by
  simp [sch, List.getD_eq_getElem?_getD, h]
/-- What stands at word t of a growing array, once n words follow. -/
def aw (B : List UInt8) (n i : Nat) : Nat := if i < 16 + n then (sch B n).getD i 0 else 0
theorem aw_lt (B : List UInt8) (n i : Nat) : aw B n i < 4294967296 := by
  unfold aw; split
  · exact getD_lt (sch_lt B n) i
  · decide
theorem aw_other (B : List UInt8) (n i : Nat) (h : i ≠ 16 + n) : aw B (n + 1) i = aw B n i := by
  unfold aw
  by_cases h1 : i < 16 + n
  · rw [if_pos h1, if_pos (by omega), sch_getD B i n h1]
  · rw [if_neg h1, if_neg (by omega)]
theorem aw_new (B : List UInt8) (n : Nat) : aw B (n + 1) (16 + n) = ((((g1 (aw B n (14 + n)) + aw B n (9 + n)) % 4294967296 + g0 (aw B n (1 + n))) % 4294967296) + aw B n n) % 4294967296 := by
  have hl := sch_len B n
  unfold aw
  rw [if_pos (by omega), if_pos (by omega), if_pos (by omega), if_pos (by omega), if_pos (by omega), sch_last, nxt, hl]
  rw [show 16 + n - 2 = 14 + n by omega, show 16 + n - 7 = 9 + n by omega, show 16 + n - 15 = 1 + n by omega, show 16 + n - 16 = n by omega]
theorem aw_end (B : List UInt8) (i : Nat) (h : i < 64) : aw B 48 i = (wl B).getD i 0 := by
  unfold aw wl; rw [if_pos (by omega)]
theorem aw_start (B : List UInt8) (hB : B.length = 64) (i : Nat) : aw B 0 i = pw B 64 i := by
  unfold aw
  rw [← hB, pw_full]
  by_cases h : i < 16
  · rw [if_pos (by omega), sch_first B i h]
  · rw [if_neg (by omega), word, List.drop_of_length_le (by omega)]; rfl

/-- The same by the number t of the word that comes next. -/
def atw (B : List UInt8) (t i : Nat) : Nat := aw B (t - 16) i
theorem atw_lt (B : List UInt8) (t i : Nat) : atw B t i < 4294967296 := aw_lt _ _ _
theorem atw_other (B : List UInt8) (t : Nat) (h : 16 ≤ t) (i : Nat) (hi : i ≠ t) : atw B (t + 1) i = atw B t i := by
  unfold atw; rw [show t + 1 - 16 = (t - 16) + 1 by omega]; exact aw_other B _ i (by omega)
theorem atw_new (B : List UInt8) (t : Nat) (h : 16 ≤ t) : atw B (t + 1) t = ((((g1 (atw B t (t - 2)) + atw B t (t - 7)) % 4294967296 + g0 (atw B t (t - 15))) % 4294967296) + atw B t (t - 16)) % 4294967296 := by
  unfold atw
  have := aw_new B (t - 16)
  rw [show 16 + (t - 16) = t by omega, show 14 + (t - 16) = t - 2 by omega, show 9 + (t - 16) = t - 7 by omega, show 1 + (t - 16) = t - 15 by omega] at this
  rw [show t + 1 - 16 = (t - 16) + 1 by omega]
  exact this

/-! ### A block, blocks -/
def ktab : List Nat := [1116352408, 1899447441, 3049323471, 3921009573, 961987163, 1508970993, 2453635748, 2870763221, 3624381080, 310598401, 607225278, 1426881987, 1925078388, 2162078206, 2614888103, 3248222580, 3835390401, 4022224774, 264347078, 604807628, 770255983, 1249150122, 1555081692, 1996064986, 2554220882, 2821834349, 2952996808, 3210313671, 3336571891, 3584528711, 113926993, 338241895, 666307205, 773529912, 1294757372, 1396182291, 1695183700, 1986661051, 2177026350, 2456956037, 2730485921, 2820302411, 3259730800, 3345764771, 3516065817, 3600352804, 4094571909, 275423344, 430227734, 506948616, 659060556, 883997877, 958139571, 1322822218, 1537002063, 1747873779, 1955562222, 2024104815, 2227730452, 2361852424, 2428436474, 2756734187, 3204031479, 3329325298]
def kz : List Int := ktab.map Int.ofNat
theorem ktab_len : ktab.length = 64 := rfl
theorem ktab_lt (i : Nat) : ktab.getD i 0 < 4294967296 := getD_lt (by decide) i
def rnds (s : St) (W : List Nat) : Nat → St
  | 0 => s
  | n + 1 => rnd (rnds s W n) (ktab.getD n 0) (W.getD n 0)
theorem rnds_ok {s : St} (W : List Nat) (h : s.ok) : ∀ n, (rnds s W n).ok
  | 0 => h
  | n + 1 => rnd_ok _ _ (rnds_ok W h n)
def cmp (s : St) (B : List UInt8) : St := (rnds s (wl B) 64).plus s
theorem cmp_ok (s : St) (B : List UInt8) : (cmp s B).ok := plus_ok _ _
def H0 : St := ⟨1779033703, 3144134277, 1013904242, 2773480762, 1359893119, 2600822924, 528734635, 1541459225⟩
theorem H0_ok : H0.ok := by unfold St.ok H0; decide
def blk (l : List UInt8) (n : Nat) : List UInt8 := (l.drop (64 * n)).take 64
def blks (l : List UInt8) : Nat → St
  | 0 => H0
  | n + 1 => cmp (blks l n) (blk l n)
theorem blks_ok (l : List UInt8) : ∀ n, (blks l n).ok
  | 0 => H0_ok
  | _ + 1 => cmp_ok _ _
theorem blk_len (l : List UInt8) (n : Nat) (h : 64 * n + 64 ≤ l.length) : (blk l n).length = 64 := by simp [blk]; omega
theorem blk_app (l c : List UInt8) (n : Nat) (h : 64 * n + 64 ≤ l.length) : blk (l ++ c) n = blk l n := by
  unfold blk
  rw [List.drop_append_of_le_length (by omega), List.take_append_of_le_length (by simp; omega)]
theorem blks_app (l c : List UInt8) : ∀ n, 64 * n ≤ l.length → blks (l ++ c) n = blks l n
  | 0, _ => rfl
  | n + 1, h => by rw [blks, blks, blks_app l c n (by omega), blk_app l c n (by omega)]

/-! ### Numbers as bytes; the padding; the digest -/
def be : Nat → Nat → List UInt8
  | 0, _ => []
  | n + 1, x => UInt8.ofNat (x / 256 ^ n % 256) :: be n x
theorem be_len : ∀ n x, (be n x).length = n
  | 0, _ => rfl
  | n + 1, x => by simp [be, be_len n x]
def zer (n : Nat) : Nat := (119 - n % 64) % 64
def padding (n : Nat) : List UInt8 := 128 :: (List.replicate (zer n) 0 ++ be 8 (8 * n))
theorem padding_len (n : Nat) : (padding n).length = 9 + zer n := by simp [padding, be_len]; omega
def pad (l : List UInt8) : List UInt8 := l ++ padding l.length
theorem pad_len (l : List UInt8) : (pad l).length = l.length + 9 + zer l.length := by simp [pad, padding_len]; omega
theorem pad_whole (l : List UInt8) : (pad l).length % 64 = 0 := by rw [pad_len, zer]; omega
def out (s : St) : List UInt8 := s.l.flatMap (be 4)
theorem out_len (s : St) : (out s).length = 32 := by simp [out, St.l, be_len]
def dig (l : List UInt8) : List UInt8 := out (blks (pad l) ((pad l).length / 64))
theorem dig_len (l : List UInt8) : (dig l).length = 32 := out_len _
end Go.Proofs.YteajhimmhlccdaaDoor
