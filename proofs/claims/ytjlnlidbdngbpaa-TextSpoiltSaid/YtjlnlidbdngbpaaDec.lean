/-
  What the model reads at a place of a string (a range over it) against 'rd'; what 'text.wrong' tells.
-/
import Derived.Test.YtjlnlidbdngbpaaPure
import GoSem.Core.Utf8
import Derived.Lib.Strings
namespace Go.Proofs.Ytjlnlidbdngbpaa

theorem get_at8 (s : ByteArray) (pos k : Nat) : (s.get! (pos + k)).toNat = at8 (s.data.toList.drop pos) k := by
  unfold at8
  rw [List.getElem?_drop]
  show (s.data[pos + k]!).toNat = _
  simp [Array.getElem!_eq_getD, Array.getD_eq_getD_getElem?]
  rfl

/-- The model's 'decode' at a place inside. -/
theorem decode_rd (s : ByteArray) (pos : Nat) (h : pos < s.size) :
    Utf8.decode s pos = if (rd (s.data.toList.drop pos)).2 = 0 then (65533, 1) else rd (s.data.toList.drop pos) := by
  have hlen : (s.data.toList.drop pos).length = s.size - pos := by
    rw [List.length_drop, Lib.size_eq]
  obtain ⟨L, hL⟩ : ∃ L, L = s.data.toList.drop pos := ⟨_, rfl⟩
  have hg : ∀ k, (s.get! (pos + k)).toNat = at8 L k := fun k => by rw [hL]; exact get_at8 s pos k
  have b0 := at8_lt L 0; have b1 := at8_lt L 1; have b2 := at8_lt L 2; have b3 := at8_lt L 3
  rw [← hL] at hlen ⊢
  have hne : L ≠ [] := by intro e; rw [e] at hlen; simp at hlen; omega
  have hsz : ∀ k, (pos + k < s.size) = (k < L.length) := fun k => by rw [hlen]; exact propext ⟨fun _ => by omega, fun _ => by omega⟩
  simp only [Utf8.decode, hg, hsz]
  have rdE : ∀ n x0 least, leadN (at8 L 0) = n → leadX (at8 L 0) = x0 → leadL (at8 L 0) = least → ¬ at8 L 0 < 128 →
      rd L = if n = 0 ∨ L.length < n then (0, 0) else if conts L (n - 1) = true ∧ okR least (acc L x0 (n - 1)) = true then (acc L x0 (n - 1), n) else (0, 0) := by
    intro n x0 least ln lx ll c1
    unfold rd
    rw [if_neg hne, if_neg c1, ln, lx, ll]
  by_cases c1 : at8 L 0 < 128
  · have hr : rd L = (at8 L 0, 1) := by unfold rd; rw [if_neg hne, if_pos c1]
    rw [if_pos c1, hr, if_neg (by simp)]
  rw [if_neg c1]
  by_cases c2 : 192 ≤ at8 L 0 ∧ at8 L 0 < 224
  · have hr := rdE 2 (at8 L 0 - 192) 128 (by unfold leadN; rw [if_pos c2]) (by unfold leadX; rw [if_pos c2]) (by unfold leadL; rw [if_pos c2]) c1
    have ha : acc L (at8 L 0 - 192) (2 - 1) = 64 * (at8 L 0 - 192) + at8 L 1 - 128 := rfl
    have hcn : conts L (2 - 1) = (decide (128 ≤ at8 L 1) && decide (at8 L 1 < 192)) := by show (true && _) = _; rw [Bool.true_and]
    rw [ha, hcn] at hr
    by_cases d1 : 1 < L.length ∧ 128 ≤ at8 L 1 ∧ at8 L 1 < 192
    · obtain ⟨e1, e2, e3⟩ := d1
      rw [if_neg (by omega)] at hr
      rw [if_pos (by simp; omega)]
      by_cases f : 128 ≤ at8 L 0 % 32 * 64 + at8 L 1 % 64
      · rw [if_pos ⟨by simp; omega, by simp [okR]; omega⟩] at hr
        rw [if_pos f, hr, if_neg (by simp)]
        exact Prod.ext (show at8 L 0 % 32 * 64 + at8 L 1 % 64 = 64 * (at8 L 0 - 192) + at8 L 1 - 128 by omega) rfl
      · rw [if_neg (by simp [okR]; omega)] at hr
        rw [if_neg f, hr, if_pos rfl]; rfl
    · have hr0 : rd L = (0, 0) := by
        rw [hr]
        by_cases e1 : (2 = 0 ∨ L.length < 2)
        · rw [if_pos e1]
        · rw [if_neg e1, if_neg (by simp; omega)]
      rw [if_neg (by simp; omega), if_neg (by simp; omega), if_neg (by simp; omega), hr0, if_pos rfl]; rfl
  by_cases c3 : 224 ≤ at8 L 0 ∧ at8 L 0 < 240
  · have hr := rdE 3 (at8 L 0 - 224) 2048 (by unfold leadN; rw [if_neg c2, if_pos c3]) (by unfold leadX; rw [if_neg c2, if_pos c3]) (by unfold leadL; rw [if_neg c2, if_pos c3]) c1
    have ha : acc L (at8 L 0 - 224) (3 - 1) = 64 * (64 * (at8 L 0 - 224) + at8 L 1 - 128) + at8 L 2 - 128 := rfl
    have hcn : conts L (3 - 1) = ((decide (128 ≤ at8 L 1) && decide (at8 L 1 < 192)) && (decide (128 ≤ at8 L 2) && decide (at8 L 2 < 192))) := by show ((true && _) && _) = _; rw [Bool.true_and]
    rw [ha, hcn] at hr
    rw [if_neg (by simp; omega)]
    by_cases d1 : 2 < L.length ∧ (128 ≤ at8 L 1 ∧ at8 L 1 < 192) ∧ 128 ≤ at8 L 2 ∧ at8 L 2 < 192
    · obtain ⟨e1, e2, e3⟩ := d1
      rw [if_neg (by omega)] at hr
      rw [if_pos (by simp; omega)]
      have hx : 64 * (64 * (at8 L 0 - 224) + at8 L 1 - 128) + at8 L 2 - 128 = at8 L 0 % 16 * 4096 + at8 L 1 % 64 * 64 + at8 L 2 % 64 := by omega
      rw [hx] at hr
      obtain ⟨x, ex⟩ : ∃ x, x = at8 L 0 % 16 * 4096 + at8 L 1 % 64 * 64 + at8 L 2 % 64 := ⟨_, rfl⟩
      have xlt : x < 65536 := by omega
      rw [← ex] at hr ⊢
      by_cases f : 2048 ≤ x ∧ ¬ (55296 ≤ x ∧ x ≤ 57343)
      · rw [if_pos ⟨by simp; omega, by simp [okR]; omega⟩] at hr
        rw [if_pos (by simp [Utf8.valid]; omega), hr, if_neg (by simp)]
      · rw [if_neg (by simp [okR]; omega)] at hr
        rw [if_neg (by simp [Utf8.valid]; omega), hr, if_pos rfl]; rfl
    · have hr0 : rd L = (0, 0) := by
        rw [hr]
        by_cases e1 : (3 = 0 ∨ L.length < 3)
        · rw [if_pos e1]
        · rw [if_neg e1, if_neg (by simp; omega)]
      rw [if_neg (by simp; omega), if_neg (by simp; omega), hr0, if_pos rfl]; rfl
  by_cases c4 : 240 ≤ at8 L 0 ∧ at8 L 0 < 248
  · have hr := rdE 4 (at8 L 0 - 240) 65536 (by unfold leadN; rw [if_neg c2, if_neg c3, if_pos c4]) (by unfold leadX; rw [if_neg c2, if_neg c3, if_pos c4]) (by unfold leadL; rw [if_neg c2, if_neg c3, if_pos c4]) c1
    have ha : acc L (at8 L 0 - 240) (4 - 1) = 64 * (64 * (64 * (at8 L 0 - 240) + at8 L 1 - 128) + at8 L 2 - 128) + at8 L 3 - 128 := rfl
    have hcn : conts L (4 - 1) = (((decide (128 ≤ at8 L 1) && decide (at8 L 1 < 192)) && (decide (128 ≤ at8 L 2) && decide (at8 L 2 < 192))) && (decide (128 ≤ at8 L 3) && decide (at8 L 3 < 192))) := by show (((true && _) && _) && _) = _; rw [Bool.true_and]
    rw [ha, hcn] at hr
    rw [if_neg (by simp; omega), if_neg (by simp; omega)]
    by_cases d1 : 3 < L.length ∧ (128 ≤ at8 L 1 ∧ at8 L 1 < 192) ∧ (128 ≤ at8 L 2 ∧ at8 L 2 < 192) ∧ 128 ≤ at8 L 3 ∧ at8 L 3 < 192
    · obtain ⟨e1, e2, e3, e4⟩ := d1
      rw [if_neg (by omega)] at hr
      rw [if_pos (by simp; omega)]
      have hx : 64 * (64 * (64 * (at8 L 0 - 240) + at8 L 1 - 128) + at8 L 2 - 128) + at8 L 3 - 128 = at8 L 0 % 8 * 262144 + at8 L 1 % 64 * 4096 + at8 L 2 % 64 * 64 + at8 L 3 % 64 := by omega
      rw [hx] at hr
      obtain ⟨x, ex⟩ : ∃ x, x = at8 L 0 % 8 * 262144 + at8 L 1 % 64 * 4096 + at8 L 2 % 64 * 64 + at8 L 3 % 64 := ⟨_, rfl⟩
      rw [← ex] at hr ⊢
      by_cases f : 65536 ≤ x ∧ x ≤ 1114111
      · rw [if_pos ⟨by simp; omega, by simp [okR]; omega⟩] at hr
        rw [if_pos (by simp [Utf8.valid]; omega), hr, if_neg (by simp)]
      · rw [if_neg (by simp [okR]; omega)] at hr
        rw [if_neg (by simp [Utf8.valid]; omega), hr, if_pos rfl]; rfl
    · have hr0 : rd L = (0, 0) := by
        rw [hr]
        by_cases e1 : (4 = 0 ∨ L.length < 4)
        · rw [if_pos e1]
        · rw [if_neg e1, if_neg (by simp; omega)]
      rw [if_neg (by simp; omega), hr0, if_pos rfl]; rfl
  · have hr0 : rd L = (0, 0) := by
      rw [rdE 0 _ _ (by unfold leadN; rw [if_neg c2, if_neg c3, if_neg c4]) rfl rfl c1, if_pos (Or.inl rfl)]
    rw [if_neg (by simp; omega), if_neg (by simp; omega), if_neg (by simp; omega), hr0, if_pos rfl]; rfl

/-- What 'text.wrong' tells of a place. -/
def wrongB (l : List UInt8) (r : Int) : Bool := (r == 65533) && !Lib.hasPrefix l [239, 191, 189]

theorem enc_65533 : enc 65533 = [239, 191, 189] := by decide

theorem wrongB_at (s : ByteArray) (pos : Nat) (h : pos < s.size) :
    wrongB (s.data.toList.drop pos) ((Utf8.decode s pos).1 : Int) = decide ((rd (s.data.toList.drop pos)).2 = 0) := by
  rw [decode_rd s pos h]
  unfold wrongB
  by_cases h0 : (rd (s.data.toList.drop pos)).2 = 0
  · rw [if_pos h0, decide_eq_true h0]
    have : Lib.hasPrefix (s.data.toList.drop pos) [239, 191, 189] = false := by
      rw [Bool.eq_false_iff]
      intro hp
      unfold Lib.hasPrefix at hp
      rw [List.isPrefixOf_iff_prefix] at hp
      obtain ⟨t, ht⟩ := hp
      rw [← ht, ← enc_65533, rd_enc (by decide)] at h0
      exact absurd h0 (by rw [enc_65533]; simp)
    rw [this]; rfl
  · rw [if_neg h0, decide_eq_false h0]
    obtain ⟨h1, h2, h3⟩ := rd_sound _ h0
    by_cases e : (rd (s.data.toList.drop pos)).1 = 65533
    · have : Lib.hasPrefix (s.data.toList.drop pos) [239, 191, 189] = true := by
        unfold Lib.hasPrefix
        rw [List.isPrefixOf_iff_prefix]
        rw [e, enc_65533] at h2
        exact ⟨_, h2.symm⟩
      rw [this]; simp
    · have : (((rd (s.data.toList.drop pos)).1 : Int) == 65533) = false := by simp; omega
      rw [this]; rfl

end Go.Proofs.Ytjlnlidbdngbpaa
