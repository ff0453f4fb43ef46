/-
  The walk of the law CrcMixed.
-/
import Derived.Test.YtadikbbaliaofaaDoorCWalkA
import Derived.Test.YtadikbbaliaofaaDoorBRow
import Derived.Test.YtadikbbaliaofaaDoorArgs
import Derived.OpenShut
import Derived.RegionTactic
import Derived.Lib.Strings
import Derived.ChangeAlike
import Derived.Deep.QuietTactic
import Derived.BigQuiet
namespace Go.Proofs.YtadikbbaliaofaaDoor.crcMixed
open Go.RowKit

/-- A slice of bytes that came in, as bytes. -/
def Arg (W : World) (A : Option Addr) (len : Nat) : Prop :=
  ∀ k, k < len → ∃ b off, ∃ z : UInt8, A = some ⟨b, off, none⟩ ∧ b < W.heap.size ∧ W.cell? ⟨b, off + k, none⟩ = some (.int .u8 (z.toNat : Int))

theorem arg_of {W : World} {A : Option Addr} {l c : Nat} {Z : List Int} (v : SliceView W .u8 A l c Z) : Arg W A l := by
  obtain ⟨h1, _, _, _, h2, h3⟩ := v
  intro k hk
  obtain ⟨b, off, e, hb, hc⟩ := h2 k hk
  have hk' : k < Z.length := by omega
  have hz := bounds_u8 (h3 Z[k] (List.getElem_mem hk'))
  refine ⟨b, off, UInt8.ofNat Z[k].toNat, e, hb, ?_⟩
  rw [hc]
  simp only [List.getD, List.getElem?_eq_getElem hk', Option.getD_some]
  congr 2
  simp only [UInt8.toNat_ofNat']
  omega

theorem _root_.Go.Proofs.YtadikbbaliaofaaDoor.Tab.drewN {w : World} (h : Tab w) (n : Nat) : Tab (w.drewN n) := fun i hi => by simpa using h i hi

/-- What the loop knows of the three rows. -/
structure Three (w wr : World) (g : Nat) (s a b c : List UInt8) : Prop where
  la : a.length = s.length
  lb : b.length = s.length
  lc : c.length = s.length
  ra : BRow wr g a
  rb : BRow wr (g + 1) b
  rc : BRow wr (g + 2) c
  v : vl c = vl s ^^^ vl a ^^^ vl b
  below : Below w.heap.size w wr

theorem xor_byte (X z : UInt8) : bits .xor .u8 (X.toNat : Int) (z.toNat : Int) = ((X ^^^ z).toNat : Int) := by
  rw [UInt8.toNat_xor]
  exact u8_xor_nat _ _ (UInt8.toNat_lt X) (UInt8.toNat_lt z)

/-- The world behind one store. -/
def put (wr : World) (g q : Nat) (X z : UInt8) : World := (wr.setCell ⟨g, q, none⟩ (.int .u8 (bits .xor .u8 (X.toNat : Int) (z.toNat : Int)))).drew
theorem put_same {wr : World} {g q : Nat} {l : List UInt8} (h : BRow wr g l) (hq : q < l.length) (X z : UInt8) : BRow (put wr g q X z) g (l.set q (X ^^^ z)) := by
  unfold put
  rw [xor_byte]
  exact h.store q hq _
theorem put_other {wr : World} {g g' q : Nat} {l : List UInt8} (h : BRow wr g' l) (hg : g' ≠ g) (X z : UInt8) : BRow (put wr g q X z) g' l := by
  unfold put
  exact h.other ⟨g, q, none⟩ hg _
theorem put_below {w wr : World} {g q : Nat} (h : Below w.heap.size w wr) (hg : w.heap.size ≤ g) (X z : UInt8) : Below w.heap.size w (put wr g q X z) := by
  unfold put
  exact (h.setCell (p := ⟨g, q, none⟩) hg _).drew

theorem Three.one {w wr : World} {g q : Nat} {s a b c : List UInt8} (h : Three w wr g s a b c) (hg : g = w.heap.size) (ha : q < a.length) (hc : q < c.length) {X Y : UInt8} (hX : X = a[q]) (hY : Y = c[q]) (z : UInt8) :
    Three w (put (put wr g q X z) (g + 2) q Y z) g s (a.set q (X ^^^ z)) b (c.set q (Y ^^^ z)) :=
  ⟨by simpa using h.la, h.lb, by simpa using h.lc, put_other (put_same h.ra ha X z) (by omega) _ _, put_other (put_other h.rb (by omega) _ _) (by omega) _ _, put_same (put_other h.rc (by omega) _ _) hc _ _,
    by rw [vl_turn z.toNat c q hc _ (by rw [UInt8.toNat_xor, hY]), vl_turn z.toNat a q ha _ (by rw [UInt8.toNat_xor, hX]), h.v]; simp only [Nat.xor_assoc]; congr 2; exact Nat.xor_comm _ _,
    put_below (put_below h.below (by omega) _ _) (by omega) _ _⟩
theorem Three.two {w wr : World} {g q : Nat} {s a b c : List UInt8} (h : Three w wr g s a b c) (hg : g = w.heap.size) (hb : q < b.length) (hc : q < c.length) {X Y : UInt8} (hX : X = b[q]) (hY : Y = c[q]) (z : UInt8) :
    Three w (put (put wr (g + 1) q X z) (g + 2) q Y z) g s a (b.set q (X ^^^ z)) (c.set q (Y ^^^ z)) :=
  ⟨h.la, by simpa using h.lb, by simpa using h.lc, put_other (put_other h.ra (by omega) _ _) (by omega) _ _, put_other (put_same h.rb hb X z) (by omega) _ _, put_same (put_other h.rc (by omega) _ _) hc _ _,
    by rw [vl_turn z.toNat c q hc _ (by rw [UInt8.toNat_xor, hY]), vl_turn z.toNat b q hb _ (by rw [UInt8.toNat_xor, hX]), h.v]; simp only [Nat.xor_assoc],
    put_below (put_below h.below (by omega) _ _) (by omega) _ _⟩

theorem row_cell {w : World} {g q : Nat} {l : List UInt8} (h : BRow w g l) (hq : q < l.length) : ∃ X, X = l[q] ∧ w.cell? ⟨g, q, none⟩ = some (.int .u8 (X.toNat : Int)) ∧ w.frozen? ⟨g, q, none⟩ = false :=
  ⟨_, rfl, (h.2 q hq).1, (h.2 q hq).2⟩

set_option maxHeartbeats 1000000 in
set_option maxRecDepth 100000 in
theorem walk_n (s : ByteArray) (A1 : Option Addr) (l1 c1 : Nat) (A2 : Option Addr) (l2 c2 : Nat) (hs : s.size ≤ 4096) (h1 : l1 ≤ 4096) (h2 : l2 ≤ 4096) (w : World) (hT : Hid (Tab w)) (H1 : Hid (Arg w A1 l1)) (H2 : Hid (Arg w A2 l2)) :
    Calls Tryd.prog 6 #[.string s, .slice A1 l1 c1, .slice A2 l2 c2] w fun e w' => e = .returned (.bool true) ∧ Below w.heap.size w w' := by
  obtain ⟨ca, w1, hcv1, hrow1, hbel1, hsz1⟩ := BRow.conv w s
  obtain ⟨cb, w2, hcv2, hrow2, hbel2, hsz2⟩ := BRow.conv w1 s
  obtain ⟨cc, w3, hcv3, hrow3, hbel3, hsz3⟩ := BRow.conv w2 s
  obtain ⟨g, hg⟩ : ∃ g, g = w.heap.size := ⟨_, rfl⟩
  have hg1 : w1.heap.size = g + 1 := by omega
  have hg2 : w2.heap.size = g + 2 := by omega
  rw [← hg] at hcv1 hrow1
  rw [hg1] at hcv2 hrow2
  rw [hg2] at hcv3 hrow3
  have HTh : Hid (Three w w3 g s.data.toList s.data.toList s.data.toList s.data.toList) :=
    ⟨rfl, rfl, rfl, (hrow1.below hbel2 (by omega)).below hbel3 (by omega), hrow2.below hbel3 (by omega), hrow3, by rw [Nat.xor_assoc, Nat.xor_self, Nat.xor_zero], (hbel1.trans (hbel2.mono (by omega))).trans (hbel3.mono (by omega))⟩
  have HG := Lib.hid hg
  clear hg hg1 hg2 hrow1 hrow2 hrow3 hbel1 hbel2 hbel3 hsz1 hsz2 hsz3
  go_enter Tryd.func6, Tryd.ntmps6
  go_wp2_with fail
  clear hcv1 hcv2 hcv3
  go_loopw [10] (fun k wr => ∃ (q : Nat) (a b c : List UInt8), q ≤ s.size ∧ k = .int .i64 q ∧ Hid (Three w wr g s.data.toList a b c)) (fun k _ => s.size - (intOf k).toNat)
  case atStart => exact ⟨0, _, _, _, by omega, rfl, HTh⟩
  case round =>
    clear HTh
    obtain ⟨q, a, b, c, hq, rfl, HTh⟩ := hrel
    by_cases hlt : q < s.size
    · by_cases k1 : q < l1
      · obtain ⟨b1, o1, z1, rfl, hb1, hx1⟩ := H1.out q k1
        have ha1 : q < a.length := by rw [HTh.out.la]; simpa using hlt
        have hc1 : q < c.length := by rw [HTh.out.lc]; simpa using hlt
        obtain ⟨X1, hX1, hcx1, hfx1⟩ := row_cell HTh.out.ra ha1
        obtain ⟨Y1, hY1, hcy1, hfy1⟩ := row_cell HTh.out.rc hc1
        have hcz1 := (HTh.out.below.cell (p := ⟨b1, o1 + q, none⟩) hb1).trans hx1
        have HT1 := Lib.hid (HTh.out.one HG.out ha1 hc1 hX1 hY1 z1)
        have hb1' := put_below (w := w) (wr := wr) (g := g) (q := q) HTh.out.below (by rw [HG.out]; omega) X1 z1
        have hr1' := put_other (g := g) (q := q) HTh.out.rc (by omega) X1 z1
        have hcy1' := (hr1'.2 q hc1).1
        have hfy1' := (hr1'.2 q hc1).2
        have hcz1' := (hb1'.cell (p := ⟨b1, o1 + q, none⟩) hb1).trans hx1
        rw [← hY1] at hcy1'
        obtain ⟨W1, hW1⟩ : ∃ W, W = put wr (g) q X1 z1 := ⟨_, rfl⟩
        rw [← hW1] at hcy1' hfy1' hcz1'
        have HW1 := Lib.hid hW1
        have Hx1 := Lib.hid (And.intro hcy1' (And.intro hfy1' hcz1'))
        clear hx1 hX1 hY1 hcy1 hfy1 hb1' hr1' hcy1' hfy1' hcz1' hW1
        go_wp2_with fail
        go_region
        change Exit.then _ _ _ _ (put wr (g) q X1 z1)
        rw [← HW1.out]
        clear hcx1 hfx1 hcz1
        obtain ⟨hcy1, hfy1, hcz1⟩ := Hx1.out
        clear Hx1
        go_wp2_with fail
        go_region
        first | change Exit.then _ _ _ _ (put W1 (g + 2) q Y1 z1) | change Exit.inBlock _ _ _ _ (put W1 (g + 2) q Y1 z1)
        obtain ⟨V1, hV1⟩ : ∃ W, W = put W1 (g + 2) q Y1 z1 := ⟨_, rfl⟩
        rw [← hV1]
        have hU1 := HT1.out
        rw [← HW1.out, ← hV1] at hU1
        obtain ⟨pa1, pb1, pc1, HU1⟩ : ∃ a b c, Hid (Three w V1 g s.data.toList a b c) := ⟨_, _, _, hU1⟩
        clear hcy1 hfy1 hcz1 HT1 HW1 hV1 ha1 hc1 hU1
        by_cases k2 : q < l2
        · obtain ⟨b2, o2, z2, rfl, hb2, hx2⟩ := H2.out q k2
          have ha2 : q < pb1.length := by rw [HU1.out.lb]; simpa using hlt
          have hc2 : q < pc1.length := by rw [HU1.out.lc]; simpa using hlt
          obtain ⟨X2, hX2, hcx2, hfx2⟩ := row_cell HU1.out.rb ha2
          obtain ⟨Y2, hY2, hcy2, hfy2⟩ := row_cell HU1.out.rc hc2
          have hcz2 := (HU1.out.below.cell (p := ⟨b2, o2 + q, none⟩) hb2).trans hx2
          have HT2 := Lib.hid (HU1.out.two HG.out ha2 hc2 hX2 hY2 z2)
          have hb2' := put_below (w := w) (wr := V1) (g := g + 1) (q := q) HU1.out.below (by rw [HG.out]; omega) X2 z2
          have hr2' := put_other (g := g + 1) (q := q) HU1.out.rc (by omega) X2 z2
          have hcy2' := (hr2'.2 q hc2).1
          have hfy2' := (hr2'.2 q hc2).2
          have hcz2' := (hb2'.cell (p := ⟨b2, o2 + q, none⟩) hb2).trans hx2
          rw [← hY2] at hcy2'
          obtain ⟨W2, hW2⟩ : ∃ W, W = put V1 (g + 1) q X2 z2 := ⟨_, rfl⟩
          rw [← hW2] at hcy2' hfy2' hcz2'
          have HW2 := Lib.hid hW2
          have Hx2 := Lib.hid (And.intro hcy2' (And.intro hfy2' hcz2'))
          clear hx2 hX2 hY2 hcy2 hfy2 hb2' hr2' hcy2' hfy2' hcz2' hW2
          go_wp2_with fail
          go_region
          change Exit.then _ _ _ _ (put V1 (g + 1) q X2 z2)
          rw [← HW2.out]
          clear hcx2 hfx2 hcz2
          obtain ⟨hcy2, hfy2, hcz2⟩ := Hx2.out
          clear Hx2
          go_wp2_with fail
          go_region
          first | change Exit.then _ _ _ _ (put W2 (g + 2) q Y2 z2) | change Exit.inBlock _ _ _ _ (put W2 (g + 2) q Y2 z2)
          obtain ⟨V2, hV2⟩ : ∃ W, W = put W2 (g + 2) q Y2 z2 := ⟨_, rfl⟩
          rw [← hV2]
          have hU2 := HT2.out
          rw [← HW2.out, ← hV2] at hU2
          obtain ⟨pa2, pb2, pc2, HU2⟩ : ∃ a b c, Hid (Three w V2 g s.data.toList a b c) := ⟨_, _, _, hU2⟩
          clear hcy2 hfy2 hcz2 HT2 HW2 hV2 ha2 hc2 hU2
          go_wp2_with fail
          go_roundw
          case rel => exact ⟨q + 1, _, _, _, by omega, by go_num, HU2⟩
          case measure => simp [intOf]; omega
        · go_wp2_with fail
          go_roundw
          case rel => exact ⟨q + 1, _, _, _, by omega, by go_num, HU1⟩
          case measure => simp [intOf]; omega
      · by_cases k2 : q < l2
        · obtain ⟨b2, o2, z2, rfl, hb2, hx2⟩ := H2.out q k2
          have ha2 : q < b.length := by rw [HTh.out.lb]; simpa using hlt
          have hc2 : q < c.length := by rw [HTh.out.lc]; simpa using hlt
          obtain ⟨X2, hX2, hcx2, hfx2⟩ := row_cell HTh.out.rb ha2
          obtain ⟨Y2, hY2, hcy2, hfy2⟩ := row_cell HTh.out.rc hc2
          have hcz2 := (HTh.out.below.cell (p := ⟨b2, o2 + q, none⟩) hb2).trans hx2
          have HT2 := Lib.hid (HTh.out.two HG.out ha2 hc2 hX2 hY2 z2)
          have hb2' := put_below (w := w) (wr := wr) (g := g + 1) (q := q) HTh.out.below (by rw [HG.out]; omega) X2 z2
          have hr2' := put_other (g := g + 1) (q := q) HTh.out.rc (by omega) X2 z2
          have hcy2' := (hr2'.2 q hc2).1
          have hfy2' := (hr2'.2 q hc2).2
          have hcz2' := (hb2'.cell (p := ⟨b2, o2 + q, none⟩) hb2).trans hx2
          rw [← hY2] at hcy2'
          obtain ⟨W2, hW2⟩ : ∃ W, W = put wr (g + 1) q X2 z2 := ⟨_, rfl⟩
          rw [← hW2] at hcy2' hfy2' hcz2'
          have HW2 := Lib.hid hW2
          have Hx2 := Lib.hid (And.intro hcy2' (And.intro hfy2' hcz2'))
          clear hx2 hX2 hY2 hcy2 hfy2 hb2' hr2' hcy2' hfy2' hcz2' hW2
          go_wp2_with fail
          go_region
          change Exit.then _ _ _ _ (put wr (g + 1) q X2 z2)
          rw [← HW2.out]
          clear hcx2 hfx2 hcz2
          obtain ⟨hcy2, hfy2, hcz2⟩ := Hx2.out
          clear Hx2
          go_wp2_with fail
          go_region
          first | change Exit.then _ _ _ _ (put W2 (g + 2) q Y2 z2) | change Exit.inBlock _ _ _ _ (put W2 (g + 2) q Y2 z2)
          obtain ⟨V2, hV2⟩ : ∃ W, W = put W2 (g + 2) q Y2 z2 := ⟨_, rfl⟩
          rw [← hV2]
          have hU2 := HT2.out
          rw [← HW2.out, ← hV2] at hU2
          obtain ⟨pa2, pb2, pc2, HU2⟩ : ∃ a b c, Hid (Three w V2 g s.data.toList a b c) := ⟨_, _, _, hU2⟩
          clear hcy2 hfy2 hcz2 HT2 HW2 hV2 ha2 hc2 hU2
          go_wp2_with fail
          go_roundw
          case rel => exact ⟨q + 1, _, _, _, by omega, by go_num, HU2⟩
          case measure => simp [intOf]; omega
        · go_wp2_with fail
          go_roundw
          case rel => exact ⟨q + 1, _, _, _, by omega, by go_num, HTh⟩
          case measure => simp [intOf]; omega
    · obtain ⟨Sa, hSa⟩ : ∃ S : ByteArray, S = ⟨a.toArray⟩ := ⟨_, rfl⟩
      obtain ⟨Sb, hSb⟩ : ∃ S : ByteArray, S = ⟨b.toArray⟩ := ⟨_, rfl⟩
      obtain ⟨Sc, hSc⟩ : ∃ S : ByteArray, S = ⟨c.toArray⟩ := ⟨_, rfl⟩
      have hba := fun n => (HTh.out.ra.drewN n).back s.size ca (by rw [HTh.out.la]; simp)
      have hbb := fun n => (HTh.out.rb.drewN n).back s.size cb (by rw [HTh.out.lb]; simp)
      have hbc := fun n => (HTh.out.rc.drewN n).back s.size cc (by rw [HTh.out.lc]; simp)
      rw [← hSa] at hba
      rw [← hSb] at hbb
      rw [← hSc] at hbc
      have hda : Sa.data.toList = a := by rw [hSa]
      have hdb : Sb.data.toList = b := by rw [hSb]
      have hdc : Sc.data.toList = c := by rw [hSc]
      have hM := mix HTh.out.la HTh.out.lb HTh.out.lc HTh.out.v
      rw [← hda, ← hdb, ← hdc] at hM
      have za : Sa.size ≤ maxLen := by rw [Lib.size_eq, hda, HTh.out.la, ← Lib.size_eq]; unfold maxLen; omega
      have zb : Sb.size ≤ maxLen := by rw [Lib.size_eq, hdb, HTh.out.lb, ← Lib.size_eq]; unfold maxLen; omega
      have zc : Sc.size ≤ maxLen := by rw [Lib.size_eq, hdc, HTh.out.lc, ← Lib.size_eq]; unfold maxLen; omega
      have zs : s.size ≤ maxLen := by unfold maxLen; omega
      obtain ⟨ns, hns⟩ : ∃ n, n = ofN s.data.toList := ⟨_, rfl⟩
      obtain ⟨na, hna⟩ : ∃ n, n = ofN Sa.data.toList := ⟨_, rfl⟩
      obtain ⟨nb, hnb⟩ : ∃ n, n = ofN Sb.data.toList := ⟨_, rfl⟩
      obtain ⟨nc, hnc⟩ : ∃ n, n = ofN Sc.data.toList := ⟨_, rfl⟩
      rw [← hns, ← hna, ← hnb, ← hnc] at hM
      have ht : (bits .xor .u32 (bits .xor .u32 (ns : Int) (na : Int)) (nb : Int) == (nc : Int)) = true := by
        have l1 : ns < 4294967296 := by rw [hns]; exact ofN_lt _
        have l2 : na < 4294967296 := by rw [hna]; exact ofN_lt _
        have l3 : nb < 4294967296 := by rw [hnb]; exact ofN_lt _
        rw [u32_xor_nat ns na l1 l2, u32_xor_nat _ nb (xor_lt l1 l2) l3, hM]
        simp
      have ks := fun n => (Of_at s zs (wr.drewN n) (by exact (hT.out.below HTh.out.below).drewN n) ns hns.symm).mono (fun _ _ h => (And.intro h.1 h.2.symm))
      have ka := fun n => (Of_at Sa za (wr.drewN n) (by exact (hT.out.below HTh.out.below).drewN n) na hna.symm).mono (fun _ _ h => (And.intro h.1 h.2.symm))
      have kb := fun n => (Of_at Sb zb (wr.drewN n) (by exact (hT.out.below HTh.out.below).drewN n) nb hnb.symm).mono (fun _ _ h => (And.intro h.1 h.2.symm))
      have kc := fun n => (Of_at Sc zc (wr.drewN n) (by exact (hT.out.below HTh.out.below).drewN n) nc hnc.symm).mono (fun _ _ h => (And.intro h.1 h.2.symm))
      have kw := fun n => (works_any (wr.drewN n) (by exact (hT.out.below HTh.out.below).drewN n)).mono (fun _ _ h => (And.intro h.1 h.2.symm))
      have KS := Lib.hid ks
      have KA := Lib.hid ka
      have KB := Lib.hid kb
      have KC := Lib.hid kc
      have KW := Lib.hid kw
      have HB := Lib.hid HTh.out.below
      clear hM hda hdb hdc hns hna hnb hnc hSa hSb hSc ks ka kb kc kw HTh za zb zc zs
      go_wp2_with fail
      go_quiet ((first | (go_at_call 8; exact Calls.quiet_of_same (KS.out _)) | (go_at_call 8; exact Calls.quiet_of_same (KA.out _)) | (go_at_call 8; exact Calls.quiet_of_same (KB.out _)) | (go_at_call 8; exact Calls.quiet_of_same (KC.out _)) | (go_at_call 7; exact Calls.quiet_of_same (KW.out _))))
      go_wp2_with fail
      go_ret
      exact ⟨rfl, HB.out.trans ⟨rfl, rfl, rfl, Nat.le_refl _, fun _ _ => rfl⟩⟩

theorem walk (s : ByteArray) (A1 : Option Addr) (l1 c1 : Nat) (Z1 : List Int) (A2 : Option Addr) (l2 c2 : Nat) (Z2 : List Int) (W : World) (hs : s.size ≤ maxLen) (v1 : SliceView W .u8 A1 l1 c1 Z1) (v2 : SliceView W .u8 A2 l2 c2 Z2) (hT : Tab W) :
    Calls Tryd.prog 6 #[.string s, .slice A1 l1 c1, .slice A2 l2 c2] W fun e w' => e = .returned (.bool true) ∧ Below W.heap.size W w' := by
  have k1 := v1.2.1
  have k2 := v1.2.2.1
  have k3 := v2.2.1
  have k4 := v2.2.2.1
  have HT := Lib.hid hT
  clear hT
  by_cases h : s.size ≤ 4096 ∧ l1 ≤ 4096 ∧ l2 ≤ 4096
  · exact walk_n s A1 l1 c1 A2 l2 c2 h.1 h.2.1 h.2.2 W HT (arg_of v1) (arg_of v2)
  · clear v1 v2
    unfold maxLen at hs k2 k4
    by_cases e1 : 4096 < s.size
    · clear h
      go_enter Tryd.func6, Tryd.ntmps6
      go_wp2_with (go_at_call 7; refine (works_any _ HT).mono ?_; rintro e w' ⟨rfl, rfl⟩)
      go_ret
      exact ⟨rfl, Below.refl _ _⟩
    by_cases e2 : 4096 < l1
    · clear h
      go_enter Tryd.func6, Tryd.ntmps6
      go_wp2_with (go_at_call 7; refine (works_any _ HT).mono ?_; rintro e w' ⟨rfl, rfl⟩)
      go_ret
      exact ⟨rfl, Below.refl _ _⟩
    have e3 : 4096 < l2 := by omega
    clear h
    go_enter Tryd.func6, Tryd.ntmps6
    go_wp2_with (go_at_call 7; refine (works_any _ HT).mono ?_; rintro e w' ⟨rfl, rfl⟩)
    go_ret
    exact ⟨rfl, Below.refl _ _⟩

end Go.Proofs.YtadikbbaliaofaaDoor.crcMixed
