/-
  Layer 7: the program's disk keeps what the laws' walks want of it.
-/
import Derived.Test.YtaiifelkbajaoaaDNone
import Derived.Test.YtaiifelkbajaoaaDCopy
import Derived.Test.YtaiifelkbajaoaaDCrash
namespace Go.Proofs.Ytaiifelkbajaoaa
open Go.RowKit Go.Maps Go.Lib Go.ChangeShapes Go.WideShapes

theorem many_max {n : ByteArray} (h : n.size ≤ many) : n.size ≤ maxLen := by unfold many at h; unfold maxLen; omega
theorem errOf_find (σ : Dsk) (n : ByteArray) : ((match get σ.fs n with | some _ => 0 | none => 5 : Nat) : Int) = (errOf σ n : Nat) := rfl

theorem door : Door TheDisk where
  stays := by
    rintro O w w' g σ ⟨hi, hz, b, P, V, h, hl, hO⟩ hb
    exact ⟨hi, hz, b, P, V, (hb g ((hO g).2 (Or.inl rfl))).trans h, hl.kept (fun k hk => hb k ((hO k).2 (Or.inr hk))), hO⟩
  own := by
    rintro O w g σ ⟨hi, hz, b, P, V, h, hl, hO⟩ k hk
    rcases (hO k).1 hk with rfl | hk
    · exact h.lt
    · exact hl.lt hk
  inv := fun hd => hd.1
  new := fun room w hr => New_any room w hr
  create := fun n hd hn => create_any n hn hd
  append := fun n t hd hn ht => append_any n t hn ht hd
  sync := fun n hd hn => sync_any n hn hd
  cut := fun n k hd hn _ => cut_any n k hn hd
  remove := fun n hd hn => remove_any n hn hd
  spoil := fun n k y hd hn _ hy => spoil_any n k y hn hy hd
  fuse := fun k hd hk => fuse_any k hd hk
  crash := fun K l c ks hd hv hf _ => crash_any K l c ks hd hv hf
  read := by
    rintro O w g σ n ⟨hi, hz, b, P, V, h, hl, hO⟩ hn
    refine (read_any h hl n (many_max hn)).mono ?_
    rintro e w' ⟨rfl, rfl⟩
    exact ⟨rfl, Below.refl _ _⟩
  names := by
    rintro O w g σ ⟨hi, hz, b, P, V, h, hl, hO⟩
    exact names_any h hl hi.few
  loose := by
    rintro O w g σ n ⟨hi, hz, b, P, V, h, hl, hO⟩ hn
    refine (loose_any h hl n (many_max hn)).mono ?_
    rintro e w' ⟨rfl, rfl⟩
    exact ⟨rfl, Below.refl _ _⟩
  room := by
    rintro O w g σ ⟨hi, hz, b, P, V, h, hl, hO⟩
    exact room_any h hl hi.room hi.most
  copy := fun hd => copy_any hd

theorem below_same {r v : Value} {w : World} {f : FuncId} {args : Array Value} (h : Calls Try.prog f args w fun e w' => e = .returned r ∧ w = w') (hv : r = v) : Calls Try.prog f args w fun e w' => e = .returned v ∧ Below w.heap.size w w' := by
  refine h.mono ?_
  rintro e w' ⟨rfl, rfl⟩
  exact ⟨by rw [hv], Below.refl _ _⟩
theorem shut : Shut where
  read := fun n w _ => below_same (read_nil n w) rfl
  create := fun n w _ => below_same (create_nil n w) rfl
  append := fun n t w _ _ => below_same (append_nil n t w) rfl
  sync := fun n w _ => below_same (sync_nil n w) rfl
  cut := fun n k w _ _ => below_same (cut_nil n k w) rfl
  remove := fun n w _ => below_same (remove_nil n w) rfl
  spoil := fun n k y w _ _ _ => below_same (spoil_nil n k y w) rfl
  names := fun w => names_nil w
  loose := fun n w _ => below_same (loose_nil n w) rfl
  room := fun w => below_same (room_nil w) rfl
  fuse := fun k w _ => below_same (fuse_nil k w) rfl
  crash := fun K l c w _ => below_same (crash_nil K l c w) rfl
  copy := fun w => below_same (copy_nil w) rfl

end Go.Proofs.Ytaiifelkbajaoaa
