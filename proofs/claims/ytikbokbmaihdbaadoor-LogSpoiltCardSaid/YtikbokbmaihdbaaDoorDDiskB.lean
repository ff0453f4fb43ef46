/-
  Layer 7: the program's disk keeps what the laws' walks want of it.
-/
import Derived.Test.YtikbokbmaihdbaaDoorDCreate
import Derived.Test.YtikbokbmaihdbaaDoorDCrash
namespace Go.Proofs.YtikbokbmaihdbaaDoor
open Go.RowKit Go.Maps Go.Lib Go.ChangeShapes Go.WideShapes

theorem many_max {n : ByteArray} (h : n.size ≤ many) : n.size ≤ maxLen := by unfold many at h; unfold maxLen; omega
theorem errOf_find (σ : Dsk) (n : ByteArray) : ((match get σ.fs n with | some _ => 0 | none => 5 : Nat) : Int) = (errOf σ n : Nat) := rfl

theorem doorB : DoorB TheDisk where
  stays := by
    rintro O w w' g σ ⟨hi, hz, b, P, V, h, hl, hO⟩ hb
    exact ⟨hi, hz, b, P, V, (hb g ((hO g).2 (Or.inl rfl))).trans h, hl.kept (fun k hk => hb k ((hO k).2 (Or.inr hk))), hO⟩
  own := by
    rintro O w g σ ⟨hi, hz, b, P, V, h, hl, hO⟩ k hk
    rcases (hO k).1 hk with rfl | hk
    · exact h.lt
    · exact hl.lt hk
  inv := fun hd => hd.1
  new := fun room w hr => New_any room w hr
  create := fun n hd hn => create_any n hn hd
  append := fun n t hd hn ht => append_any n t hn ht hd
  sync := fun n hd hn => sync_any n hn hd
  cut := fun n k hd hn _ => cut_any n k hn hd
  spoil := fun n k y hd hn _ hy => spoil_any n k y hn hy hd
  fuse := fun k hd hk => fuse_any k hd hk
  crash := fun K l c ks hd hv hf _ => crash_any K l c ks hd hv hf
  read := by
    rintro O w g σ n ⟨hi, hz, b, P, V, h, hl, hO⟩ hn
    refine (read_any h hl n (many_max hn)).mono ?_
    rintro e w' ⟨rfl, rfl⟩
    exact ⟨rfl, Below.refl _ _⟩
  names := by
    rintro O w g σ ⟨hi, hz, b, P, V, h, hl, hO⟩
    exact names_any h hl hi.few
  loose := by
    rintro O w g σ n ⟨hi, hz, b, P, V, h, hl, hO⟩ hn
    refine (loose_any h hl n (many_max hn)).mono ?_
    rintro e w' ⟨rfl, rfl⟩
    exact ⟨rfl, Below.refl _ _⟩
  room := by
    rintro O w g σ ⟨hi, hz, b, P, V, h, hl, hO⟩
    exact room_any h hl hi.room hi.most

end Go.Proofs.YtikbokbmaihdbaaDoor
