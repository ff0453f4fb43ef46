/-
  Layer 7: the program's disk keeps what the laws' walks want of it.
  Layer 8: what no log answers, and Open where there is no disk ('LShut').
  Layer 8: the program's disk and its log keep what the laws' walks want of them.
-/
import Derived.Test.YtikbokbmaihdbaaGreatDoorDCreate
import Derived.Test.YtikbokbmaihdbaaGreatDoorDCrash
import Derived.Test.YtikbokbmaihdbaaGreatDoorLMem
import Derived.Test.YtikbokbmaihdbaaGreatDoorLAppend
import Derived.Test.YtikbokbmaihdbaaGreatDoorLSync
namespace Go.Proofs.YtikbokbmaihdbaaGreatDoor
open Go.RowKit Go.Maps Go.Lib Go.ChangeShapes Go.WideShapes

theorem many_max {n : ByteArray} (h : n.size ≤ many) : n.size ≤ maxLen := by unfold many at h; unfold maxLen; omega
theorem errOf_find (σ : Dsk) (n : ByteArray) : ((match get σ.fs n with | some _ => 0 | none => 5 : Nat) : Int) = (errOf σ n : Nat) := rfl

theorem doorB : DoorB TheDisk where
  stays := by
    rintro O w w' g σ ⟨hi, hz, b, P, V, h, hl, hO⟩ hb
    exact ⟨hi, hz, b, P, V, (hb g ((hO g).2 (Or.inl rfl))).trans h, hl.kept (fun k hk => hb k ((hO k).2 (Or.inr hk))), hO⟩
  own := by
    rintro O w g σ ⟨hi, hz, b, P, V, h, hl, hO⟩ k hk
    rcases (hO k).1 hk with rfl | hk
    · exact h.lt
    · exact hl.lt hk
  inv := fun hd => hd.1
  new := fun room w hr => New_any room w hr
  create := fun n hd hn => create_any n hn hd
  append := fun n t hd hn ht => append_any n t hn ht hd
  sync := fun n hd hn => sync_any n hn hd
  cut := fun n k hd hn _ => cut_any n k hn hd
  spoil := fun n k y hd hn _ hy => spoil_any n k y hn hy hd
  fuse := fun k hd hk => fuse_any k hd hk
  crash := fun K l c ks hd hv hf _ => crash_any K l c ks hd hv hf
  read := by
    rintro O w g σ n ⟨hi, hz, b, P, V, h, hl, hO⟩ hn
    refine (read_any h hl n (many_max hn)).mono ?_
    rintro e w' ⟨rfl, rfl⟩
    exact ⟨rfl, Below.refl _ _⟩
  names := by
    rintro O w g σ ⟨hi, hz, b, P, V, h, hl, hO⟩
    exact names_any h hl hi.few
  loose := by
    rintro O w g σ n ⟨hi, hz, b, P, V, h, hl, hO⟩ hn
    refine (loose_any h hl n (many_max hn)).mono ?_
    rintro e w' ⟨rfl, rfl⟩
    exact ⟨rfl, Below.refl _ _⟩
  room := by
    rintro O w g σ ⟨hi, hz, b, P, V, h, hl, hO⟩
    exact room_any h hl hi.room hi.most

end Go.Proofs.YtikbokbmaihdbaaGreatDoor

namespace Go.Proofs.YtikbokbmaihdbaaGreatDoor
open Go.RowKit Go.ChangeShapes Go.WideShapes

theorem lshut : LShut where
  opens := by
    intro n w hn
    have KR := read_nil n w
    go_enter Tryz.func8, Tryz.ntmps8
    go_wp2_with fail
    refine KR.mono ?_
    rintro e w1 ⟨rfl, rfl⟩
    go_wp2_with fail
    go_ret3
    exact ⟨⟨none, 0, rfl⟩, Below.refl _ _⟩
  append := by
    intro A k c w hk
    go_enter Tryz.func10, Tryz.ntmps10
    go_wp2_with (go_at_call 35; refine (lready_nil _).mono ?_; rintro e w' ⟨rfl, rfl⟩)
    go_ret
    exact ⟨rfl, Below.refl _ _⟩
  sync := by
    intro w
    go_enter Tryz.func12, Tryz.ntmps12
    go_wp2_with (go_at_call 35; refine (lready_nil _).mono ?_; rintro e w' ⟨rfl, rfl⟩)
    go_ret
    exact ⟨rfl, Below.refl _ _⟩
  len := by
    intro w
    go_enter Tryz.func18, Tryz.ntmps18
    go_wp2_with (go_at_call 50; refine (lunmade_nil _).mono ?_; rintro e w' ⟨rfl, rfl⟩)
    go_ret
    exact ⟨rfl, Below.refl _ _⟩
  count := by
    intro w
    go_enter Tryz.func20, Tryz.ntmps20
    go_wp2_with (go_at_call 50; refine (lunmade_nil _).mono ?_; rintro e w' ⟨rfl, rfl⟩)
    go_ret
    exact ⟨rfl, Below.refl _ _⟩
  sure := by
    intro w
    go_enter Tryz.func21, Tryz.ntmps21
    go_wp2_with (go_at_call 50; refine (lunmade_nil _).mono ?_; rintro e w' ⟨rfl, rfl⟩)
    go_ret
    exact ⟨rfl, Below.refl _ _⟩

end Go.Proofs.YtikbokbmaihdbaaGreatDoor

namespace Go.Proofs.YtikbokbmaihdbaaGreatDoor
open Go.RowKit Go.ChangeShapes Go.WideShapes

theorem ldoor : LDoor TheDisk TheLog where
  stays := by
    rintro Q w w' x g n l ⟨hn, hs, hh, hQ⟩ hk
    exact ⟨hn, hs, (hk x ((hQ x).2 rfl)).trans hh, hQ⟩
  own := by
    rintro Q w x g n l ⟨hn, hs, hh, hQ⟩ k hk
    obtain rfl := (hQ k).1 hk
    exact hh.lt
  opens := fun n hd hr hn hT => lg_opens doorB n hd hr hn hT
  append := fun A c rs hd hl hx _ hT hst _ _ _ hf hlb => lg_append doorB A c rs hd hl hx hT hst hf hlb
  sync := fun hd hl hx => lg_sync doorB hd hl hx
  len := fun hl => llen_h hl.2.2.1
  count := fun hl => lcount_h hl.2.2.1
  sure := fun hl => lsure_h hl.2.2.1

end Go.Proofs.YtikbokbmaihdbaaGreatDoor
