/-
  Layer 8: the program's disk and its log keep what the laws' walks want of them.
-/
import Derived.Test.YtikbokbmaihdbaaDoorDDiskB
import Derived.Test.YtikbokbmaihdbaaDoorLAppend
import Derived.Test.YtikbokbmaihdbaaDoorLSync
import Derived.Test.YtikbokbmaihdbaaDoorLShut
namespace Go.Proofs.YtikbokbmaihdbaaDoor
open Go.RowKit Go.ChangeShapes Go.WideShapes

theorem ldoor : LDoor TheDisk TheLog where
  stays := by
    rintro Q w w' x g n l ⟨hn, hs, hh, hQ⟩ hk
    exact ⟨hn, hs, (hk x ((hQ x).2 rfl)).trans hh, hQ⟩
  own := by
    rintro Q w x g n l ⟨hn, hs, hh, hQ⟩ k hk
    obtain rfl := (hQ k).1 hk
    exact hh.lt
  opens := fun n hd hr hn hT => lg_opens doorB n hd hr hn hT
  append := fun A c rs hd hl hx _ hT hst _ _ _ hf hlb => lg_append doorB A c rs hd hl hx hT hst hf hlb
  sync := fun hd hl hx => lg_sync doorB hd hl hx
  len := fun hl => llen_h hl.2.2.1
  count := fun hl => lcount_h hl.2.2.1
  sure := fun hl => lsure_h hl.2.2.1

end Go.Proofs.YtikbokbmaihdbaaDoor
