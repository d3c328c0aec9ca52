/- Two contracts of the library, over lists of bytes. -/
import Derived.Test.YtepgoppgblfjbaaGreatDoorBlock
import Derived.Test.YtepgoppgblfjbaaGreatDoorShelf
namespace Go.Proofs.YtepgoppgblfjbaaGreatDoor
open Go.RowKit

theorem indexByte_any (set : List UInt8) (c : UInt8) (w : World) :
    Calls Tryz.prog 260 #[.string ⟨set.toArray⟩, .int .u8 (c.toNat : Int)] w fun e w' => e = .returned (.int .i64 (Lib.indexByte set c)) ∧ w' = w := by
  have h := Tryz.strings_IndexByte ⟨set.toArray⟩ (c.toNat : Int) w
  simpa using h

theorem cutPrefix_any (s p : List UInt8) (w : World) :
    Calls Tryz.prog 336 #[.string ⟨s.toArray⟩, .string ⟨p.toArray⟩] w fun e w' => e = .returned (.tuple #[.string ⟨(Lib.trimPrefix s p).toArray⟩, .bool (Lib.hasPrefix s p)]) ∧ w' = w :=
  Tryz.strings_CutPrefix ⟨s.toArray⟩ ⟨p.toArray⟩ w

end Go.Proofs.YtepgoppgblfjbaaGreatDoor
