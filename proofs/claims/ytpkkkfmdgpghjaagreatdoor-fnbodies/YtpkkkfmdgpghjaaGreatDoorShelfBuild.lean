/-
  WriteString and String of a strings.Builder at this program, off the library's contracts.
-/
import Derived.Test.YtpkkkfmdgpghjaaGreatDoorShelfJoin
import Derived.Shelf.Strings.BuilderF
namespace Go.Proofs.YtpkkkfmdgpghjaaGreatDoor
open Go.Shelf Go.RowKit
theorem Shelf.writeString (B b : Nat) (bs : List Value) (s : ByteArray) (w : World) (h : Lib.IsBuilderF 45 5 B b bs w) (hlen : bs.length + s.size ≤ 140737488355328) (hBw : B ≤ w.heap.size) :
    Calls Tryz.prog 18 #[.pointer (some ⟨b, 0, none⟩), .string s] w fun e w' => e = .returned (.tuple #[.int .i64 s.size, .nilIface]) ∧ (Lib.BuilderAtF 45 5 B b (.pointer (some ⟨b, 0, none⟩)) (bs ++ Lib.strCells s) w' ∧ Below B w w') :=
  Any.Builder_WriteString_f { Shelf.lays156 with } Shelf.Builder_Extra_156 B b bs s w h hlen hBw
theorem Shelf.builderString (B b : Nat) (l : List UInt8) (w : World) (h : Lib.IsBuilderF 45 5 B b (Lib.byteCells l) w) (hBw : B ≤ w.heap.size) :
    Calls Tryz.prog 20 #[.pointer (some ⟨b, 0, none⟩)] w fun e w' => e = .returned (.string ⟨l.toArray⟩) ∧ (Lib.IsBuilderF 45 5 B b (Lib.byteCells l) w' ∧ Below B w w') :=
  Any.Builder_String_any_f { Shelf.lays156 with } Shelf.Builder_Extra_156 B b l w h hBw
end Go.Proofs.YtpkkkfmdgpghjaaGreatDoor
