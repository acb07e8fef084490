/-
  What is told of a frame that is packed, and of bytes that are unpacked; texts of bytes.
-/
import Derived.Test.YtjojeifoddonnakGreatDoorLd22
import Derived.Test.YtjojeifoddonnakGreatDoorLd26
namespace Go.Proofs.YtjojeifoddonnakGreatDoor.Pck
end Go.Proofs.YtjojeifoddonnakGreatDoor.Pck
