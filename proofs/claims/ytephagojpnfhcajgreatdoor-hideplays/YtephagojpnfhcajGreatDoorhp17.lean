/-
  What is told of a frame that is packed, and of bytes that are unpacked; texts of bytes.
-/
import Derived.Test.YtephagojpnfhcajGreatDoorhp08
import Derived.Test.YtephagojpnfhcajGreatDoorhp14
namespace Go.Proofs.YtephagojpnfhcajGreatDoor.Pck
end Go.Proofs.YtephagojpnfhcajGreatDoor.Pck
