/-
  What is told of a frame that is packed, and of bytes that are unpacked; texts of bytes.
-/
import Derived.Test.YtjojeifoddonnakGreatLc15
import Derived.Test.YtjojeifoddonnakGreatLc22
namespace Go.Proofs.YtjojeifoddonnakGreat.Pck
end Go.Proofs.YtjojeifoddonnakGreat.Pck
