/-
  Package horn's three calls, by their contracts: what the statements' walks lean on.
-/
import Derived.Test.YtjmholfjnnhibafDoorHornSays
import Derived.Test.YtjmholfjnnhibafDoorHornMost
import Derived.Test.YtjmholfjnnhibafDoorHornEnc
import Derived.Test.YtjmholfjnnhibafDoorHornDec
