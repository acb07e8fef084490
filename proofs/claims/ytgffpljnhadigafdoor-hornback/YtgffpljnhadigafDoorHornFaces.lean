/-
  Package horn's three calls, by their contracts: what the statements' walks lean on.
-/
import Derived.Test.YtgffpljnhadigafDoorHornSays
import Derived.Test.YtgffpljnhadigafDoorHornMost
import Derived.Test.YtgffpljnhadigafDoorHornEnc
import Derived.Test.YtgffpljnhadigafDoorHornDec
