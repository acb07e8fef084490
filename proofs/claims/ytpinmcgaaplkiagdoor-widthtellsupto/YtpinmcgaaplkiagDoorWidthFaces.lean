/-
  width.Put, Get, Octets, Bits: their contracts.
-/
import Derived.Test.YtpinmcgaaplkiagDoorWidthPut
import Derived.Test.YtpinmcgaaplkiagDoorWidthGet
import Derived.Test.YtpinmcgaaplkiagDoorWidthOctets
import Derived.Test.YtpinmcgaaplkiagDoorWidthBits
