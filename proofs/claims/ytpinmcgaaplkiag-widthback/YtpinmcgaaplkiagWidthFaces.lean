/-
  width.Put, Get, Octets, Bits: their contracts.
-/
import Derived.Test.YtpinmcgaaplkiagWidthPut
import Derived.Test.YtpinmcgaaplkiagWidthGet
import Derived.Test.YtpinmcgaaplkiagWidthOctets
import Derived.Test.YtpinmcgaaplkiagWidthBits
