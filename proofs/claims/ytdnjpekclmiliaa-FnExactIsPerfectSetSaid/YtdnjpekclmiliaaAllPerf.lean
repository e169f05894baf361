/-
  The exact laws of chapter 6 on sets and the program's contracts, together.
-/
import Derived.Test.YtdnjpekclmiliaaFinPerf
import Derived.Test.YtdnjpekclmiliaaImplPerf
