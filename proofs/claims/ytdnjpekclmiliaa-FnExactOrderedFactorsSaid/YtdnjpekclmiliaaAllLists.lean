/-
  The exact laws of chapter 6 on lists of lists and the program's contracts, together.
-/
import Derived.Test.YtdnjpekclmiliaaFinLists
import Derived.Test.YtdnjpekclmiliaaImplPerf
