/-
  The exact laws of chapter 7 and the program's contracts, together.
-/
import Derived.Test.YtokengeaiknmhaaFinRuler
import Derived.Test.YtokengeaiknmhaaImplAll7
