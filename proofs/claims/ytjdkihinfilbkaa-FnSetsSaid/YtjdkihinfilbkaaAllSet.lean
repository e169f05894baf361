/-
  The laws of chapter 5 and the program's contracts, together. No condition.
-/
import Derived.Test.YtjdkihinfilbkaaFinSet
import Derived.Test.YtjdkihinfilbkaaImplSet
