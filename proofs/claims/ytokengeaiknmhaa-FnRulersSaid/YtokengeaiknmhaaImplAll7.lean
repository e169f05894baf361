/-
  The program's seven functions of chapter 7 answer as said.
-/
import Derived.Test.YtokengeaiknmhaaImpl7
import Derived.Test.YtokengeaiknmhaaImplLen
import Derived.Test.YtokengeaiknmhaaImplMirror
import Derived.Test.YtokengeaiknmhaaImplShort
namespace Go.Proofs.Ytokengeaiknmhaa
open Go.ChangeShapes Go.WideShapes Go.ChangeAt Go.RowKit Go.PlainAid

theorem impl7 : Impl7 where
  hR L A c v hm _ r := (implRuler_any A c _ L v rfl (by omega) r).mono fun _ _ h => ⟨h.1, by obtain ⟨q, rfl⟩ := h.2; exact below_drewN (Below.refl _ _) q⟩
  hL L A c v hm hc r := implLengths_any A c _ L v rfl (by omega) hc r
  hG L A c v hm hc r := implGolomb_any A c _ L v rfl (by omega) hc r
  hM L A c v hm hc r := implMeasures_any A c _ L v rfl (by omega) hc r
  hT L A c v hm _ r := implMirror_any A c _ L v rfl (by omega) r
  hS n v := implShortest_any n v
  hF m v := implFewest_any m v
end Go.Proofs.Ytokengeaiknmhaa
