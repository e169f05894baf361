/-
  Contracts of the draws' own functions in verifier/spec: a byte of a draw is from 0 to 255; a number drawn below n is from 0 to n - 1, and 0 where n is not above 0; the cursor stands, nothing else is written.
-/
import Derived.Test.YtgjcbcbnjgghaaaRows
import Derived.Test.YtgjcbcbnjgghaaaCur
import Derived.WalkKit
import Derived.ProofKit
import Derived.OpenShut
import Derived.Deep.QuietTactic
import Derived.BigQuiet
import Derived.Outline
namespace Go.Proofs.Ytgjcbcbnjgghaaa
open Go.ChangeShapes Go.WideShapes Go.ChangeAt Go.RowKit

theorem byte_end (p len cap i : Nat) (a : Option Addr) (h : Int) (w : World)
    (c0 : w.cell? ⟨p, 0, none⟩ = some (.slice a len cap)) (c1 : w.cell? ⟨p, 1, none⟩ = some (.int .i64 i)) (c2 : w.cell? ⟨p, 2, none⟩ = some (.int .i64 h))
    (f2 : w.frozen? ⟨p, 2, none⟩ = false) (hi : len ≤ i) :
    Calls Try.prog 34 #[.pointer (some ⟨p, 0, none⟩)] w fun e w' => ∃ (g x : Int) (n : Nat), e = .returned (.int .i64 (bits .and .i64 x 255)) ∧ w' = (w.setCell ⟨p, 2, none⟩ (.int .i64 g)).drewN n := by
  go_enter Try.func34, Try.ntmps34
  go_wp2
  generalize wrap64 (wrap64 (h * 6364136223846793005) + 1442695040888963407) = g
  go_quiet (fail)
  go_wp2
  generalize bits BinOp.xor IntKind.i64 (g / 8589934592) (g / 35184372088832) = y
  go_quiet (fail)
  go_wp2
  go_ret
  exact ⟨g, y, _, rfl, World.drewN_drewN _ _ _⟩

theorem byte_more (p len cap i : Nat) (x : Addr) (z h : Int) (w : World)
    (c0 : w.cell? ⟨p, 0, none⟩ = some (.slice (some x) len cap)) (c1 : w.cell? ⟨p, 1, none⟩ = some (.int .i64 i)) (c2 : w.cell? ⟨p, 2, none⟩ = some (.int .i64 h))
    (f2 : w.frozen? ⟨p, 2, none⟩ = false) (f1 : w.frozen? ⟨p, 1, none⟩ = false) (hi : i < len) (hl : len ≤ 1048576)
    (hz : ∀ g : Int, (w.setCell ⟨p, 2, none⟩ (.int .i64 g)).cell? (x.add i) = some (.int .u8 z)) (h0 : 0 ≤ z) (h1 : z ≤ 255) :
    Calls Try.prog 34 #[.pointer (some ⟨p, 0, none⟩)] w fun e w' => ∃ (g x : Int) (n : Nat), e = .returned (.int .i64 (bits .and .i64 x 255)) ∧ w' = ((w.setCell ⟨p, 2, none⟩ (.int .i64 g)).drewN n).setCell ⟨p, 1, none⟩ (.int .i64 ((i : Int) + 1)) := by
  go_enter Try.func34, Try.ntmps34
  go_wp2
  generalize wrap64 (wrap64 (h * 6364136223846793005) + 1442695040888963407) = g
  replace hz := hz g
  go_quiet (fail)
  go_wp2
  generalize bits BinOp.xor IntKind.i64 (g / 8589934592) (g / 35184372088832) = y
  have m0 := mask255 y
  generalize bits BinOp.and IntKind.i64 y 255 = y1 at m0
  obtain ⟨m1, m2⟩ := m0
  go_quiet (fail)
  go_wp2
  go_quiet (fail)
  go_wp2
  go_ret
  exact ⟨g, y1 + z, _, rfl, rfl⟩

theorem byte_any (p len cap : Nat) (a : Option Addr) (w : World) (C : Cur w p a len cap) :
    Calls Try.prog 34 #[.pointer (some ⟨p, 0, none⟩)] w (Drawn (fun x => 0 ≤ x ∧ x ≤ 255) w p a len cap) := by
  obtain ⟨i, h, hi, hb⟩ := C.blk
  have c0 := cell_of_row w p 0 _ _ _ hb
  have c1 := cell_of_row w p 1 _ _ _ hb
  have c2 := cell_of_row w p 2 _ _ _ hb
  have f1 : w.frozen? ⟨p, 1, none⟩ = false := by simp [World.frozen?, hb]
  have f2 : w.frozen? ⟨p, 2, none⟩ = false := by simp [World.frozen?, hb]
  simp at c0 c1 c2
  have hl := C.hl
  have row := C.row
  have b2 : ∀ g : Int, (w.setCell ⟨p, 2, none⟩ (.int .i64 g)).heap[p]? = some (.cells #[.slice a len cap, .int .i64 i, .int .i64 g] 47 (0, 0)) := fun g => by
    simp [World.setCell, Array.getElem?_modify, hb]
  have g2 : ∀ g : Int, w.grownBy (w.setCell ⟨p, 2, none⟩ (.int .i64 g)) (some p) := fun g => grown_setCell (World.grownBy.refl w _) 2 _
  by_cases hlt : i < len
  · obtain ⟨x, z, rfl, hx, hc, h0, h1⟩ := row i hlt
    refine (byte_more p len cap i x z h w c0 c1 c2 f2 f1 hlt hl (fun g => ?_) h0 h1).mono ?_
    · rw [World.cell?_of_block (Below.heap_setCell w _ _ _ (by rw [addr_add_block]; show x.block ≠ p; omega))]; exact hc
    · rintro e w' ⟨g, y, n, rfl, rfl⟩
      have gg : w.grownBy (((w.setCell ⟨p, 2, none⟩ (.int .i64 g)).drewN n).setCell ⟨p, 1, none⟩ (.int .i64 ((i : Int) + 1))) (some p) := grown_setCell (grown_drewN (g2 g) n) 1 _
      refine ⟨_, mask255 _, rfl, ⟨hl, ⟨i + 1, g, by omega, ?_⟩, ?_⟩, gg⟩
      · have e : ((w.setCell ⟨p, 2, none⟩ (.int .i64 g)).drewN n).heap[p]? = _ := b2 g
        simp [World.setCell, Array.getElem?_modify, hb, World.drewN]
      · exact row.keep fun k hk => gg.block k (by have := C.lt; omega) (fun e => by injection e; omega)
  · refine (byte_end p len cap i a h w c0 c1 c2 f2 (by omega)).mono ?_
    rintro e w' ⟨g, y, n, rfl, rfl⟩
    have gg : w.grownBy ((w.setCell ⟨p, 2, none⟩ (.int .i64 g)).drewN n) (some p) := grown_drewN (g2 g) n
    exact ⟨_, mask255 _, rfl, ⟨hl, ⟨i, g, hi, b2 g⟩, row.keep fun k hk => gg.block k (by have := C.lt; omega) (fun e => by injection e; omega)⟩, gg⟩
end Go.Proofs.Ytgjcbcbnjgghaaa
