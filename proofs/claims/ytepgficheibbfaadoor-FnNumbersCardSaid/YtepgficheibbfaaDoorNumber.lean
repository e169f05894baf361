/-
  Contracts of the draws' functions in verifier/spec: a number picked out of a list of ints is an int; a drawn number is an int (64 bits). The cursor stands; beside it only new memory.
-/
import Derived.Test.YtepgficheibbfaaDoorBelow
namespace Go.Proofs.YtepgficheibbfaaDoor
open Go.ChangeShapes Go.WideShapes Go.ChangeAt Go.RowKit

def Fits (x : Int) : Prop := -9223372036854775808 ≤ x ∧ x ≤ 9223372036854775807
def IntRow (w : World) (g n : Nat) : Prop := ∀ j, j < n → ∃ z, w.cell? ⟨g, j, none⟩ = some (.int .i64 z) ∧ Fits z

def fitsB : Value → Bool
  | .int .i64 z => decide (-9223372036854775808 ≤ z) && decide (z ≤ 9223372036854775807)
  | _ => false
theorem fits_of : ∀ v : Value, fitsB v = true → ∃ z, v = .int .i64 z ∧ Fits z
  | .int .i64 z, h => by
    unfold fitsB at h
    rw [Bool.and_eq_true, decide_eq_true_eq, decide_eq_true_eq] at h
    exact ⟨z, rfl, h⟩
theorem intRow_new (w : World) (cs : Array Value) (t : TypeId) (n : Nat) (hn : n ≤ cs.size) (h : cs.toList.all fitsB = true) : IntRow (w.alloc (.cells cs t)) w.heap.size n := fun j hj => by
  have hb := heap_alloc_new w (.cells cs t)
  have hc := cell_of_row (w.alloc (.cells cs t)) w.heap.size j _ _ _ hb
  have hj' : j < cs.size := by omega
  rw [Array.getElem?_eq_getElem hj'] at hc
  obtain ⟨z, hz, hf⟩ := fits_of cs[j] (List.all_eq_true.1 h _ (by simp))
  exact ⟨z, by rw [hc, hz], hf⟩

theorem pickInt_any (g n c : Nat) (hn : 0 < n) (hn2 : n ≤ 256) (p len cap : Nat) (a : Option Addr) (w : World) (hg : g ≠ p) (hlt : g < w.heap.size) (hr : IntRow w g n) (C : Cur w p a len cap) :
    Calls Tryd.prog 35 #[.pointer (some ⟨p, 0, none⟩), .slice (some ⟨g, 0, none⟩) n c] w (Drawn Fits w p a len cap) := by
  have hn0 : (0 : Int) < n := by omega
  go_enter Tryd.func35, Tryd.ntmps35
  go_wp2_with fail
  refine (below_any n p len cap a _ C).mono ?_
  rintro e w1 ⟨x, ⟨-, hx⟩, rfl, C1, g1⟩
  obtain ⟨x0, x1⟩ := hx hn0
  obtain ⟨k, rfl⟩ := Int.eq_ofNat_of_zero_le x0
  clear hx
  obtain ⟨z, hz, hf⟩ := hr k (by omega)
  have hz1 : w1.cell? ⟨g, k, none⟩ = some (.int .i64 z) := (World.cell?_of_block (a := ⟨g, k, none⟩) (g1.block g hlt (fun e => hg (by injection e)))).trans hz
  clear hr hz
  go_wp2_with fail
  go_ret
  exact ⟨z, hf, rfl, C1, g1⟩

set_option maxRecDepth 10000 in
theorem number_any (p len cap : Nat) (a : Option Addr) (w : World) (C : Cur w p a len cap) :
    Calls Tryd.prog 28 #[.pointer (some ⟨p, 0, none⟩)] w (Drawn Fits w p a len cap) := by
  have hp := C.lt
  go_enter Tryd.func28, Tryd.ntmps28
  go_wp2_with fail
  refine (below_any 4 p len cap a _ C).mono ?_
  rintro e w1 ⟨x, ⟨-, hx⟩, rfl, C1, g1⟩
  clear hx
  by_cases h0 : x = 0
  · subst h0
    go_wp2_with fail
    refine (pickInt_any w1.heap.size 10 10 (by omega) (by omega) p len cap a _ (by have := C1.lt; omega) (by simp) (intRow_new w1 _ _ 10 (by decide) (by decide)) (C1.alloc _)).mono ?_
    rintro e w2 ⟨y, hf, rfl, C2, g2⟩
    go_wp2_with fail
    go_ret
    exact ⟨y, hf, rfl, C2, grown_trans g1 (grown_trans (World.grownBy_alloc w1 _ _) g2)⟩
  · by_cases h1 : x = 1
    · subst h1
      go_wp2_with fail
      refine (below_any _ p len cap a _ C1).mono ?_
      rintro e w2 ⟨y, ⟨-, hy⟩, rfl, C2, g2⟩
      go_wp2_with fail
      go_ret
      exact ⟨y, by have := hy (by omega); unfold Fits; omega, rfl, C2, grown_trans g1 g2⟩
    · go_wp2_with fail
      refine (below_any _ p len cap a _ C1).mono ?_
      rintro e w2 ⟨y, ⟨-, hy⟩, rfl, C2, g2⟩
      go_wp2_with fail
      go_ret
      exact ⟨y, by have := hy (by omega); unfold Fits; omega, rfl, C2, grown_trans g1 g2⟩
end Go.Proofs.YtepgficheibbfaaDoor
