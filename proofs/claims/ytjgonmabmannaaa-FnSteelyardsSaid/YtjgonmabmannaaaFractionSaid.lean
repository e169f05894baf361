/-
  The exact laws' helpers on slices of Fraction: equal slices compare equal; marks are written into every place; held marks are found. No condition but that the slices are short.
-/
import Derived.Test.YtjgonmabmannaaaFractions
import Derived.Laws.ResultCell
namespace Go.Proofs.Ytjgonmabmannaaa
open Go.ChangeShapes Go.WideShapes Go.ChangeAt Go.RowKit Go.PlainAid

theorem Try.infoFractionT : (Try.prog.info? 29).map (fun i => (i.zero, i.size, i.bytes)) = some (some (.agg #[.int .i64 0, .int .i64 0]), 2, 16) := by kernel_rfl
theorem frresults_one {fn : Func} {q : Tmp} {ty : TypeId} (h : fn.results = #[.cell q ty]) (tmps : Array Value) (P : Program) (w : World) :
    (results fn tmps).run P w = ((asAddr (tmps.getD q undef)).run P w).andThen fun a w₁ => (loadVar ty a).run P w₁ := by
  simp only [results, h]
  simp [Sem.run_bind, Result.andThen]
def frSays (w : World) (e : Ending) (w' : World) : Prop := e = .returned (.bool true) ∧ Below w.heap.size w w'

/-! ### Equal slices -/
theorem frundrew {w w' : World} (b : Below w.drew.heap.size w.drew w') : Below w.heap.size w w' := ⟨b.os, b.tape, b.output, b.size, b.block⟩
set_option maxHeartbeats 1000000 in
theorem eqFraction_any (y0 y1 : Int) (w : World) : Calls Try.prog 21 #[.agg #[.int .i64 y0, .int .i64 y1], .agg #[.int .i64 y0, .int .i64 y1]] w (frSays w) := by
  go_enter Try.func21, Try.ntmps21
  go_wp2_with fail
  go_ret
  refine ⟨rfl, ?_⟩
  repeat' (first | exact Below.refl _ _ | refine Below.setCell ?_ (by simp <;> omega) _ | refine Below.alloc ?_ (by simp <;> omega) _)
set_option maxHeartbeats 2000000 in
theorem eqFractions_same (A A' : Option Addr) (n c c' : Nat) (L : List FractionT) (w : World) (hn : L.length = n) (hm : n ≤ 1000000000) (h : FractionRow w A L) (h' : FractionRow w A' L) :
    Calls Try.prog 25 #[.slice A n c, .slice A' n c'] w (frSays w) := by
  go_enter Try.func25, Try.ntmps25
  go_wp2_with fail
  go_loopw [5] (fun i wr => ∃ k : Nat, k ≤ n ∧ i = .int .i64 k ∧ Below w.heap.size w wr) (fun i _ => n - (intOf i).toNat)
  case atStart => exact ⟨0, by omega, rfl, Below.refl _ _⟩
  case round =>
    obtain ⟨k, hk, rfl, b⟩ := hrel
    by_cases hlt : k < n
    · obtain ⟨x, rfl, hx, c0, c1⟩ := (h.keep b).at (j := k) (by omega)
      obtain ⟨y, rfl, hy, d0, d1⟩ := (h'.keep b).at (j := k) (by omega)
      replace c0 := c0.1
      replace d0 := d0.1
      clear h h'
      generalize frget L k = z at c0 d0 c1 d1
      have hT := fun W => eqFraction_any z.top z.bottom W
      go_wp2_with fail
      go_region_law (go_simp; go_at_call 21; refine (hT _).mono ?_; rintro e w1 ⟨rfl, b1⟩)
      all_goals
        have b2 := b.trans ((frundrew b1).mono b.size)
        clear c0 d0 c1 d1 hT b b1
        go_wp2_with fail
        go_roundw
        case rel => exact ⟨k + 1, by omega, by go_num, b2⟩
        case measure => simp [intOf]; omega
    · clear h h'
      go_wp2_with fail
      go_ret
      exact ⟨rfl, b⟩

/-! ### Marks -/
def frmk (s : Int) (j : Nat) : FractionT := ⟨s + 2 * (j : Nat), s + 2 * (j : Nat) + 1⟩
def frmarks (s : Int) (n : Nat) : List FractionT := (List.range n).map (frmk s)
theorem frmarks_length (s : Int) (n : Nat) : (frmarks s n).length = n := by simp [frmarks]
theorem frmarks_get {s : Int} {n j : Nat} (h : j < n) : frget (frmarks s n) j = frmk s j := by
  unfold frmarks frget
  rw [List.getD_eq_getElem?_getD, List.getElem?_map, List.getElem?_range h]; rfl
def frmarksTo (s : Int) (k : Nat) (L : List FractionT) : List FractionT := frmarks s k ++ L.drop k
theorem frmarksTo_len {s : Int} {k : Nat} {L : List FractionT} (h : k ≤ L.length) : (frmarksTo s k L).length = L.length := by
  unfold frmarksTo
  rw [List.length_append, frmarks_length, List.length_drop]; omega
theorem frmarksTo_zero (s : Int) (L : List FractionT) : frmarksTo s 0 L = L := by simp [frmarksTo, frmarks]
theorem frmarksTo_set {s : Int} {k : Nat} {L : List FractionT} (h : k < L.length) : (frmarksTo s k L).set k (frmk s k) = frmarksTo s (k + 1) L := by
  unfold frmarksTo
  rw [List.set_append_right _ _ (by rw [frmarks_length]; omega), frmarks_length, Nat.sub_self]
  have e : frmarks s (k + 1) = frmarks s k ++ [frmk s k] := by
    unfold frmarks
    rw [List.range_succ, List.map_append]; rfl
  rw [e, List.append_assoc]
  congr 1
  rw [List.drop_eq_getElem_cons h]
  rfl
theorem frmarksTo_all {s : Int} {n : Nat} {L : List FractionT} (h : L.length = n) : frmarksTo s n L = frmarks s n := by
  unfold frmarksTo
  rw [List.drop_of_length_le (by omega), List.append_nil]
def FractionMarked (w0 : World) (R : List Rw) (s : Int) (n : Nat) (v : Value) (e : Ending) (w' : World) : Prop := e = .returned (.int .i64 (s + 2 * (n : Nat))) ∧ Own w0 w' (frrow v (frmarks s n) :: R)
set_option maxHeartbeats 2000000 in
theorem markFraction_any (w0 : World) (R : List Rw) (s : Int) (n c : Nat) (A : Option Addr) (L : List FractionT) (w : World) (hn : L.length = n) (hm : n ≤ 1000000000) (hs0 : 0 ≤ s) (hs : s ≤ 1000000000) (h : Own w0 w (frrow (.slice A n c) L :: R)) :
    Calls Try.prog 26 #[.slice A n c, .int .i64 s] w (FractionMarked w0 R s n (.slice A n c)) := by
  have hni : (n : Int) ≤ 1000000000 := by omega
  clear hm
  go_enter Try.func26, Try.ntmps26
  go_wp2_with fail
  go_loopw [5, 1] (fun i u wr => ∃ k : Nat, k ≤ n ∧ i = .int .i64 k ∧ u = .int .i64 (s + 2 * (k : Nat)) ∧ Own w0 wr (frrow (.slice A n c) (frmarksTo s k L) :: R)) (fun i _ _ => n - (intOf i).toNat)
  case atStart => exact ⟨0, by omega, rfl, by simp, by rw [frmarksTo_zero]; exact h⟩
  case round =>
    clear h
    obtain ⟨k, hk, rfl, rfl, O⟩ := hrel
    by_cases hlt : k < n
    · have hl : (frmarksTo s k L).length = n := by rw [frmarksTo_len (by omega)]; exact hn
      obtain ⟨g, cc, hA⟩ := frrow_form O (by omega)
      injection hA with hA
      subst hA
      obtain ⟨p0, p1⟩ := frrow_cell O hl hlt
      have fr := frrow_free O hl
      have f0 := fr (k * 2)
      have f1 := fr (k * 2 + 1)
      have O2 := frrow_put O hl hlt (frmk s k)
      rw [frmarksTo_set (by omega)] at O2
      unfold frmk at O2
      dsimp only at O2
      clear hl O fr
      go_wp2_with fail
      go_roundw
      case rel => exact ⟨k + 1, by omega, by go_num, congrArg (Value.int .i64) (by omega), by simpa only [Int.add_assoc, Int.reduceAdd] using O2⟩
      case measure => simp [intOf]; omega
    · obtain rfl : k = n := by omega
      rw [frmarksTo_all hn] at O
      have hend : FractionMarked w0 R s k (.slice A k c) (.returned (.int .i64 (s + 2 * (k : Nat)))) wr := ⟨rfl, O⟩
      clear O
      go_wp2_with fail
      go_ret
      exact hend
set_option maxHeartbeats 2000000 in
theorem heldFraction_any (s : Int) (n c : Nat) (A : Option Addr) (w : World) (hm : n ≤ 1000000000) (hs0 : 0 ≤ s) (hs : s ≤ 1000000000) (h : FractionRow w A (frmarks s n)) :
    Calls Try.prog 27 #[.slice A n c, .int .i64 s] w fun e w' => e = .returned (.int .i64 (s + 2 * (n : Nat))) ∧ w = w' := by
  have hni : (n : Int) ≤ 1000000000 := by omega
  clear hm
  go_enter Try.func27, Try.ntmps27
  go_wp2_with fail
  go_loopw [5, 1] (fun i u wr => ∃ k : Nat, k ≤ n ∧ i = .int .i64 k ∧ u = .int .i64 (s + 2 * (k : Nat)) ∧ wr = w) (fun i _ _ => n - (intOf i).toNat)
  case atStart => exact ⟨0, by omega, rfl, by simp, rfl⟩
  case round =>
    obtain ⟨k, hk, rfl, rfl, rfl⟩ := hrel
    by_cases hlt : k < n
    · obtain ⟨x, rfl, -, c0, d1⟩ := h.at (j := k) (by rw [frmarks_length]; omega)
      replace c0 := c0.1
      rw [frmarks_get hlt] at c0 d1
      unfold frmk at c0 d1
      dsimp only at c0 d1
      clear h
      go_wp2_with fail
      go_roundw
      case rel => exact ⟨k + 1, by omega, by go_num, congrArg (Value.int .i64) (by omega), trivial⟩
      case measure => simp [intOf]; omega
    · obtain rfl : k = n := by omega
      clear h
      go_wp2_with fail
      go_ret
      exact ⟨rfl, rfl⟩
end Go.Proofs.Ytjgonmabmannaaa
