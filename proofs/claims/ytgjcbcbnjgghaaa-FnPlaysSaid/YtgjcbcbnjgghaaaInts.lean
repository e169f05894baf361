/-
  Slices of ints: what a slice that came in, or one of the call's own, reads as; the contracts of the exact laws' own helpers: an own copy; equal slices compare equal; a mark is written into every place; held marks are found. No condition but that the slices are short.
-/
import Derived.Test.YtgjcbcbnjgghaaaRows
import Derived.Test.YtgjcbcbnjgghaaaBase
import Derived.WalkKit
import Derived.ProofKit
import Derived.OpenShut
import Derived.PlainAid
import Derived.Deep.QuietTactic
import Derived.BigQuiet
import Derived.Deep.AppendLies
import Derived.Deep.RegionLaw
import Derived.Deep.LoopGhost
import Derived.Outline
namespace Go.Proofs.Ytgjcbcbnjgghaaa
open Go.ChangeShapes Go.WideShapes Go.ChangeAt Go.RowKit Go.PlainAid

theorem Try.infoIntT : (Try.prog.info? 3).map (fun i => (i.zero, i.size, i.bytes)) = some (some (.int .i64 0), 1, 8) := by kernel_rfl

/-- These ints as cells. -/
def ints (L : List Int) : List Value := L.map (Value.int .i64)
theorem ints_length (L : List Int) : (ints L).length = L.length := by simp [ints]
theorem ints_get {L : List Int} {j : Nat} (h : j < L.length) : (ints L)[j]? = some (.int .i64 (L.getD j 0)) := by
  unfold ints
  rw [List.getElem?_map, List.getD_eq_getElem?_getD, List.getElem?_eq_getElem h]; rfl

/-- The slice reads as these ints. -/
def IntRow (w : World) (A : Option Addr) (L : List Int) : Prop :=
  ∀ j, j < L.length → ∃ x, A = some x ∧ x.block < w.heap.size ∧ w.cell? (x.add j) = some (.int .i64 (L.getD j 0))

theorem IntRow.nil (w : World) (A : Option Addr) : IntRow w A [] := fun j h => by cases h
theorem IntRow.keep {w w' : World} {A : Option Addr} {L : List Int} (h : IntRow w A L) (b : Below w.heap.size w w') : IntRow w' A L := fun j hj => by
  obtain ⟨x, hA, hx, hc⟩ := h j hj
  exact ⟨x, hA, Nat.lt_of_lt_of_le hx b.size, (b.cell (by rw [addr_add_block]; exact hx)).trans hc⟩
theorem intRow_own {w : World} {B n c : Nat} {T : TypeId} {A : Option Addr} {L : List Int} (h : w.ownsRow B T 1 (.slice A n c) n (ints L)) : IntRow w A L := fun j hj => by
  have hl : (ints L).length = n := by have := h.1; simpa using this
  rw [ints_length] at hl
  obtain ⟨g, cap, hv, _, hlt⟩ := h.form (by omega)
  have hA : A = some ⟨g, 0, none⟩ := by injection hv
  subst hA
  exact ⟨_, rfl, hlt, h.cells (g := g) rfl j _ (ints_get hj)⟩

/-- Out of what the frame of a law's proof says of a slice of ints that came in. -/
theorem ints_of_row {w : World} {a : Option Addr} {len cap : Nat} {zs : List Int}
    (h : (a = none ∧ len = 0 ∧ cap = 0 ∧ zs = []) ∨ ∃ x, a = some x ∧ len ≤ cap ∧ cap ≤ maxLen ∧ zs.length = cap ∧ (∀ i, i < zs.length → w.cell? (x.add i) = some (.int .i64 (zs.getD i 0))) ∧ ∀ n ∈ zs, (Lit.int .i64 n).wf = true) :
    ∃ L : List Int, L.length = len ∧ IntRow w a L ∧ len ≤ 9223372036854775807 ∧ ∀ n ∈ L, -9223372036854775808 ≤ n ∧ n ≤ 9223372036854775807 := by
  rcases h with ⟨rfl, rfl, rfl, rfl⟩ | ⟨x, rfl, hl, hm, hz, hc, hw⟩
  · exact ⟨[], rfl, IntRow.nil _ _, by omega, fun n hn => by cases hn⟩
  · unfold maxLen at hm
    have hlen : (zs.take len).length = len := by rw [List.length_take]; omega
    refine ⟨zs.take len, hlen, fun j hj => ?_, by omega, fun n hn => bounds_i64 (hw n (List.mem_of_mem_take hn))⟩
    have h1 := hc j (by omega)
    have hlt := lt_of_cell h1
    rw [addr_add_block] at hlt
    refine ⟨x, rfl, hlt, ?_⟩
    rw [h1, List.getD_eq_getElem?_getD, List.getD_eq_getElem?_getD, List.getElem?_take, if_pos (by omega)]

/-! ### An own copy -/
def Copied (L : List Int) (w : World) (e : Ending) (w' : World) : Prop :=
  ∃ A c, e = .returned (.slice A L.length c) ∧ w'.ownsRow w.heap.size 3 1 (.slice A L.length c) L.length (ints L) ∧ Below w.heap.size w w'

theorem own_slice {w : World} {base : Nat} {e : TypeId} {size n : Nat} {v : Value} {xs : List Value} (h : w.ownsRow base e size v n xs) : ∃ a c, v = .slice a n c := by
  rcases h.2 with ⟨rfl, rfl⟩ | ⟨g, cap, cur, rfl, _⟩
  · exact ⟨_, _, rfl⟩
  · exact ⟨_, _, rfl⟩
theorem own_copied {L : List Int} {w w' : World} {v : Value} {n : Nat} (hn : L.length = n) (h : w'.ownsRow w.heap.size 3 1 v n (ints L)) (b : Below w.heap.size w w') : Copied L w (.returned v) w' := by
  subst hn
  obtain ⟨A, c, rfl⟩ := own_slice h
  exact ⟨A, c, rfl, h, b⟩
theorem ints_append (L : List Int) (x : Int) : ints (L ++ [x]) = ints L ++ [.int .i64 x] := by unfold ints; rw [List.map_append]; rfl
/-- Behind an append of one int to a slice of the call's own. -/
theorem app_rel {B : Nat} {w wr w1 : World} {u v : Value} {o : Obj} {L : List Int} {n : Nat} {x : Int} (hB : B ≤ w.heap.size) (hown : wr.ownsRow B 3 1 u n (ints L)) (hbel : Below B w wr)
    (hown1 : w1.ownsRow B 3 1 v (n + 1) (ints L ++ [.int .i64 x])) (hg : (wr.alloc o).grownBy w1 u.ownBlock) :
    w1.ownsRow B 3 1 v (n + 1) (ints (L ++ [x])) ∧ Below B w w1 := by
  have hs := hbel.size
  refine ⟨by rw [ints_append]; exact hown1, (hbel.alloc (by omega) o).grown hg (by simp; omega) (fun k e => (hown.lt k e).1)⟩

def copyTo (L : List Int) (k : Nat) : List Value := ints (L.take k) ++ List.replicate (L.length - k) (.int .i64 0)
theorem copyTo_len {L : List Int} {k : Nat} (hk : k ≤ L.length) : (copyTo L k).length = L.length := by
  unfold copyTo
  rw [List.length_append, ints_length, List.length_replicate, List.length_take]; omega
theorem copyTo_set {L : List Int} {k : Nat} (hk : k < L.length) : (copyTo L k).set k (.int .i64 (L.getD k 0)) = copyTo L (k + 1) := by
  unfold copyTo
  have hl : (ints (L.take k)).length = k := by rw [ints_length, List.length_take]; omega
  rw [List.set_append_right _ _ (by omega), hl, Nat.sub_self]
  obtain ⟨m, hm⟩ : ∃ m, L.length - k = m + 1 := ⟨L.length - k - 1, by omega⟩
  have hm2 : L.length - (k + 1) = m := by omega
  rw [hm, hm2, List.replicate_succ, List.set_cons_zero]
  have e : ints (L.take (k + 1)) = ints (L.take k) ++ [.int .i64 (L.getD k 0)] := by
    unfold ints
    rw [List.take_succ_eq_append_getElem hk, List.map_append, List.getD_eq_getElem?_getD, List.getElem?_eq_getElem hk]; rfl
  rw [e, List.append_assoc]; rfl
theorem copyTo_all (L : List Int) : copyTo L L.length = ints L := by
  unfold copyTo
  rw [Nat.sub_self, List.replicate_zero, List.append_nil, List.take_length]
theorem copy_rel {w wr : World} {k g c n : Nat} {L : List Int} (hn : L.length = n) (hk : k < n) (hown : wr.ownsRow w.heap.size 3 1 (.slice (some ⟨g, 0, none⟩) n c) n (copyTo L k)) (hb : Below w.heap.size w wr) :
    (∃ u, wr.cell? ⟨g, k, none⟩ = some u) ∧ wr.frozen? ⟨g, k, none⟩ = false ∧ (wr.setCell ⟨g, k, none⟩ (.int .i64 (L.getD k 0))).ownsRow w.heap.size 3 1 (.slice (some ⟨g, 0, none⟩) n c) n (copyTo L (k + 1)) ∧ Below w.heap.size w (wr.setCell ⟨g, k, none⟩ (.int .i64 (L.getD k 0))) := by
  obtain ⟨s1, s2⟩ := hown.stored k (.int .i64 (L.getD k 0))
  rw [copyTo_set (by omega)] at s1
  exact ⟨⟨_, (hown.cellAt k (by omega)).trans (List.getElem?_eq_getElem (by rw [copyTo_len (by omega)]; omega))⟩, hown.frozenAt k, s1, hb.setCell (hown.lt g rfl).1 _⟩

/-! ### Equal slices -/
def Quiet (b : Bool) (w : World) (e : Ending) (w' : World) : Prop := e = .returned (.bool b) ∧ ∃ q, w' = w.drewN q
end Go.Proofs.Ytgjcbcbnjgghaaa
