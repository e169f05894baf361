/-
  A map from ints to ints that counts a list: what it reads as, and what one more makes of it. No program's walk.
-/
import Derived.Test.YtokengeaiknmhaaRuler
import Derived.Maps.OwnSet
namespace Go.Proofs.Ytokengeaiknmhaa
open Go.ChangeShapes Go.WideShapes Go.ChangeAt Go.RowKit Go.PlainAid Go.Maps

theorem Try.underlyingMap : Try.prog.underlying 37 = some (.map 3 3) := by kernel_rfl
theorem Try.underlyingNum : Try.prog.underlying 3 = some (.int .i64) := by kernel_rfl
theorem lawInt : Keyed Try.prog 3 := int_keyed Try.underlyingNum
theorem zeroInt (w : World) : (zeroValue 3).run Try.prog w = .ok (.int .i64 0) w := by kernel_rfl
theorem keyInt {z : Int} (h : -9223372036854775808 ≤ z ∧ z ≤ 9223372036854775807) : keyOf Try.prog 3 (.int .i64 z) = some (.int .i64 z) := keyOf_int_mk Try.underlyingNum (WalkArith.wf_i64 h)

/-- The map reads as how often each int is in C. -/
def Reads (D : DataW Unit) (C : List Int) : Prop :=
  Tidy D ∧ (∀ v : Int, D.atKey (.int .i64 v) (.lit (.int .i64 0)) = .lit (.int .i64 (C.count v : Nat))) ∧ (∀ v : Int, has D (.int .i64 v) = decide (v ∈ C)) ∧ size D = dist C
theorem reads_none : Reads (.map []) [] := ⟨tidy_empty, fun v => rfl, fun v => rfl, by rw [dist_nil]; rfl⟩
theorem isKey_int (v : Int) : WideAt.IsKeyLit (.int .i64 v) := by first | trivial | exact ⟨⟩ | simp [WideAt.IsKeyLit]
theorem reads_more {D : DataW Unit} {C : List Int} (h : Reads D C) {v : Int} (h0 : 0 ≤ v) (h1 : v ≤ 60) : Reads (D.put (.int .i64 v) (.lit (.int .i64 ((C.count v : Nat) + 1)))) (C ++ [v]) := by
  obtain ⟨h2, h3, h4, h5⟩ := h
  refine ⟨h2.put (isKey_int v) _, fun u => ?_, fun u => ?_, ?_⟩
  · by_cases e : u = v
    · subst e
      rw [atKey_put_same h2.isMap (isKey_int u), List.count_append, List.count_singleton_self]
      rfl
    · rw [atKey_put_other (fun g => e (by injection g)), h3 u, List.count_append, List.count_singleton, if_neg (by simp; exact fun g => e g.symm)]
      rfl
  · by_cases e : u = v
    · subst e
      rw [has_put_same h2.isMap (isKey_int u)]
      simp
    · rw [has_put_other (fun g => e (by injection g)), h4 u]
      simp [e]
  · rw [size_put h2, h4 v, h5, dist_snoc h0 h1]
    by_cases e : v ∈ C <;> simp [e]

theorem below_grown' {w w1 : World} (b : Below w.heap.size w w1) : w.grownBy w1 none := ⟨b.os, b.tape, b.output, b.size, fun i hi _ => b.block i hi⟩
/-- Block B is a map that counts C; beside it only new memory is written. -/
def MapSt (w wr : World) (B : Nat) (C : List Int) : Prop :=
  ∃ D : DataW Unit, wr.ownsMap Try.prog 3 (plainElem Try.prog 3) B C.length D ∧ Reads D C ∧ w.heap.size ≤ B ∧ Below w.heap.size w wr
theorem mapSt_made {w wr : World} (h : Below w.heap.size w wr) : MapSt w (wr.alloc (.map #[] 0)) wr.heap.size [] :=
  ⟨_, World.ownsMap_made _ _ _ _, reads_none, h.size, h.alloc h.size _⟩
theorem MapSt.bel {w wr : World} {B : Nat} {C : List Int} (h : MapSt w wr B C) : Below w.heap.size w wr := h.choose_spec.2.2.2
theorem MapSt.grown {w wr w' : World} {B : Nat} {C : List Int} (h : MapSt w wr B C) {row : Option Nat} (hg : wr.grownBy w' row) (hr : ∀ k, row = some k → w.heap.size ≤ k) (hne : some B ≠ row) : MapSt w w' B C := by
  obtain ⟨D, h1, h2, h3, h4⟩ := h
  exact ⟨D, h1.kept hg hne, h2, h3, h4.grown hg h4.size hr⟩
theorem MapSt.below {w wr w' : World} {B : Nat} {C : List Int} (h : MapSt w wr B C) (b : Below wr.heap.size wr w') : MapSt w w' B C :=
  h.grown (below_grown' b) (fun k e => by cases e) (by simp)
theorem MapSt.apart {w wr : World} {B b n s : Nat} {e : TypeId} {C : List Int} {v : Value} {xs : List Value} (h : MapSt w wr B C) (o : wr.ownsRow b e s v n xs) : some B ≠ v.ownBlock := by
  obtain ⟨D, ⟨es, clock, hb, -⟩, -⟩ := h
  rcases o.2 with ⟨rfl, -⟩ | ⟨g, cap, cur, rfl, -, hg, -⟩
  · intro e; cases e
  · intro e
    have e2 : B = g := by injection e
    subst e2
    rw [hb] at hg
    simp at hg

section
variable {w : World} {ops : Array Oper} {rest : List Oper} {o : Oper} {a : Act} {Q : Exit → Act → World → Prop} {w0 : World} {B : Nat} {C : List Int}
theorem wpList_look_counts (hg : o.guard = none) (m x : Operand) (t : TypeId) (hop : o.op = Op.lookup t m x false) (ht : t = 37) (hs : MapSt w0 w B C) (hm : a.eval m = .map (some B)) (v : Int) (hx : a.eval x = .int .i64 v) (hv : -9223372036854775808 ≤ v ∧ v ≤ 9223372036854775807)
    (hK : wpList Try.prog ops Q rest (a.put o.dst (.int .i64 (C.count v : Nat))) w) : wpList Try.prog ops Q (o :: rest) a w := by
  subst ht
  obtain ⟨D, hown, hR, -⟩ := hs
  refine wpList_lookup_own_int w hg m x _ hop 3 3 .i64 lawInt Try.underlyingMap Try.underlyingNum (zeroInt _) B _ D hm hown _ _ hx (keyInt hv) fun c hat _ => ?_
  rw [hR.2.1 v] at hat
  injection hat with hat
  injection hat with _ hat
  rw [← hat]
  exact hK
theorem wpList_count_more (hg : o.guard = none) (m x y : Operand) (t : TypeId) (hop : o.op = Op.mapUpdate t m x y) (ht : t = 37) (hs : MapSt w0 w B C) (hm : a.eval m = .map (some B)) (v : Int) (hx : a.eval x = .int .i64 v) (hv : 0 ≤ v ∧ v ≤ 60) (hy : a.eval y = .int .i64 ((C.count v : Nat) + 1)) (hC : C.length ≤ 1000000)
    (hK : ∀ w', MapSt w0 w' B (C ++ [v]) → wpList Try.prog ops Q rest (a.put o.dst undef) w') : wpList Try.prog ops Q (o :: rest) a w := by
  subst ht
  obtain ⟨D, hown, hR, hB, hb⟩ := hs
  have hc := List.count_le_length (a := v) (l := C)
  refine wpList_mapUpdate_own w hg m x y _ hop 3 3 lawInt Try.underlyingMap _ B _ D hm hown (by unfold maxLen; omega) _ _ _ hx hy (keyInt (by omega)) _ [] (plainElem_int Try.underlyingNum (WalkArith.wf_i64 (by omega))) fun w' h1 h2 => hK w' ⟨_, ?_, reads_more hR hv.1 hv.2, hB, hb.grown h2 hb.size (fun j hj => by cases hj; exact hB)⟩
  rw [List.length_append]
  exact h1
theorem wpList_len_counts (hg : o.guard = none) (m : Operand) (t : TypeId) (hop : o.op = Op.call { callee := Callee.builtin Builtin.len, args := #[m], argTypes := #[t] }) (ht : t = 37) (hs : MapSt w0 w B C) (hm : a.eval m = .map (some B))
    (hK : wpList Try.prog ops Q rest (a.put o.dst (.int .i64 (dist C))) w) : wpList Try.prog ops Q (o :: rest) a w := by
  subst ht
  obtain ⟨D, hown, hR, -⟩ := hs
  refine wpList_len_own w hg m _ hop 3 3 Try.underlyingMap _ B _ D hm hown ?_
  rw [hR.2.2.2]
  exact hK
/-- .. behind a guard that holds. -/
theorem wpList_len_counts' (hg : Region.wanted o (yielded ops a.tmps) = true) (m : Operand) (t : TypeId) (hop : o.op = Op.call { callee := Callee.builtin Builtin.len, args := #[m], argTypes := #[t] }) (ht : t = 37) (hs : MapSt w0 w B C) (hm : a.eval m = .map (some B))
    (hK : wpList Try.prog ops Q rest (a.put o.dst (.int .i64 (dist C))) w) : wpList Try.prog ops Q (o :: rest) a w := by
  subst ht
  obtain ⟨D, hown, hR, -⟩ := hs
  refine wpList_step fun K' hK' => ?_
  rw [if_pos hg]
  unfold Oper.wp
  simp [execOp, hop, resolve, invoke, builtin, hm, hown.len Try.underlyingMap o.type, Result.andThen]
  rw [hR.2.2.2]
  exact hK' _ _ hK
end

/-- The program's map of lengths; nil for no ruler. -/
def Counts (L : List Int) (w : World) (e : Ending) (w' : World) : Prop :=
  (rulB L = false ∧ e = .returned (.map none) ∧ Below w.heap.size w w') ∨ (rulB L = true ∧ ∃ B, e = .returned (.map (some B)) ∧ MapSt w w' B (lens L))
end Go.Proofs.Ytokengeaiknmhaa
