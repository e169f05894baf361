/-
  Slices of hangs (two ints an element): what one that came in, or one of the call's own, reads as; rows of them of the call's own. No program's walk.
-/
import Derived.Test.YtajndcggafjmeaaOwnMore
import Derived.Deep.SlicePairs
namespace Go.Proofs.Ytajndcggafjmeaa
open Go.ChangeShapes Go.WideShapes Go.ChangeAt Go.RowKit Go.PlainAid

/-- A hang: its place and its weight. -/
abbrev Hg := Int × Int
abbrev hagg (h : Hg) : Value := .agg #[.int .i64 h.1, .int .i64 h.2]
def hget (L : List Hg) (j : Nat) : Hg := L.getD j (0, 0)
/-- Hangs as cells. -/
def hcells (L : List Hg) : List Value := L.flatMap fun h => [.int .i64 h.1, .int .i64 h.2]
theorem hcells_cons (h : Hg) (L : List Hg) : hcells (h :: L) = .int .i64 h.1 :: .int .i64 h.2 :: hcells L := rfl
theorem hcells_app (L : List Hg) (h : Hg) : hcells (L ++ [h]) = hcells L ++ [.int .i64 h.1, .int .i64 h.2] := by
  unfold hcells
  rw [List.flatMap_append, List.flatMap_singleton]
theorem hcells_len : ∀ L : List Hg, (hcells L).length = L.length * 2
  | [] => rfl
  | h :: L => by
    rw [hcells_cons, List.length_cons, List.length_cons, hcells_len L, List.length_cons]
    omega
theorem hcells_get : ∀ (L : List Hg) (j : Nat), j < L.length → (hcells L)[j * 2]? = some (.int .i64 (hget L j).1) ∧ (hcells L)[j * 2 + 1]? = some (.int .i64 (hget L j).2)
  | [], j, h => by cases h
  | x :: L, 0, _ => ⟨rfl, rfl⟩
  | x :: L, j + 1, h => by
    have ih := hcells_get L j (by simpa using h)
    have e : (j + 1) * 2 = j * 2 + 1 + 1 := by omega
    have e2 : hget (x :: L) (j + 1) = hget L j := rfl
    rw [hcells_cons, e, e2]
    exact ⟨by rw [List.getElem?_cons_succ, List.getElem?_cons_succ]; exact ih.1, by rw [List.getElem?_cons_succ, List.getElem?_cons_succ]; exact ih.2⟩
theorem hcells_set0 : ∀ (L : List Hg) (j : Nat) (z : Int), j < L.length → (hcells L).set (j * 2) (.int .i64 z) = hcells (L.set j (z, (hget L j).2))
  | [], j, _, h => by cases h
  | x :: L, 0, z, _ => rfl
  | x :: L, j + 1, z, h => by
    have ih := hcells_set0 L j z (by simpa using h)
    have e : (j + 1) * 2 = j * 2 + 1 + 1 := by omega
    rw [hcells_cons, e, List.set_cons_succ, List.set_cons_succ, ih]; rfl
theorem hcells_set1 : ∀ (L : List Hg) (j : Nat) (z : Int), j < L.length → (hcells L).set (j * 2 + 1) (.int .i64 z) = hcells (L.set j ((hget L j).1, z))
  | [], j, _, h => by cases h
  | x :: L, 0, z, _ => rfl
  | x :: L, j + 1, z, h => by
    have ih := hcells_set1 L j z (by simpa using h)
    have e : (j + 1) * 2 + 1 = j * 2 + 1 + 1 + 1 := by omega
    rw [hcells_cons, e, List.set_cons_succ, List.set_cons_succ, ih]; rfl
theorem hcells_one (L : List Hg) : ∀ u ∈ hcells L, u.oneCell' = true := fun u hu => by
  obtain ⟨z, -, h⟩ := List.mem_flatMap.1 hu
  simp only [List.mem_cons, List.not_mem_nil, or_false] at h
  rcases h with rfl | rfl <;> rfl
theorem hget_set {L : List Hg} {j : Nat} (h : j < L.length) (x : Hg) : hget (L.set j x) j = x := by
  unfold hget
  rw [List.getD_eq_getElem?_getD, List.getElem?_set_self h]; rfl
theorem hget_ne {L : List Hg} {i j : Nat} (h : i ≠ j) (x : Hg) : hget (L.set i x) j = hget L j := by
  unfold hget
  rw [List.getD_eq_getElem?_getD, List.getElem?_set_ne h, ← List.getD_eq_getElem?_getD]
theorem hset_set {L : List Hg} {j : Nat} (h : j < L.length) (x y : Int) : (L.set j (x, (hget L j).2)).set j ((hget (L.set j (x, (hget L j).2)) j).1, y) = L.set j (x, y) := by
  rw [hget_set h, List.set_set]

/-- The slice reads as these hangs. -/
def HangRow (w : World) (A : Option Addr) (L : List Hg) : Prop :=
  ∀ j, j < L.length → ∃ x, A = some x ∧ x.block < w.heap.size ∧ w.cell? (x.add (j * 2)) = some (.int .i64 (hget L j).1) ∧ w.cell? (x.add (j * 2 + 1)) = some (.int .i64 (hget L j).2)
theorem addr_next (x : Addr) (i : Nat) : (⟨(x.add i).block, (x.add i).off + 1, none⟩ : Addr) = x.add (i + 1) := by
  rw [← Go.Deep.add_add]; rfl
/-- An element's two cells, the second as a load of the whole element asks for it. -/
theorem HangRow.at {w : World} {A : Option Addr} {L : List Hg} (h : HangRow w A L) {j : Nat} (hj : j < L.length) : ∃ x, A = some x ∧ x.block < w.heap.size ∧
    w.cell? (x.add (j * 2)) = some (.int .i64 (hget L j).1) ∧ w.cell? (x.add (j * 2 + 1)) = some (.int .i64 (hget L j).2) ∧ w.cell? ⟨(x.add (j * 2)).block, (x.add (j * 2)).off + 1, none⟩ = some (.int .i64 (hget L j).2) := by
  obtain ⟨x, hA, hx, hc, hd⟩ := h j hj
  exact ⟨x, hA, hx, hc, hd, by rw [addr_next]; exact hd⟩
theorem HangRow.nil (w : World) (A : Option Addr) : HangRow w A [] := fun j h => by cases h
theorem HangRow.keep {w w' : World} {A : Option Addr} {L : List Hg} (h : HangRow w A L) (b : Below w.heap.size w w') : HangRow w' A L := fun j hj => by
  obtain ⟨x, hA, hx, hc, hd⟩ := h j hj
  exact ⟨x, hA, Nat.lt_of_lt_of_le hx b.size, (b.cell (by rw [addr_add_block]; exact hx)).trans hc, (b.cell (by rw [addr_add_block]; exact hx)).trans hd⟩
theorem hangRow_own {w : World} {B n c : Nat} {T : TypeId} {A : Option Addr} {L : List Hg} (h : w.ownsRow B T 2 (.slice A n c) n (hcells L)) : HangRow w A L := fun j hj => by
  have hl : L.length = n := by have := h.1; rw [hcells_len] at this; omega
  obtain ⟨g, cap, hv, _, hlt⟩ := h.form (by omega)
  have hA : A = some ⟨g, 0, none⟩ := by injection hv
  subst hA
  obtain ⟨a, b⟩ := hcells_get L j hj
  exact ⟨_, rfl, hlt, h.cells (g := g) rfl _ _ a, h.cells (g := g) rfl _ _ b⟩

/-- A slice of hangs that came in, as what a frame says of it. -/
theorem hangs_of_trod {H : Type} {enc : TypeId × Value → H} {P : Program} {w : World} {base : Nat} {held : Bool} {t e : TypeId} {f0 f1 : Field} {a : Option Addr} {len cap fuel : Nat} {x : DataW H × List MemPlace}
    (ht : P.underlying t = some (.slice e)) (he : P.underlying e = some (.struct #[f0, f1])) (ce : P.cellsOf e = 2) (o0 : f0.offset = 0) (o1 : f1.offset = 1) (c0 : P.cellsOf f0.type = 1) (c1 : P.cellsOf f1.type = 1)
    (i0 : P.underlying f0.type = some (.int .i64)) (i1 : P.underlying f1.type = some (.int .i64))
    (h : DataW.trod enc P w base (fun _ => true) held fuel t [.slice a len cap] = some x) :
    ∃ L : List Hg, L.length = len ∧ HangRow w a L ∧ len ≤ 9223372036854775807 ∧ ∀ n ∈ L, (-9223372036854775808 ≤ n.1 ∧ n.1 ≤ 9223372036854775807) ∧ (-9223372036854775808 ≤ n.2 ∧ n.2 ≤ 9223372036854775807) := by
  rcases Go.Deep.open_slice_pairs ht he ce o0 o1 c0 c1 h with ⟨hcs, -⟩ | ⟨ad, l, c, m, n, V0, V1, D0, D1, P0, P1, hcs, -, hl, hm, hmm, -, hx⟩
  · simp only [List.cons.injEq, Value.slice.injEq, and_true] at hcs
    obtain ⟨rfl, rfl, rfl⟩ := hcs
    exact ⟨[], rfl, HangRow.nil _ _, by omega, fun n hn => by cases hn⟩
  · simp only [List.cons.injEq, Value.slice.injEq, and_true] at hcs
    obtain ⟨rfl, rfl, rfl⟩ := hcs
    simp only [if_true] at hmm
    subst hmm
    unfold maxLen at hm
    have each : ∀ j, j < len → ∃ q : Hg, w.cell? (ad.add (j * 2)) = some (.int .i64 q.1) ∧ w.cell? (ad.add (j * 2 + 1)) = some (.int .i64 q.2) ∧ (Lit.int .i64 q.1).wf = true ∧ (Lit.int .i64 q.2).wf = true := fun j hj => by
      obtain ⟨g0, g1, t0, t1⟩ := hx j (by omega)
      obtain ⟨y0, e0, -, w0⟩ := DataW.trod_int i0 t0
      obtain ⟨y1, e1, -, w1⟩ := DataW.trod_int i1 t1
      simp only [List.cons.injEq, and_true] at e0 e1
      rw [e0] at g0
      rw [e1] at g1
      exact ⟨(y0, y1), g0, g1, w0, w1⟩
    obtain ⟨q, hq⟩ := Go.Deep.choose_lt each
    have hg : ∀ j, j < len → hget ((List.range len).map q) j = q j := fun j hj => by
      unfold hget
      rw [List.getD_eq_getElem?_getD, List.getElem?_map, List.getElem?_range hj]; rfl
    refine ⟨(List.range len).map q, by simp, fun j hj => ?_, by omega, fun n hn => ?_⟩
    · have hj' : j < len := by simpa using hj
      obtain ⟨g0, g1, -, -⟩ := hq j hj'
      have hlt := lt_of_cell g0
      rw [addr_add_block] at hlt
      rw [hg j hj']
      exact ⟨ad, rfl, hlt, g0, g1⟩
    · obtain ⟨j, hj, rfl⟩ := List.mem_map.1 hn
      obtain ⟨-, -, w0, w1⟩ := hq j (List.mem_range.1 hj)
      exact ⟨bounds_i64 w0, bounds_i64 w1⟩

/-- A row of hangs of the call's own. -/
def hrow (v : Value) (L : List Hg) : Rw := ⟨34, 2, v, L.length, hcells L⟩
def HCopied (L : List Hg) (w : World) (e : Ending) (w' : World) : Prop :=
  ∃ A c, e = .returned (.slice A L.length c) ∧ w'.ownsRow w.heap.size 34 2 (.slice A L.length c) L.length (hcells L) ∧ Below w.heap.size w w'
theorem own_hcopied {L : List Hg} {w w' : World} {v : Value} {n : Nat} (hn : L.length = n) (h : w'.ownsRow w.heap.size 34 2 v n (hcells L)) (b : Below w.heap.size w w') : HCopied L w (.returned v) w' := by
  subst hn
  obtain ⟨A, c, rfl⟩ := own_slice h
  exact ⟨A, c, rfl, h, b⟩
theorem Own.hcopied {w wr : World} {v : Value} {L : List Hg} {R : List Rw} (h : Own w wr (hrow v L :: R)) : HCopied L w (.returned v) wr := own_hcopied rfl h.hd h.bel
theorem Own.hangs {w wr : World} {v : Value} {A : Option Addr} {n c : Nat} {L : List Hg} {R : List Rw} (h : Own w wr R) (hm : hrow v L ∈ R) (hv : v = .slice A n c) (hn : n = L.length) : HangRow wr A L := by
  have o := h.own _ hm
  subst hv hn
  exact hangRow_own o
theorem hrow_form {w wr : World} {v : Value} {L : List Hg} {R : List Rw} (h : Own w wr (hrow v L :: R)) (h0 : 0 < L.length) : ∃ g c, v = .slice (some ⟨g, 0, .none⟩) L.length c := by
  obtain ⟨g, cap, hv, -, -⟩ := h.hd.form h0
  exact ⟨g, cap, hv⟩
theorem hrow_slice {w wr : World} {v : Value} {L : List Hg} {R : List Rw} (h : Own w wr (hrow v L :: R)) : ∃ A c, v = .slice A L.length c := own_slice h.hd
/-- Hangs are written over the first row. -/
theorem Own.hover {w wr w1 : World} {v : Value} {L M : List Hg} {R : List Rw} (h : Own w wr (hrow v L :: R)) (hl : M.length = L.length) (o : w1.ownsRow w.heap.size 34 2 v L.length (hcells M)) (hg : wr.grownBy w1 v.ownBlock) : Own w w1 (hrow v M :: R) :=
  h.head (r' := hrow v M) hg (by show w1.ownsRow w.heap.size 34 2 v M.length (hcells M); rw [hl]; exact o) (.inl rfl)
theorem Own.hcell {w wr : World} {g c n j : Nat} {L : List Hg} {R : List Rw} (h : Own w wr (hrow (.slice (some ⟨g, 0, .none⟩) n c) L :: R)) (hn : L.length = n) (hj : j < n) :
    wr.cell? ⟨g, j * 2, .none⟩ = some (.int .i64 (hget L j).1) ∧ wr.cell? ⟨g, j * 2 + 1, .none⟩ = some (.int .i64 (hget L j).2) := by
  subst hn
  have o : wr.ownsRow w.heap.size 34 2 (.slice (some ⟨g, 0, .none⟩) L.length c) L.length (hcells L) := h.hd
  obtain ⟨a, b⟩ := hcells_get L j hj
  exact ⟨(o.cellAt _ (by omega)).trans a, (o.cellAt _ (by omega)).trans b⟩
/-- A place, a weight is stored. -/
theorem Own.hstore0 {w wr : World} {g c n j : Nat} {L : List Hg} {R : List Rw} (h : Own w wr (hrow (.slice (some ⟨g, 0, .none⟩) n c) L :: R)) (hn : L.length = n) (hj : j < n) (z : Int) :
    wr.frozen? ⟨g, j * 2, .none⟩ = false ∧ Own w (wr.setCell ⟨g, j * 2, .none⟩ (.int .i64 z)) (hrow (.slice (some ⟨g, 0, .none⟩) n c) (L.set j (z, (hget L j).2)) :: R) := by
  subst hn
  have o : wr.ownsRow w.heap.size 34 2 (.slice (some ⟨g, 0, .none⟩) L.length c) L.length (hcells L) := h.hd
  obtain ⟨s1, s2⟩ := o.stored (j * 2) (.int .i64 z)
  rw [hcells_set0 L j z hj] at s1
  exact ⟨o.frozenAt _, h.hover (by rw [List.length_set]) s1 (grown_setCell (World.grownBy.refl wr _) _ _)⟩
theorem Own.hstore1 {w wr : World} {g c n j : Nat} {L : List Hg} {R : List Rw} (h : Own w wr (hrow (.slice (some ⟨g, 0, .none⟩) n c) L :: R)) (hn : L.length = n) (hj : j < n) (z : Int) :
    wr.frozen? ⟨g, j * 2 + 1, .none⟩ = false ∧ Own w (wr.setCell ⟨g, j * 2 + 1, .none⟩ (.int .i64 z)) (hrow (.slice (some ⟨g, 0, .none⟩) n c) (L.set j ((hget L j).1, z)) :: R) := by
  subst hn
  have o : wr.ownsRow w.heap.size 34 2 (.slice (some ⟨g, 0, .none⟩) L.length c) L.length (hcells L) := h.hd
  obtain ⟨s1, s2⟩ := o.stored (j * 2 + 1) (.int .i64 z)
  rw [hcells_set1 L j z hj] at s1
  exact ⟨o.frozenAt _, h.hover (by rw [List.length_set]) s1 (grown_setCell (World.grownBy.refl wr _) _ _)⟩
/-- Both are stored. -/
theorem Own.hput {w wr : World} {g c n j : Nat} {L : List Hg} {R : List Rw} (h : Own w wr (hrow (.slice (some ⟨g, 0, .none⟩) n c) L :: R)) (hn : L.length = n) (hj : j < n) (x y : Int) :
    wr.frozen? ⟨g, j * 2, .none⟩ = false ∧ wr.frozen? ⟨g, j * 2 + 1, .none⟩ = false ∧ Own w ((wr.setCell ⟨g, j * 2, .none⟩ (.int .i64 x)).setCell ⟨g, j * 2 + 1, .none⟩ (.int .i64 y)) (hrow (.slice (some ⟨g, 0, .none⟩) n c) (L.set j (x, y)) :: R) := by
  obtain ⟨f0, O1⟩ := h.hstore0 hn hj x
  obtain ⟨-, O2⟩ := O1.hstore1 (by rw [List.length_set]; exact hn) hj y
  rw [hset_set (by omega)] at O2
  exact ⟨f0, (h.hstore1 hn hj y).1, O2⟩
/-- Behind an append of a hang to the first row. -/
theorem Own.happ {w wr w1 : World} {u u' : Value} {P : List Hg} {x : Hg} {o : Obj} {R : List Rw} (h : Own w wr (hrow u P :: R))
    (hown1 : w1.ownsRow w.heap.size 34 2 u' (P.length + 1) (hcells P ++ [.int .i64 x.1, .int .i64 x.2])) (hg : (wr.alloc o).grownBy w1 u.ownBlock) (hb : u'.ownBlock = u.ownBlock ∨ u'.ownBlock = some (wr.alloc o).heap.size) : Own w w1 (hrow u' (P ++ [x]) :: R) := by
  have k := (h.keep ((Below.refl _ _).alloc (Nat.le_refl _) o)).head (r' := (⟨34, 2, u', P.length + 1, hcells P ++ [Value.int .i64 x.1, Value.int .i64 x.2]⟩ : Rw)) hg hown1 (hb.imp id fun h => ⟨_, h, Nat.le_refl _⟩)
  have e : (⟨34, 2, u', P.length + 1, hcells P ++ [.int .i64 x.1, .int .i64 x.2]⟩ : Rw) = hrow u' (P ++ [x]) := by
    unfold hrow
    rw [hcells_app, List.length_append]; rfl
  rw [e] at k
  exact k
/-- An empty row of hangs is built. -/
theorem Own.hempty {w wr : World} {R : List Rw} (h : Own w wr R) : Own w (wr.alloc (.cells #[] 34)) (hrow (.slice (some ⟨wr.heap.size, 0, .none⟩) 0 0) [] :: R) :=
  h.add ((Below.refl _ _).alloc (Nat.le_refl _) _) (World.ownsRow_made wr #[] 0 (Nat.le_refl _) (by decide) rfl)
/-- nil. -/
theorem Own.hnil {w wr : World} {R : List Rw} (h : Own w wr R) : Own w wr (hrow (.slice .none 0 0) [] :: R) :=
  h.add (Below.refl _ _) ⟨rfl, .inl ⟨rfl, rfl⟩⟩

/-- A slice of hangs is answered, and a bool. -/
def GivesHB (X : List Hg) (z : Bool) (w : World) (e : Ending) (w' : World) : Prop :=
  ∃ (A : Option Addr) (c : Nat), e = .returned (.tuple #[.slice A X.length c, .bool z]) ∧ Own w w' [hrow (.slice A X.length c) X]
theorem Own.givesHB {w w' : World} {u : Value} {X : List Hg} (h : Own w w' [hrow u X]) (z : Bool) : GivesHB X z w (.returned (.tuple #[u, .bool z])) w' := by
  obtain ⟨A, c, hu⟩ := own_slice h.hd
  replace hu : u = .slice A X.length c := hu
  subst hu
  exact ⟨A, c, rfl, h⟩
end Go.Proofs.Ytajndcggafjmeaa
