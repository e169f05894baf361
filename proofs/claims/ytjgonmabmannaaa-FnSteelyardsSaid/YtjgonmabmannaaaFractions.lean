/-
  Slices of Fraction (2 ints an element): what one that came in, or one of the call's own, reads as; rows of them of the call's own. No program's walk.
-/
import Derived.Test.YtjgonmabmannaaaOwnMore
import Derived.Deep.Slices
namespace Go.Proofs.Ytjgonmabmannaaa
open Go.ChangeShapes Go.WideShapes Go.ChangeAt Go.RowKit Go.PlainAid

structure FractionT where
  top : Int
  bottom : Int
instance : Inhabited FractionT := ⟨⟨0, 0⟩⟩
abbrev fragg (h : FractionT) : Value := .agg #[.int .i64 h.top, .int .i64 h.bottom]
def frget (L : List FractionT) (j : Nat) : FractionT := L.getD j ⟨0, 0⟩
def frcells (L : List FractionT) : List Value := L.flatMap fun h => [.int .i64 h.top, .int .i64 h.bottom]
theorem frcells_cons (h : FractionT) (L : List FractionT) : frcells (h :: L) = .int .i64 h.top :: .int .i64 h.bottom :: frcells L := rfl
theorem frcells_app (L : List FractionT) (h : FractionT) : frcells (L ++ [h]) = frcells L ++ [.int .i64 h.top, .int .i64 h.bottom] := by
  unfold frcells
  rw [List.flatMap_append, List.flatMap_singleton]
theorem frcells_len : ∀ L : List FractionT, (frcells L).length = L.length * 2
  | [] => rfl
  | h :: L => by
    rw [frcells_cons, List.length_cons, List.length_cons, frcells_len L, List.length_cons]
    omega
theorem frcells_get : ∀ (L : List FractionT) (j : Nat), j < L.length → (frcells L)[j * 2]? = some (.int .i64 (frget L j).top) ∧ (frcells L)[j * 2 + 1]? = some (.int .i64 (frget L j).bottom)
  | [], j, h => by cases h
  | x :: L, 0, _ => ⟨rfl, rfl⟩
  | x :: L, j + 1, h => by
    have ih := frcells_get L j (by simpa using h)
    have e : (j + 1) * 2 = j * 2 + 1 + 1 := by omega
    have e2 : frget (x :: L) (j + 1) = frget L j := rfl
    rw [frcells_cons, e, e2]
    exact ⟨by rw [List.getElem?_cons_succ, List.getElem?_cons_succ]; exact ih.1, by rw [show j * 2 + 1 + 1 + 1 = j * 2 + 1 + 1 + 1 by omega, List.getElem?_cons_succ, List.getElem?_cons_succ]; exact ih.2⟩
theorem frcells_set0 : ∀ (L : List FractionT) (j : Nat) (z : Int), j < L.length → (frcells L).set (j * 2) (.int .i64 z) = frcells (L.set j { frget L j with top := z })
  | [], j, _, h => by cases h
  | x :: L, 0, z, _ => rfl
  | x :: L, j + 1, z, h => by
    have ih := frcells_set0 L j z (by simpa using h)
    have e : (j + 1) * 2 = j * 2 + 1 + 1 := by omega
    rw [frcells_cons, e, List.set_cons_succ, List.set_cons_succ, ih]; rfl
theorem frcells_set1 : ∀ (L : List FractionT) (j : Nat) (z : Int), j < L.length → (frcells L).set (j * 2 + 1) (.int .i64 z) = frcells (L.set j { frget L j with bottom := z })
  | [], j, _, h => by cases h
  | x :: L, 0, z, _ => rfl
  | x :: L, j + 1, z, h => by
    have ih := frcells_set1 L j z (by simpa using h)
    have e : (j + 1) * 2 + 1 = j * 2 + 1 + 1 + 1 := by omega
    rw [frcells_cons, e, List.set_cons_succ, List.set_cons_succ, ih]; rfl
theorem frcells_one (L : List FractionT) : ∀ u ∈ frcells L, u.oneCell' = true := fun u hu => by
  obtain ⟨z, -, h⟩ := List.mem_flatMap.1 hu
  simp only [List.mem_cons, List.not_mem_nil, or_false] at h
  rcases h with rfl | rfl <;> rfl
theorem frget_el {L : List FractionT} {j : Nat} (h : j < L.length) : frget L j = L[j] := by
  unfold frget
  rw [List.getD_eq_getElem?_getD, List.getElem?_eq_getElem h]; rfl
theorem frget_set {L : List FractionT} {j : Nat} (h : j < L.length) (x : FractionT) : frget (L.set j x) j = x := by
  unfold frget
  rw [List.getD_eq_getElem?_getD, List.getElem?_set_self h]; rfl
theorem frget_ne {L : List FractionT} {i j : Nat} (h : i ≠ j) (x : FractionT) : frget (L.set i x) j = frget L j := by
  unfold frget
  rw [List.getD_eq_getElem?_getD, List.getElem?_set_ne h, ← List.getD_eq_getElem?_getD]
theorem frget_app {L : List FractionT} {j : Nat} (h : j < L.length) (x : FractionT) : frget (L ++ [x]) j = frget L j := by
  unfold frget
  rw [List.getD_eq_getElem?_getD, List.getD_eq_getElem?_getD, List.getElem?_append_left h]
theorem frget_last (L : List FractionT) (x : FractionT) : frget (L ++ [x]) L.length = x := by
  unfold frget
  rw [List.getD_eq_getElem?_getD, List.getElem?_append_right (Nat.le_refl _), Nat.sub_self]; rfl
theorem frget_mem {L : List FractionT} {j : Nat} (h : j < L.length) : frget L j ∈ L := by
  rw [frget_el h]
  exact List.getElem_mem h

theorem fraddr_next (x : Addr) (i k : Nat) (hk : k ≠ 0) : (⟨(x.add i).block, (x.add i).off + k, none⟩ : Addr) = x.add (i + k) := by
  rw [← Go.Deep.add_add]
  have e : ∀ a : Addr, a.add k = ⟨a.block, a.off + k, none⟩ := fun a => if_neg hk
  rw [e]
/-- The slice reads as these. -/
def FractionRow (w : World) (A : Option Addr) (L : List FractionT) : Prop :=
  ∀ j, j < L.length → ∃ x, A = some x ∧ x.block < w.heap.size ∧ w.cell? (x.add (j * 2)) = some (.int .i64 (frget L j).top) ∧ w.cell? (x.add (j * 2 + 1)) = some (.int .i64 (frget L j).bottom)
/-- An element's cells, the further ones as a load of the whole element asks for them, too. -/
theorem FractionRow.at {w : World} {A : Option Addr} {L : List FractionT} (h : FractionRow w A L) {j : Nat} (hj : j < L.length) : ∃ x, A = some x ∧ x.block < w.heap.size ∧
    (w.cell? (x.add (j * 2)) = some (.int .i64 (frget L j).top) ∧ w.cell? (x.add (j * 2 + 1)) = some (.int .i64 (frget L j).bottom)) ∧ w.cell? ⟨(x.add (j * 2)).block, (x.add (j * 2)).off + 1, none⟩ = some (.int .i64 (frget L j).bottom) := by
  obtain ⟨x, hA, hx, c0, c1⟩ := h j hj
  exact ⟨x, hA, hx, ⟨c0, c1⟩, by rw [fraddr_next _ _ _ (by decide)]; exact c1⟩
theorem FractionRow.keep {w w' : World} {A : Option Addr} {L : List FractionT} (h : FractionRow w A L) (b : Below w.heap.size w w') : FractionRow w' A L := fun j hj => by
  obtain ⟨x, hA, hx, c0, c1⟩ := h j hj
  exact ⟨x, hA, Nat.lt_of_lt_of_le hx b.size, (b.cell (by rw [addr_add_block]; exact hx)).trans c0, (b.cell (by rw [addr_add_block]; exact hx)).trans c1⟩
theorem frRow_own {w : World} {B n c : Nat} {T : TypeId} {A : Option Addr} {L : List FractionT} (h : w.ownsRow B T 2 (.slice A n c) n (frcells L)) : FractionRow w A L := fun j hj => by
  have hl : L.length = n := by have := h.1; rw [frcells_len] at this; omega
  obtain ⟨g, cap, hv, _, hlt⟩ := h.form (by omega)
  have hA : A = some ⟨g, 0, none⟩ := by injection hv
  subst hA
  obtain ⟨c0, c1⟩ := frcells_get L j hj
  exact ⟨_, rfl, hlt, h.cells (g := g) rfl _ _ c0, h.cells (g := g) rfl _ _ c1⟩
theorem frRow_news {w : World} {A : Option Addr} {L : List FractionT} (r : FractionRow w A L) : ∀ ad, A = some ad → ∀ j u, (frcells L)[j]? = some u → w.cell? (ad.add j) = some u := fun ad he j u hu => by
  have hj : j < L.length * 2 := by
    have := (List.getElem?_eq_some_iff.1 hu).1
    rw [frcells_len] at this
    exact this
  obtain ⟨x, hx, -, c0, c1⟩ := r (j / 2) (by omega)
  rw [he] at hx
  injection hx with hx
  subst hx
  obtain ⟨g0, g1⟩ := frcells_get L (j / 2) (by omega)
  have hc : j % 2 = 0 ∨ j % 2 = 1 := by omega
  rcases hc with e | e
  · have e2 : j / 2 * 2 = j := by omega
    rw [e2] at c0 g0
    rw [c0, ← hu, g0]
  · have e2 : j / 2 * 2 + 1 = j := by omega
    rw [e2] at c1 g1
    rw [c1, ← hu, g1]
theorem frnil_cap {w : World} {B n c : Nat} {T : TypeId} {s : Nat} {A : Option Addr} {xs : List Value} (o : w.ownsRow B T s (.slice A n c) n xs) : A = none → n = 0 ∧ c = 0 := fun h => by
  rcases o.2 with ⟨e, h0⟩ | ⟨g, cap, cur, e, -⟩
  · injection e with _ _ e3
    exact ⟨h0, e3⟩
  · injection e with e1
    rw [h] at e1; cases e1

/-- A slice that came in, as what a frame says of it. -/
theorem frs_of_trod {H : Type} {enc : TypeId × Value → H} {P : Program} {w : World} {base : Nat} {held : Bool} {t e : TypeId} {f0 f1 : Field} {a : Option Addr} {len cap fuel : Nat} {x : DataW H × List MemPlace}
    (ht : P.underlying t = some (.slice e)) (he : P.underlying e = some (.struct #[f0, f1])) (ce : P.cellsOf e = 2) (o0 : f0.offset = 0) (k0 : P.cellsOf f0.type = 1) (i0 : P.underlying f0.type = some (.int .i64)) (o1 : f1.offset = 1) (k1 : P.cellsOf f1.type = 1) (i1 : P.underlying f1.type = some (.int .i64))
    (h : DataW.trod enc P w base (fun _ => true) held fuel t [.slice a len cap] = some x) :
    ∃ L : List FractionT, L.length = len ∧ FractionRow w a L ∧ len ≤ 9223372036854775807 ∧ ∀ n ∈ L, (-9223372036854775808 ≤ n.top ∧ n.top ≤ 9223372036854775807) ∧ (-9223372036854775808 ≤ n.bottom ∧ n.bottom ≤ 9223372036854775807) := by
  rcases Go.Deep.open_slice ht h with ⟨hcs, -⟩ | ⟨ad, l, c, mm, n, D, Pl, hcs, -, hl, hm, hmm, -, hx⟩
  · simp only [List.cons.injEq, Value.slice.injEq, and_true] at hcs
    obtain ⟨rfl, rfl, rfl⟩ := hcs
    exact ⟨[], rfl, (fun j h => by cases h), by omega, (fun n hn => by cases hn)⟩
  · simp only [List.cons.injEq, Value.slice.injEq, and_true] at hcs
    obtain ⟨rfl, rfl, rfl⟩ := hcs
    simp only [if_true] at hmm
    subst hmm
    unfold maxLen at hm
    have each : ∀ j, j < len → ∃ q : FractionT, w.cell? (ad.add (j * 2)) = some (.int .i64 q.top) ∧ w.cell? (ad.add (j * 2 + 1)) = some (.int .i64 q.bottom) ∧ (Lit.int .i64 q.top).wf = true ∧ (Lit.int .i64 q.bottom).wf = true := fun j hj => by
      obtain ⟨cs', h1, h2⟩ := hx j (by omega)
      rw [ce] at h1
      obtain ⟨_, hlen, hcell⟩ := World.cells?_some h1
      obtain ⟨xs, k, hk, hxy, _, hxl, hf⟩ := DataW.trod_struct he h2
      match xs, hxl, cs', hlen with
      | [z0, z1], _, [v0, v1], _ =>
        have g0 := hf 0 f0 rfl
        simp [o0, k0] at g0
        have c0 := hcell 0 (by omega)
        rw [Go.Deep.add_add] at c0
        obtain ⟨y0, e0, -, w0⟩ := DataW.trod_int i0 g0
        simp only [List.cons.injEq, and_true] at e0
        rw [e0] at c0
        have g1 := hf 1 f1 rfl
        simp [o1, k1] at g1
        have c1 := hcell 1 (by omega)
        rw [Go.Deep.add_add] at c1
        obtain ⟨y1, e1, -, w1⟩ := DataW.trod_int i1 g1
        simp only [List.cons.injEq, and_true] at e1
        rw [e1] at c1
        exact ⟨⟨y0, y1⟩, by simpa using c0, by simpa using c1, w0, w1⟩
    obtain ⟨q, hq⟩ := Go.Deep.choose_lt each
    have hg : ∀ j, j < len → frget ((List.range len).map q) j = q j := fun j hj => by
      unfold frget
      rw [List.getD_eq_getElem?_getD, List.getElem?_map, List.getElem?_range hj]; rfl
    refine ⟨(List.range len).map q, by simp, fun j hj => ?_, by omega, fun n hn => ?_⟩
    · have hj' : j < len := by simpa using hj
      obtain ⟨c0, c1, -, -⟩ := hq j hj'
      have hlt := lt_of_cell c0
      rw [addr_add_block] at hlt
      rw [hg j hj']
      exact ⟨ad, rfl, hlt, c0, c1⟩
    · obtain ⟨j, hj, rfl⟩ := List.mem_map.1 hn
      obtain ⟨-, -, w0, w1⟩ := hq j (List.mem_range.1 hj)
      exact ⟨bounds_i64 w0, bounds_i64 w1⟩

/-- A row of the call's own. -/
def frrow (v : Value) (L : List FractionT) : Rw := ⟨29, 2, v, L.length, frcells L⟩
def FractionCopied (L : List FractionT) (w : World) (e : Ending) (w' : World) : Prop :=
  ∃ A c, e = .returned (.slice A L.length c) ∧ w'.ownsRow w.heap.size 29 2 (.slice A L.length c) L.length (frcells L) ∧ Below w.heap.size w w'
theorem own_frcopied {L : List FractionT} {w w' : World} {v : Value} {n : Nat} (hn : L.length = n) (h : w'.ownsRow w.heap.size 29 2 v n (frcells L)) (b : Below w.heap.size w w') : FractionCopied L w (.returned v) w' := by
  subst hn
  obtain ⟨A, c, rfl⟩ := own_slice h
  exact ⟨A, c, rfl, h, b⟩
theorem frrow_copied {w wr : World} {v : Value} {L : List FractionT} {R : List Rw} (h : Own w wr (frrow v L :: R)) : FractionCopied L w (.returned v) wr := own_frcopied rfl h.hd h.bel
theorem frrow_reads {w wr : World} {v : Value} {A : Option Addr} {n c : Nat} {L : List FractionT} {R : List Rw} (h : Own w wr R) (hm : frrow v L ∈ R) (hv : v = .slice A n c) (hn : n = L.length) : FractionRow wr A L := by
  have o := h.own _ hm
  subst hv hn
  exact frRow_own o
theorem frrow_form {w wr : World} {v : Value} {L : List FractionT} {R : List Rw} (h : Own w wr (frrow v L :: R)) (h0 : 0 < L.length) : ∃ g c, v = .slice (some ⟨g, 0, .none⟩) L.length c := by
  obtain ⟨g, cap, hv, -, -⟩ := h.hd.form h0
  exact ⟨g, cap, hv⟩
theorem frrow_slice {w wr : World} {v : Value} {L : List FractionT} {R : List Rw} (h : Own w wr (frrow v L :: R)) : ∃ A c, v = .slice A L.length c := own_slice h.hd
theorem frrow_over {w wr w1 : World} {v : Value} {L M : List FractionT} {R : List Rw} (h : Own w wr (frrow v L :: R)) (hl : M.length = L.length) (o : w1.ownsRow w.heap.size 29 2 v L.length (frcells M)) (hg : wr.grownBy w1 v.ownBlock) : Own w w1 (frrow v M :: R) :=
  h.head (r' := frrow v M) hg (by show w1.ownsRow w.heap.size 29 2 v M.length (frcells M); rw [hl]; exact o) (.inl rfl)
theorem frrow_cell {w wr : World} {g c n j : Nat} {L : List FractionT} {R : List Rw} (h : Own w wr (frrow (.slice (some ⟨g, 0, .none⟩) n c) L :: R)) (hn : L.length = n) (hj : j < n) :
    wr.cell? ⟨g, j * 2, .none⟩ = some (.int .i64 (frget L j).top) ∧ wr.cell? ⟨g, j * 2 + 1, .none⟩ = some (.int .i64 (frget L j).bottom) := by
  subst hn
  have o : wr.ownsRow w.heap.size 29 2 (.slice (some ⟨g, 0, .none⟩) L.length c) L.length (frcells L) := h.hd
  obtain ⟨c0, c1⟩ := frcells_get L j hj
  exact ⟨(o.cellAt _ (by omega)).trans c0, (o.cellAt _ (by omega)).trans c1⟩
theorem frrow_free {w wr : World} {g c n : Nat} {L : List FractionT} {R : List Rw} (h : Own w wr (frrow (.slice (some ⟨g, 0, .none⟩) n c) L :: R)) (hn : L.length = n) (i : Nat) : wr.frozen? ⟨g, i, .none⟩ = false := by
  subst hn
  have o : wr.ownsRow w.heap.size 29 2 (.slice (some ⟨g, 0, .none⟩) L.length c) L.length (frcells L) := h.hd
  exact o.frozenAt i
theorem frrow_st0 {w wr : World} {g c n j : Nat} {L : List FractionT} {R : List Rw} (h : Own w wr (frrow (.slice (some ⟨g, 0, .none⟩) n c) L :: R)) (hn : L.length = n) (hj : j < n) (z : Int) :
    Own w (wr.setCell ⟨g, j * 2, .none⟩ (.int .i64 z)) (frrow (.slice (some ⟨g, 0, .none⟩) n c) (L.set j { frget L j with top := z }) :: R) := by
  subst hn
  have o : wr.ownsRow w.heap.size 29 2 (.slice (some ⟨g, 0, .none⟩) L.length c) L.length (frcells L) := h.hd
  obtain ⟨s1, s2⟩ := o.stored (j * 2) (.int .i64 z)
  rw [frcells_set0 L j z hj] at s1
  exact frrow_over h (by rw [List.length_set]) s1 (grown_setCell (World.grownBy.refl wr _) _ _)
theorem frrow_st1 {w wr : World} {g c n j : Nat} {L : List FractionT} {R : List Rw} (h : Own w wr (frrow (.slice (some ⟨g, 0, .none⟩) n c) L :: R)) (hn : L.length = n) (hj : j < n) (z : Int) :
    Own w (wr.setCell ⟨g, j * 2 + 1, .none⟩ (.int .i64 z)) (frrow (.slice (some ⟨g, 0, .none⟩) n c) (L.set j { frget L j with bottom := z }) :: R) := by
  subst hn
  have o : wr.ownsRow w.heap.size 29 2 (.slice (some ⟨g, 0, .none⟩) L.length c) L.length (frcells L) := h.hd
  obtain ⟨s1, s2⟩ := o.stored (j * 2 + 1) (.int .i64 z)
  rw [frcells_set1 L j z hj] at s1
  exact frrow_over h (by rw [List.length_set]) s1 (grown_setCell (World.grownBy.refl wr _) _ _)
/-- All fields are stored. -/
theorem frrow_put {w wr : World} {g c n j : Nat} {L : List FractionT} {R : List Rw} (h : Own w wr (frrow (.slice (some ⟨g, 0, .none⟩) n c) L :: R)) (hn : L.length = n) (hj : j < n) (x : FractionT) :
    Own w ((wr.setCell ⟨g, j * 2, .none⟩ (.int .i64 x.top)).setCell ⟨g, j * 2 + 1, .none⟩ (.int .i64 x.bottom)) (frrow (.slice (some ⟨g, 0, .none⟩) n c) (L.set j x) :: R) := by
  have O0 := frrow_st0 h (by exact hn) hj x.top
  have O1 := frrow_st1 O0 (by rw [List.length_set]; exact hn) hj x.bottom
  rw [frget_set (by omega), List.set_set] at O1
  exact O1
/-- Behind an append of one to the first row. -/
theorem frrow_app {w wr w1 : World} {u u' : Value} {P : List FractionT} {x : FractionT} {o : Obj} {R : List Rw} (h : Own w wr (frrow u P :: R))
    (hown1 : w1.ownsRow w.heap.size 29 2 u' (P.length + 1) (frcells P ++ [.int .i64 x.top, .int .i64 x.bottom])) (hg : (wr.alloc o).grownBy w1 u.ownBlock) (hb : u'.ownBlock = u.ownBlock ∨ u'.ownBlock = some (wr.alloc o).heap.size) : Own w w1 (frrow u' (P ++ [x]) :: R) := by
  have k := (h.keep ((Below.refl _ _).alloc (Nat.le_refl _) o)).head (r' := (⟨29, 2, u', P.length + 1, frcells P ++ [Value.int .i64 x.top, Value.int .i64 x.bottom]⟩ : Rw)) hg hown1 (hb.imp id fun h => ⟨_, h, Nat.le_refl _⟩)
  have e : (⟨29, 2, u', P.length + 1, frcells P ++ [.int .i64 x.top, .int .i64 x.bottom]⟩ : Rw) = frrow u' (P ++ [x]) := by
    unfold frrow
    rw [frcells_app, List.length_append]; rfl
  rw [e] at k
  exact k
theorem frrow_empty {w wr : World} {R : List Rw} (h : Own w wr R) : Own w (wr.alloc (.cells #[] 29)) (frrow (.slice (some ⟨wr.heap.size, 0, .none⟩) 0 0) [] :: R) :=
  h.add ((Below.refl _ _).alloc (Nat.le_refl _) _) (World.ownsRow_made wr #[] 0 (Nat.le_refl _) (by decide) rfl)
theorem frrow_nil {w wr : World} {R : List Rw} (h : Own w wr R) : Own w wr (frrow (.slice .none 0 0) [] :: R) :=
  h.add (Below.refl _ _) ⟨rfl, .inl ⟨rfl, rfl⟩⟩
theorem frrow_copy {w wr w1 : World} {R : List Rw} {L : List FractionT} {A : Option Addr} {c : Nat} (h : Own w wr R) (o : w1.ownsRow wr.heap.size 29 2 (.slice A L.length c) L.length (frcells L)) (b : Below wr.heap.size wr w1) : Own w w1 (frrow (.slice A L.length c) L :: R) := h.add b o
/-- Behind an append of a slice of them to an empty one that was just built. -/
theorem frrow_append {w wr w1 : World} {v' : Value} {L : List FractionT} {n : Nat} {R : List Rw} (h : Own w wr R) (hn : L.length = n)
    (o : w1.ownsRow wr.heap.size 29 2 v' (0 + n) ([] ++ frcells L)) (g : (wr.alloc (.cells #[] 29)).grownBy w1 (some wr.heap.size)) : Own w w1 (frrow v' L :: R) := by
  have b : Below wr.heap.size wr w1 := ((Below.refl wr.heap.size wr).alloc (Nat.le_refl _) _).grown g (by simp) (fun k e => by injection e with e; omega)
  rw [List.nil_append, Nat.zero_add] at o
  subst hn
  exact h.add b o
/-- A slice is answered, and a bool. -/
def GivesFractionB (X : List FractionT) (z : Bool) (w : World) (e : Ending) (w' : World) : Prop :=
  ∃ (A : Option Addr) (c : Nat), e = .returned (.tuple #[.slice A X.length c, .bool z]) ∧ Own w w' [frrow (.slice A X.length c) X]
theorem frrow_givesB {w w' : World} {u : Value} {X : List FractionT} (h : Own w w' [frrow u X]) (z : Bool) : GivesFractionB X z w (.returned (.tuple #[u, .bool z])) w' := by
  obtain ⟨A, c, hu⟩ := own_slice h.hd
  replace hu : u = .slice A X.length c := hu
  subst hu
  exact ⟨A, c, rfl, h⟩
end Go.Proofs.Ytjgonmabmannaaa
