/-
  Slices of Part (5 ints an element): what one that came in, or one of the call's own, reads as; rows of them of the call's own. No program's walk.
-/
import Derived.Test.YthefcbninpkncaaOwnMore
import Derived.Deep.Slices
namespace Go.Proofs.Ythefcbninpkncaa
open Go.ChangeShapes Go.WideShapes Go.ChangeAt Go.RowKit Go.PlainAid

structure PartT where
  left : Int
  right : Int
  armLeft : Int
  armRight : Int
  weight : Int
instance : Inhabited PartT := ⟨⟨0, 0, 0, 0, 0⟩⟩
abbrev ptagg (h : PartT) : Value := .agg #[.int .i64 h.left, .int .i64 h.right, .int .i64 h.armLeft, .int .i64 h.armRight, .int .i64 h.weight]
def ptget (L : List PartT) (j : Nat) : PartT := L.getD j ⟨0, 0, 0, 0, 0⟩
def ptcells (L : List PartT) : List Value := L.flatMap fun h => [.int .i64 h.left, .int .i64 h.right, .int .i64 h.armLeft, .int .i64 h.armRight, .int .i64 h.weight]
theorem ptcells_cons (h : PartT) (L : List PartT) : ptcells (h :: L) = .int .i64 h.left :: .int .i64 h.right :: .int .i64 h.armLeft :: .int .i64 h.armRight :: .int .i64 h.weight :: ptcells L := rfl
theorem ptcells_app (L : List PartT) (h : PartT) : ptcells (L ++ [h]) = ptcells L ++ [.int .i64 h.left, .int .i64 h.right, .int .i64 h.armLeft, .int .i64 h.armRight, .int .i64 h.weight] := by
  unfold ptcells
  rw [List.flatMap_append, List.flatMap_singleton]
theorem ptcells_len : ∀ L : List PartT, (ptcells L).length = L.length * 5
  | [] => rfl
  | h :: L => by
    rw [ptcells_cons, List.length_cons, List.length_cons, List.length_cons, List.length_cons, List.length_cons, ptcells_len L, List.length_cons]
    omega
theorem ptcells_get : ∀ (L : List PartT) (j : Nat), j < L.length → (ptcells L)[j * 5]? = some (.int .i64 (ptget L j).left) ∧ (ptcells L)[j * 5 + 1]? = some (.int .i64 (ptget L j).right) ∧ (ptcells L)[j * 5 + 2]? = some (.int .i64 (ptget L j).armLeft) ∧ (ptcells L)[j * 5 + 3]? = some (.int .i64 (ptget L j).armRight) ∧ (ptcells L)[j * 5 + 4]? = some (.int .i64 (ptget L j).weight)
  | [], j, h => by cases h
  | x :: L, 0, _ => ⟨rfl, rfl, rfl, rfl, rfl⟩
  | x :: L, j + 1, h => by
    have ih := ptcells_get L j (by simpa using h)
    have e : (j + 1) * 5 = j * 5 + 1 + 1 + 1 + 1 + 1 := by omega
    have e2 : ptget (x :: L) (j + 1) = ptget L j := rfl
    rw [ptcells_cons, e, e2]
    exact ⟨by rw [List.getElem?_cons_succ, List.getElem?_cons_succ, List.getElem?_cons_succ, List.getElem?_cons_succ, List.getElem?_cons_succ]; exact ih.1, by rw [show j * 5 + 1 + 1 + 1 + 1 + 1 + 1 = j * 5 + 1 + 1 + 1 + 1 + 1 + 1 by omega, List.getElem?_cons_succ, List.getElem?_cons_succ, List.getElem?_cons_succ, List.getElem?_cons_succ, List.getElem?_cons_succ]; exact ih.2.1, by rw [show j * 5 + 1 + 1 + 1 + 1 + 1 + 2 = j * 5 + 2 + 1 + 1 + 1 + 1 + 1 by omega, List.getElem?_cons_succ, List.getElem?_cons_succ, List.getElem?_cons_succ, List.getElem?_cons_succ, List.getElem?_cons_succ]; exact ih.2.2.1, by rw [show j * 5 + 1 + 1 + 1 + 1 + 1 + 3 = j * 5 + 3 + 1 + 1 + 1 + 1 + 1 by omega, List.getElem?_cons_succ, List.getElem?_cons_succ, List.getElem?_cons_succ, List.getElem?_cons_succ, List.getElem?_cons_succ]; exact ih.2.2.2.1, by rw [show j * 5 + 1 + 1 + 1 + 1 + 1 + 4 = j * 5 + 4 + 1 + 1 + 1 + 1 + 1 by omega, List.getElem?_cons_succ, List.getElem?_cons_succ, List.getElem?_cons_succ, List.getElem?_cons_succ, List.getElem?_cons_succ]; exact ih.2.2.2.2⟩
theorem ptcells_set0 : ∀ (L : List PartT) (j : Nat) (z : Int), j < L.length → (ptcells L).set (j * 5) (.int .i64 z) = ptcells (L.set j { ptget L j with left := z })
  | [], j, _, h => by cases h
  | x :: L, 0, z, _ => rfl
  | x :: L, j + 1, z, h => by
    have ih := ptcells_set0 L j z (by simpa using h)
    have e : (j + 1) * 5 = j * 5 + 1 + 1 + 1 + 1 + 1 := by omega
    rw [ptcells_cons, e, List.set_cons_succ, List.set_cons_succ, List.set_cons_succ, List.set_cons_succ, List.set_cons_succ, ih]; rfl
theorem ptcells_set1 : ∀ (L : List PartT) (j : Nat) (z : Int), j < L.length → (ptcells L).set (j * 5 + 1) (.int .i64 z) = ptcells (L.set j { ptget L j with right := z })
  | [], j, _, h => by cases h
  | x :: L, 0, z, _ => rfl
  | x :: L, j + 1, z, h => by
    have ih := ptcells_set1 L j z (by simpa using h)
    have e : (j + 1) * 5 + 1 = j * 5 + 1 + 1 + 1 + 1 + 1 + 1 := by omega
    rw [ptcells_cons, e, List.set_cons_succ, List.set_cons_succ, List.set_cons_succ, List.set_cons_succ, List.set_cons_succ, ih]; rfl
theorem ptcells_set2 : ∀ (L : List PartT) (j : Nat) (z : Int), j < L.length → (ptcells L).set (j * 5 + 2) (.int .i64 z) = ptcells (L.set j { ptget L j with armLeft := z })
  | [], j, _, h => by cases h
  | x :: L, 0, z, _ => rfl
  | x :: L, j + 1, z, h => by
    have ih := ptcells_set2 L j z (by simpa using h)
    have e : (j + 1) * 5 + 2 = j * 5 + 2 + 1 + 1 + 1 + 1 + 1 := by omega
    rw [ptcells_cons, e, List.set_cons_succ, List.set_cons_succ, List.set_cons_succ, List.set_cons_succ, List.set_cons_succ, ih]; rfl
theorem ptcells_set3 : ∀ (L : List PartT) (j : Nat) (z : Int), j < L.length → (ptcells L).set (j * 5 + 3) (.int .i64 z) = ptcells (L.set j { ptget L j with armRight := z })
  | [], j, _, h => by cases h
  | x :: L, 0, z, _ => rfl
  | x :: L, j + 1, z, h => by
    have ih := ptcells_set3 L j z (by simpa using h)
    have e : (j + 1) * 5 + 3 = j * 5 + 3 + 1 + 1 + 1 + 1 + 1 := by omega
    rw [ptcells_cons, e, List.set_cons_succ, List.set_cons_succ, List.set_cons_succ, List.set_cons_succ, List.set_cons_succ, ih]; rfl
theorem ptcells_set4 : ∀ (L : List PartT) (j : Nat) (z : Int), j < L.length → (ptcells L).set (j * 5 + 4) (.int .i64 z) = ptcells (L.set j { ptget L j with weight := z })
  | [], j, _, h => by cases h
  | x :: L, 0, z, _ => rfl
  | x :: L, j + 1, z, h => by
    have ih := ptcells_set4 L j z (by simpa using h)
    have e : (j + 1) * 5 + 4 = j * 5 + 4 + 1 + 1 + 1 + 1 + 1 := by omega
    rw [ptcells_cons, e, List.set_cons_succ, List.set_cons_succ, List.set_cons_succ, List.set_cons_succ, List.set_cons_succ, ih]; rfl
theorem ptcells_one (L : List PartT) : ∀ u ∈ ptcells L, u.oneCell' = true := fun u hu => by
  obtain ⟨z, -, h⟩ := List.mem_flatMap.1 hu
  simp only [List.mem_cons, List.not_mem_nil, or_false] at h
  rcases h with rfl | rfl | rfl | rfl | rfl <;> rfl
theorem ptget_el {L : List PartT} {j : Nat} (h : j < L.length) : ptget L j = L[j] := by
  unfold ptget
  rw [List.getD_eq_getElem?_getD, List.getElem?_eq_getElem h]; rfl
theorem ptget_set {L : List PartT} {j : Nat} (h : j < L.length) (x : PartT) : ptget (L.set j x) j = x := by
  unfold ptget
  rw [List.getD_eq_getElem?_getD, List.getElem?_set_self h]; rfl
theorem ptget_ne {L : List PartT} {i j : Nat} (h : i ≠ j) (x : PartT) : ptget (L.set i x) j = ptget L j := by
  unfold ptget
  rw [List.getD_eq_getElem?_getD, List.getElem?_set_ne h, ← List.getD_eq_getElem?_getD]
theorem ptget_app {L : List PartT} {j : Nat} (h : j < L.length) (x : PartT) : ptget (L ++ [x]) j = ptget L j := by
  unfold ptget
  rw [List.getD_eq_getElem?_getD, List.getD_eq_getElem?_getD, List.getElem?_append_left h]
theorem ptget_last (L : List PartT) (x : PartT) : ptget (L ++ [x]) L.length = x := by
  unfold ptget
  rw [List.getD_eq_getElem?_getD, List.getElem?_append_right (Nat.le_refl _), Nat.sub_self]; rfl
theorem ptget_mem {L : List PartT} {j : Nat} (h : j < L.length) : ptget L j ∈ L := by
  rw [ptget_el h]
  exact List.getElem_mem h

theorem ptaddr_next (x : Addr) (i k : Nat) (hk : k ≠ 0) : (⟨(x.add i).block, (x.add i).off + k, none⟩ : Addr) = x.add (i + k) := by
  rw [← Go.Deep.add_add]
  have e : ∀ a : Addr, a.add k = ⟨a.block, a.off + k, none⟩ := fun a => if_neg hk
  rw [e]
/-- The slice reads as these. -/
def PartRow (w : World) (A : Option Addr) (L : List PartT) : Prop :=
  ∀ j, j < L.length → ∃ x, A = some x ∧ x.block < w.heap.size ∧ w.cell? (x.add (j * 5)) = some (.int .i64 (ptget L j).left) ∧ w.cell? (x.add (j * 5 + 1)) = some (.int .i64 (ptget L j).right) ∧ w.cell? (x.add (j * 5 + 2)) = some (.int .i64 (ptget L j).armLeft) ∧ w.cell? (x.add (j * 5 + 3)) = some (.int .i64 (ptget L j).armRight) ∧ w.cell? (x.add (j * 5 + 4)) = some (.int .i64 (ptget L j).weight)
/-- An element's cells, the further ones as a load of the whole element asks for them, too. -/
theorem PartRow.at {w : World} {A : Option Addr} {L : List PartT} (h : PartRow w A L) {j : Nat} (hj : j < L.length) : ∃ x, A = some x ∧ x.block < w.heap.size ∧
    (w.cell? (x.add (j * 5)) = some (.int .i64 (ptget L j).left) ∧ w.cell? (x.add (j * 5 + 1)) = some (.int .i64 (ptget L j).right) ∧ w.cell? (x.add (j * 5 + 2)) = some (.int .i64 (ptget L j).armLeft) ∧ w.cell? (x.add (j * 5 + 3)) = some (.int .i64 (ptget L j).armRight) ∧ w.cell? (x.add (j * 5 + 4)) = some (.int .i64 (ptget L j).weight)) ∧ w.cell? ⟨(x.add (j * 5)).block, (x.add (j * 5)).off + 1, none⟩ = some (.int .i64 (ptget L j).right) ∧ w.cell? ⟨(x.add (j * 5)).block, (x.add (j * 5)).off + 2, none⟩ = some (.int .i64 (ptget L j).armLeft) ∧ w.cell? ⟨(x.add (j * 5)).block, (x.add (j * 5)).off + 3, none⟩ = some (.int .i64 (ptget L j).armRight) ∧ w.cell? ⟨(x.add (j * 5)).block, (x.add (j * 5)).off + 4, none⟩ = some (.int .i64 (ptget L j).weight) := by
  obtain ⟨x, hA, hx, c0, c1, c2, c3, c4⟩ := h j hj
  exact ⟨x, hA, hx, ⟨c0, c1, c2, c3, c4⟩, by rw [ptaddr_next _ _ _ (by decide)]; exact c1, by rw [ptaddr_next _ _ _ (by decide)]; exact c2, by rw [ptaddr_next _ _ _ (by decide)]; exact c3, by rw [ptaddr_next _ _ _ (by decide)]; exact c4⟩
theorem PartRow.keep {w w' : World} {A : Option Addr} {L : List PartT} (h : PartRow w A L) (b : Below w.heap.size w w') : PartRow w' A L := fun j hj => by
  obtain ⟨x, hA, hx, c0, c1, c2, c3, c4⟩ := h j hj
  exact ⟨x, hA, Nat.lt_of_lt_of_le hx b.size, (b.cell (by rw [addr_add_block]; exact hx)).trans c0, (b.cell (by rw [addr_add_block]; exact hx)).trans c1, (b.cell (by rw [addr_add_block]; exact hx)).trans c2, (b.cell (by rw [addr_add_block]; exact hx)).trans c3, (b.cell (by rw [addr_add_block]; exact hx)).trans c4⟩
theorem ptRow_own {w : World} {B n c : Nat} {T : TypeId} {A : Option Addr} {L : List PartT} (h : w.ownsRow B T 5 (.slice A n c) n (ptcells L)) : PartRow w A L := fun j hj => by
  have hl : L.length = n := by have := h.1; rw [ptcells_len] at this; omega
  obtain ⟨g, cap, hv, _, hlt⟩ := h.form (by omega)
  have hA : A = some ⟨g, 0, none⟩ := by injection hv
  subst hA
  obtain ⟨c0, c1, c2, c3, c4⟩ := ptcells_get L j hj
  exact ⟨_, rfl, hlt, h.cells (g := g) rfl _ _ c0, h.cells (g := g) rfl _ _ c1, h.cells (g := g) rfl _ _ c2, h.cells (g := g) rfl _ _ c3, h.cells (g := g) rfl _ _ c4⟩
theorem ptRow_news {w : World} {A : Option Addr} {L : List PartT} (r : PartRow w A L) : ∀ ad, A = some ad → ∀ j u, (ptcells L)[j]? = some u → w.cell? (ad.add j) = some u := fun ad he j u hu => by
  have hj : j < L.length * 5 := by
    have := (List.getElem?_eq_some_iff.1 hu).1
    rw [ptcells_len] at this
    exact this
  obtain ⟨x, hx, -, c0, c1, c2, c3, c4⟩ := r (j / 5) (by omega)
  rw [he] at hx
  injection hx with hx
  subst hx
  obtain ⟨g0, g1, g2, g3, g4⟩ := ptcells_get L (j / 5) (by omega)
  have hc : j % 5 = 0 ∨ j % 5 = 1 ∨ j % 5 = 2 ∨ j % 5 = 3 ∨ j % 5 = 4 := by omega
  rcases hc with e | e | e | e | e
  · have e2 : j / 5 * 5 = j := by omega
    rw [e2] at c0 g0
    rw [c0, ← hu, g0]
  · have e2 : j / 5 * 5 + 1 = j := by omega
    rw [e2] at c1 g1
    rw [c1, ← hu, g1]
  · have e2 : j / 5 * 5 + 2 = j := by omega
    rw [e2] at c2 g2
    rw [c2, ← hu, g2]
  · have e2 : j / 5 * 5 + 3 = j := by omega
    rw [e2] at c3 g3
    rw [c3, ← hu, g3]
  · have e2 : j / 5 * 5 + 4 = j := by omega
    rw [e2] at c4 g4
    rw [c4, ← hu, g4]
theorem ptnil_cap {w : World} {B n c : Nat} {T : TypeId} {s : Nat} {A : Option Addr} {xs : List Value} (o : w.ownsRow B T s (.slice A n c) n xs) : A = none → n = 0 ∧ c = 0 := fun h => by
  rcases o.2 with ⟨e, h0⟩ | ⟨g, cap, cur, e, -⟩
  · injection e with _ _ e3
    exact ⟨h0, e3⟩
  · injection e with e1
    rw [h] at e1; cases e1

/-- A slice that came in, as what a frame says of it. -/
theorem pts_of_trod {H : Type} {enc : TypeId × Value → H} {P : Program} {w : World} {base : Nat} {held : Bool} {t e : TypeId} {f0 f1 f2 f3 f4 : Field} {a : Option Addr} {len cap fuel : Nat} {x : DataW H × List MemPlace}
    (ht : P.underlying t = some (.slice e)) (he : P.underlying e = some (.struct #[f0, f1, f2, f3, f4])) (ce : P.cellsOf e = 5) (o0 : f0.offset = 0) (k0 : P.cellsOf f0.type = 1) (i0 : P.underlying f0.type = some (.int .i64)) (o1 : f1.offset = 1) (k1 : P.cellsOf f1.type = 1) (i1 : P.underlying f1.type = some (.int .i64)) (o2 : f2.offset = 2) (k2 : P.cellsOf f2.type = 1) (i2 : P.underlying f2.type = some (.int .i64)) (o3 : f3.offset = 3) (k3 : P.cellsOf f3.type = 1) (i3 : P.underlying f3.type = some (.int .i64)) (o4 : f4.offset = 4) (k4 : P.cellsOf f4.type = 1) (i4 : P.underlying f4.type = some (.int .i64))
    (h : DataW.trod enc P w base (fun _ => true) held fuel t [.slice a len cap] = some x) :
    ∃ L : List PartT, L.length = len ∧ PartRow w a L ∧ len ≤ 9223372036854775807 ∧ ∀ n ∈ L, (-9223372036854775808 ≤ n.left ∧ n.left ≤ 9223372036854775807) ∧ (-9223372036854775808 ≤ n.right ∧ n.right ≤ 9223372036854775807) ∧ (-9223372036854775808 ≤ n.armLeft ∧ n.armLeft ≤ 9223372036854775807) ∧ (-9223372036854775808 ≤ n.armRight ∧ n.armRight ≤ 9223372036854775807) ∧ (-9223372036854775808 ≤ n.weight ∧ n.weight ≤ 9223372036854775807) := by
  rcases Go.Deep.open_slice ht h with ⟨hcs, -⟩ | ⟨ad, l, c, mm, n, D, Pl, hcs, -, hl, hm, hmm, -, hx⟩
  · simp only [List.cons.injEq, Value.slice.injEq, and_true] at hcs
    obtain ⟨rfl, rfl, rfl⟩ := hcs
    exact ⟨[], rfl, (fun j h => by cases h), by omega, (fun n hn => by cases hn)⟩
  · simp only [List.cons.injEq, Value.slice.injEq, and_true] at hcs
    obtain ⟨rfl, rfl, rfl⟩ := hcs
    simp only [if_true] at hmm
    subst hmm
    unfold maxLen at hm
    have each : ∀ j, j < len → ∃ q : PartT, w.cell? (ad.add (j * 5)) = some (.int .i64 q.left) ∧ w.cell? (ad.add (j * 5 + 1)) = some (.int .i64 q.right) ∧ w.cell? (ad.add (j * 5 + 2)) = some (.int .i64 q.armLeft) ∧ w.cell? (ad.add (j * 5 + 3)) = some (.int .i64 q.armRight) ∧ w.cell? (ad.add (j * 5 + 4)) = some (.int .i64 q.weight) ∧ (Lit.int .i64 q.left).wf = true ∧ (Lit.int .i64 q.right).wf = true ∧ (Lit.int .i64 q.armLeft).wf = true ∧ (Lit.int .i64 q.armRight).wf = true ∧ (Lit.int .i64 q.weight).wf = true := fun j hj => by
      obtain ⟨cs', h1, h2⟩ := hx j (by omega)
      rw [ce] at h1
      obtain ⟨_, hlen, hcell⟩ := World.cells?_some h1
      obtain ⟨xs, k, hk, hxy, _, hxl, hf⟩ := DataW.trod_struct he h2
      match xs, hxl, cs', hlen with
      | [z0, z1, z2, z3, z4], _, [v0, v1, v2, v3, v4], _ =>
        have g0 := hf 0 f0 rfl
        simp [o0, k0] at g0
        have c0 := hcell 0 (by omega)
        rw [Go.Deep.add_add] at c0
        obtain ⟨y0, e0, -, w0⟩ := DataW.trod_int i0 g0
        simp only [List.cons.injEq, and_true] at e0
        rw [e0] at c0
        have g1 := hf 1 f1 rfl
        simp [o1, k1] at g1
        have c1 := hcell 1 (by omega)
        rw [Go.Deep.add_add] at c1
        obtain ⟨y1, e1, -, w1⟩ := DataW.trod_int i1 g1
        simp only [List.cons.injEq, and_true] at e1
        rw [e1] at c1
        have g2 := hf 2 f2 rfl
        simp [o2, k2] at g2
        have c2 := hcell 2 (by omega)
        rw [Go.Deep.add_add] at c2
        obtain ⟨y2, e2, -, w2⟩ := DataW.trod_int i2 g2
        simp only [List.cons.injEq, and_true] at e2
        rw [e2] at c2
        have g3 := hf 3 f3 rfl
        simp [o3, k3] at g3
        have c3 := hcell 3 (by omega)
        rw [Go.Deep.add_add] at c3
        obtain ⟨y3, e3, -, w3⟩ := DataW.trod_int i3 g3
        simp only [List.cons.injEq, and_true] at e3
        rw [e3] at c3
        have g4 := hf 4 f4 rfl
        simp [o4, k4] at g4
        have c4 := hcell 4 (by omega)
        rw [Go.Deep.add_add] at c4
        obtain ⟨y4, e4, -, w4⟩ := DataW.trod_int i4 g4
        simp only [List.cons.injEq, and_true] at e4
        rw [e4] at c4
        exact ⟨⟨y0, y1, y2, y3, y4⟩, by simpa using c0, by simpa using c1, by simpa using c2, by simpa using c3, by simpa using c4, w0, w1, w2, w3, w4⟩
    obtain ⟨q, hq⟩ := Go.Deep.choose_lt each
    have hg : ∀ j, j < len → ptget ((List.range len).map q) j = q j := fun j hj => by
      unfold ptget
      rw [List.getD_eq_getElem?_getD, List.getElem?_map, List.getElem?_range hj]; rfl
    refine ⟨(List.range len).map q, by simp, fun j hj => ?_, by omega, fun n hn => ?_⟩
    · have hj' : j < len := by simpa using hj
      obtain ⟨c0, c1, c2, c3, c4, -, -, -, -, -⟩ := hq j hj'
      have hlt := lt_of_cell c0
      rw [addr_add_block] at hlt
      rw [hg j hj']
      exact ⟨ad, rfl, hlt, c0, c1, c2, c3, c4⟩
    · obtain ⟨j, hj, rfl⟩ := List.mem_map.1 hn
      obtain ⟨-, -, -, -, -, w0, w1, w2, w3, w4⟩ := hq j (List.mem_range.1 hj)
      exact ⟨bounds_i64 w0, bounds_i64 w1, bounds_i64 w2, bounds_i64 w3, bounds_i64 w4⟩

/-- A row of the call's own. -/
def ptrow (v : Value) (L : List PartT) : Rw := ⟨33, 5, v, L.length, ptcells L⟩
def PartCopied (L : List PartT) (w : World) (e : Ending) (w' : World) : Prop :=
  ∃ A c, e = .returned (.slice A L.length c) ∧ w'.ownsRow w.heap.size 33 5 (.slice A L.length c) L.length (ptcells L) ∧ Below w.heap.size w w'
theorem own_ptcopied {L : List PartT} {w w' : World} {v : Value} {n : Nat} (hn : L.length = n) (h : w'.ownsRow w.heap.size 33 5 v n (ptcells L)) (b : Below w.heap.size w w') : PartCopied L w (.returned v) w' := by
  subst hn
  obtain ⟨A, c, rfl⟩ := own_slice h
  exact ⟨A, c, rfl, h, b⟩
theorem ptrow_copied {w wr : World} {v : Value} {L : List PartT} {R : List Rw} (h : Own w wr (ptrow v L :: R)) : PartCopied L w (.returned v) wr := own_ptcopied rfl h.hd h.bel
theorem ptrow_reads {w wr : World} {v : Value} {A : Option Addr} {n c : Nat} {L : List PartT} {R : List Rw} (h : Own w wr R) (hm : ptrow v L ∈ R) (hv : v = .slice A n c) (hn : n = L.length) : PartRow wr A L := by
  have o := h.own _ hm
  subst hv hn
  exact ptRow_own o
theorem ptrow_form {w wr : World} {v : Value} {L : List PartT} {R : List Rw} (h : Own w wr (ptrow v L :: R)) (h0 : 0 < L.length) : ∃ g c, v = .slice (some ⟨g, 0, .none⟩) L.length c := by
  obtain ⟨g, cap, hv, -, -⟩ := h.hd.form h0
  exact ⟨g, cap, hv⟩
theorem ptrow_slice {w wr : World} {v : Value} {L : List PartT} {R : List Rw} (h : Own w wr (ptrow v L :: R)) : ∃ A c, v = .slice A L.length c := own_slice h.hd
theorem ptrow_over {w wr w1 : World} {v : Value} {L M : List PartT} {R : List Rw} (h : Own w wr (ptrow v L :: R)) (hl : M.length = L.length) (o : w1.ownsRow w.heap.size 33 5 v L.length (ptcells M)) (hg : wr.grownBy w1 v.ownBlock) : Own w w1 (ptrow v M :: R) :=
  h.head (r' := ptrow v M) hg (by show w1.ownsRow w.heap.size 33 5 v M.length (ptcells M); rw [hl]; exact o) (.inl rfl)
theorem ptrow_cell {w wr : World} {g c n j : Nat} {L : List PartT} {R : List Rw} (h : Own w wr (ptrow (.slice (some ⟨g, 0, .none⟩) n c) L :: R)) (hn : L.length = n) (hj : j < n) :
    wr.cell? ⟨g, j * 5, .none⟩ = some (.int .i64 (ptget L j).left) ∧ wr.cell? ⟨g, j * 5 + 1, .none⟩ = some (.int .i64 (ptget L j).right) ∧ wr.cell? ⟨g, j * 5 + 2, .none⟩ = some (.int .i64 (ptget L j).armLeft) ∧ wr.cell? ⟨g, j * 5 + 3, .none⟩ = some (.int .i64 (ptget L j).armRight) ∧ wr.cell? ⟨g, j * 5 + 4, .none⟩ = some (.int .i64 (ptget L j).weight) := by
  subst hn
  have o : wr.ownsRow w.heap.size 33 5 (.slice (some ⟨g, 0, .none⟩) L.length c) L.length (ptcells L) := h.hd
  obtain ⟨c0, c1, c2, c3, c4⟩ := ptcells_get L j hj
  exact ⟨(o.cellAt _ (by omega)).trans c0, (o.cellAt _ (by omega)).trans c1, (o.cellAt _ (by omega)).trans c2, (o.cellAt _ (by omega)).trans c3, (o.cellAt _ (by omega)).trans c4⟩
theorem ptrow_free {w wr : World} {g c n : Nat} {L : List PartT} {R : List Rw} (h : Own w wr (ptrow (.slice (some ⟨g, 0, .none⟩) n c) L :: R)) (hn : L.length = n) (i : Nat) : wr.frozen? ⟨g, i, .none⟩ = false := by
  subst hn
  have o : wr.ownsRow w.heap.size 33 5 (.slice (some ⟨g, 0, .none⟩) L.length c) L.length (ptcells L) := h.hd
  exact o.frozenAt i
theorem ptrow_st0 {w wr : World} {g c n j : Nat} {L : List PartT} {R : List Rw} (h : Own w wr (ptrow (.slice (some ⟨g, 0, .none⟩) n c) L :: R)) (hn : L.length = n) (hj : j < n) (z : Int) :
    Own w (wr.setCell ⟨g, j * 5, .none⟩ (.int .i64 z)) (ptrow (.slice (some ⟨g, 0, .none⟩) n c) (L.set j { ptget L j with left := z }) :: R) := by
  subst hn
  have o : wr.ownsRow w.heap.size 33 5 (.slice (some ⟨g, 0, .none⟩) L.length c) L.length (ptcells L) := h.hd
  obtain ⟨s1, s2⟩ := o.stored (j * 5) (.int .i64 z)
  rw [ptcells_set0 L j z hj] at s1
  exact ptrow_over h (by rw [List.length_set]) s1 (grown_setCell (World.grownBy.refl wr _) _ _)
theorem ptrow_st1 {w wr : World} {g c n j : Nat} {L : List PartT} {R : List Rw} (h : Own w wr (ptrow (.slice (some ⟨g, 0, .none⟩) n c) L :: R)) (hn : L.length = n) (hj : j < n) (z : Int) :
    Own w (wr.setCell ⟨g, j * 5 + 1, .none⟩ (.int .i64 z)) (ptrow (.slice (some ⟨g, 0, .none⟩) n c) (L.set j { ptget L j with right := z }) :: R) := by
  subst hn
  have o : wr.ownsRow w.heap.size 33 5 (.slice (some ⟨g, 0, .none⟩) L.length c) L.length (ptcells L) := h.hd
  obtain ⟨s1, s2⟩ := o.stored (j * 5 + 1) (.int .i64 z)
  rw [ptcells_set1 L j z hj] at s1
  exact ptrow_over h (by rw [List.length_set]) s1 (grown_setCell (World.grownBy.refl wr _) _ _)
theorem ptrow_st2 {w wr : World} {g c n j : Nat} {L : List PartT} {R : List Rw} (h : Own w wr (ptrow (.slice (some ⟨g, 0, .none⟩) n c) L :: R)) (hn : L.length = n) (hj : j < n) (z : Int) :
    Own w (wr.setCell ⟨g, j * 5 + 2, .none⟩ (.int .i64 z)) (ptrow (.slice (some ⟨g, 0, .none⟩) n c) (L.set j { ptget L j with armLeft := z }) :: R) := by
  subst hn
  have o : wr.ownsRow w.heap.size 33 5 (.slice (some ⟨g, 0, .none⟩) L.length c) L.length (ptcells L) := h.hd
  obtain ⟨s1, s2⟩ := o.stored (j * 5 + 2) (.int .i64 z)
  rw [ptcells_set2 L j z hj] at s1
  exact ptrow_over h (by rw [List.length_set]) s1 (grown_setCell (World.grownBy.refl wr _) _ _)
theorem ptrow_st3 {w wr : World} {g c n j : Nat} {L : List PartT} {R : List Rw} (h : Own w wr (ptrow (.slice (some ⟨g, 0, .none⟩) n c) L :: R)) (hn : L.length = n) (hj : j < n) (z : Int) :
    Own w (wr.setCell ⟨g, j * 5 + 3, .none⟩ (.int .i64 z)) (ptrow (.slice (some ⟨g, 0, .none⟩) n c) (L.set j { ptget L j with armRight := z }) :: R) := by
  subst hn
  have o : wr.ownsRow w.heap.size 33 5 (.slice (some ⟨g, 0, .none⟩) L.length c) L.length (ptcells L) := h.hd
  obtain ⟨s1, s2⟩ := o.stored (j * 5 + 3) (.int .i64 z)
  rw [ptcells_set3 L j z hj] at s1
  exact ptrow_over h (by rw [List.length_set]) s1 (grown_setCell (World.grownBy.refl wr _) _ _)
theorem ptrow_st4 {w wr : World} {g c n j : Nat} {L : List PartT} {R : List Rw} (h : Own w wr (ptrow (.slice (some ⟨g, 0, .none⟩) n c) L :: R)) (hn : L.length = n) (hj : j < n) (z : Int) :
    Own w (wr.setCell ⟨g, j * 5 + 4, .none⟩ (.int .i64 z)) (ptrow (.slice (some ⟨g, 0, .none⟩) n c) (L.set j { ptget L j with weight := z }) :: R) := by
  subst hn
  have o : wr.ownsRow w.heap.size 33 5 (.slice (some ⟨g, 0, .none⟩) L.length c) L.length (ptcells L) := h.hd
  obtain ⟨s1, s2⟩ := o.stored (j * 5 + 4) (.int .i64 z)
  rw [ptcells_set4 L j z hj] at s1
  exact ptrow_over h (by rw [List.length_set]) s1 (grown_setCell (World.grownBy.refl wr _) _ _)
/-- All fields are stored. -/
theorem ptrow_put {w wr : World} {g c n j : Nat} {L : List PartT} {R : List Rw} (h : Own w wr (ptrow (.slice (some ⟨g, 0, .none⟩) n c) L :: R)) (hn : L.length = n) (hj : j < n) (x : PartT) :
    Own w (((((wr.setCell ⟨g, j * 5, .none⟩ (.int .i64 x.left)).setCell ⟨g, j * 5 + 1, .none⟩ (.int .i64 x.right)).setCell ⟨g, j * 5 + 2, .none⟩ (.int .i64 x.armLeft)).setCell ⟨g, j * 5 + 3, .none⟩ (.int .i64 x.armRight)).setCell ⟨g, j * 5 + 4, .none⟩ (.int .i64 x.weight)) (ptrow (.slice (some ⟨g, 0, .none⟩) n c) (L.set j x) :: R) := by
  have O0 := ptrow_st0 h (by exact hn) hj x.left
  have O1 := ptrow_st1 O0 (by rw [List.length_set]; exact hn) hj x.right
  rw [ptget_set (by omega), List.set_set] at O1
  have O2 := ptrow_st2 O1 (by rw [List.length_set]; exact hn) hj x.armLeft
  rw [ptget_set (by omega), List.set_set] at O2
  have O3 := ptrow_st3 O2 (by rw [List.length_set]; exact hn) hj x.armRight
  rw [ptget_set (by omega), List.set_set] at O3
  have O4 := ptrow_st4 O3 (by rw [List.length_set]; exact hn) hj x.weight
  rw [ptget_set (by omega), List.set_set] at O4
  exact O4
/-- Behind an append of one to the first row. -/
theorem ptrow_app {w wr w1 : World} {u u' : Value} {P : List PartT} {x : PartT} {o : Obj} {R : List Rw} (h : Own w wr (ptrow u P :: R))
    (hown1 : w1.ownsRow w.heap.size 33 5 u' (P.length + 1) (ptcells P ++ [.int .i64 x.left, .int .i64 x.right, .int .i64 x.armLeft, .int .i64 x.armRight, .int .i64 x.weight])) (hg : (wr.alloc o).grownBy w1 u.ownBlock) (hb : u'.ownBlock = u.ownBlock ∨ u'.ownBlock = some (wr.alloc o).heap.size) : Own w w1 (ptrow u' (P ++ [x]) :: R) := by
  have k := (h.keep ((Below.refl _ _).alloc (Nat.le_refl _) o)).head (r' := (⟨33, 5, u', P.length + 1, ptcells P ++ [Value.int .i64 x.left, Value.int .i64 x.right, Value.int .i64 x.armLeft, Value.int .i64 x.armRight, Value.int .i64 x.weight]⟩ : Rw)) hg hown1 (hb.imp id fun h => ⟨_, h, Nat.le_refl _⟩)
  have e : (⟨33, 5, u', P.length + 1, ptcells P ++ [.int .i64 x.left, .int .i64 x.right, .int .i64 x.armLeft, .int .i64 x.armRight, .int .i64 x.weight]⟩ : Rw) = ptrow u' (P ++ [x]) := by
    unfold ptrow
    rw [ptcells_app, List.length_append]; rfl
  rw [e] at k
  exact k
theorem ptrow_empty {w wr : World} {R : List Rw} (h : Own w wr R) : Own w (wr.alloc (.cells #[] 33)) (ptrow (.slice (some ⟨wr.heap.size, 0, .none⟩) 0 0) [] :: R) :=
  h.add ((Below.refl _ _).alloc (Nat.le_refl _) _) (World.ownsRow_made wr #[] 0 (Nat.le_refl _) (by decide) rfl)
theorem ptrow_nil {w wr : World} {R : List Rw} (h : Own w wr R) : Own w wr (ptrow (.slice .none 0 0) [] :: R) :=
  h.add (Below.refl _ _) ⟨rfl, .inl ⟨rfl, rfl⟩⟩
theorem ptrow_copy {w wr w1 : World} {R : List Rw} {L : List PartT} {A : Option Addr} {c : Nat} (h : Own w wr R) (o : w1.ownsRow wr.heap.size 33 5 (.slice A L.length c) L.length (ptcells L)) (b : Below wr.heap.size wr w1) : Own w w1 (ptrow (.slice A L.length c) L :: R) := h.add b o
/-- Behind an append of a slice of them to an empty one that was just built. -/
theorem ptrow_append {w wr w1 : World} {v' : Value} {L : List PartT} {n : Nat} {R : List Rw} (h : Own w wr R) (hn : L.length = n)
    (o : w1.ownsRow wr.heap.size 33 5 v' (0 + n) ([] ++ ptcells L)) (g : (wr.alloc (.cells #[] 33)).grownBy w1 (some wr.heap.size)) : Own w w1 (ptrow v' L :: R) := by
  have b : Below wr.heap.size wr w1 := ((Below.refl wr.heap.size wr).alloc (Nat.le_refl _) _).grown g (by simp) (fun k e => by injection e with e; omega)
  rw [List.nil_append, Nat.zero_add] at o
  subst hn
  exact h.add b o
/-- A slice is answered, and a bool. -/
def GivesPartB (X : List PartT) (z : Bool) (w : World) (e : Ending) (w' : World) : Prop :=
  ∃ (A : Option Addr) (c : Nat), e = .returned (.tuple #[.slice A X.length c, .bool z]) ∧ Own w w' [ptrow (.slice A X.length c) X]
theorem ptrow_givesB {w w' : World} {u : Value} {X : List PartT} (h : Own w w' [ptrow u X]) (z : Bool) : GivesPartB X z w (.returned (.tuple #[u, .bool z])) w' := by
  obtain ⟨A, c, hu⟩ := own_slice h.hd
  replace hu : u = .slice A X.length c := hu
  subst hu
  exact ⟨A, c, rfl, h⟩
end Go.Proofs.Ythefcbninpkncaa
