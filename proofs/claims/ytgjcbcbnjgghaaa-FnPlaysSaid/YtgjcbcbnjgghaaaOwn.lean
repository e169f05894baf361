/-
  Rows of the call's own that a loop appends to and stores into: they lie in blocks of their own. No program's walk; no condition but those written.
-/
import Derived.Test.YtgjcbcbnjgghaaaInts
namespace Go.Proofs.Ytgjcbcbnjgghaaa
open Go.ChangeShapes Go.WideShapes Go.ChangeAt Go.RowKit Go.PlainAid

/-- Where the row lies behind an append: where it lay, or in a new block. -/
theorem append_block {P : Program} (w : World) (base : Nat) (t ty e : TypeId) (i : TypeInfo) (z : Value) (ht : P.underlying t = some (.slice e)) (hi : P.info? e = some i) (hz : i.zero = some z) (h1 : i.size = 1) (h8 : i.bytes = 8)
    (v : Value) (n : Nat) (xs : List Value) (hown : w.ownsRow base e 1 v n xs) (a : Addr) (c : Nat) (u : Value) (hu : w.cell? (a.add 0) = some u) (ho : u.oneCell' = true) (hn : n ≤ 1000000000)
    (v' : Value) (w' : World) (hr : (Builtin.append_ #[t, t] ty #[v, .slice (some a) 1 c]).run P w = .ok v' w') : v'.ownBlock = v.ownBlock ∨ v'.ownBlock = some w.heap.size := by
  have hnews : ∀ j x, [u][j]? = some x → w.cell? (a.add j) = some x := fun j x hx => by
    rcases j with _ | j
    · injection hx with hx; subst hx; exact hu
    · simp at hx
  have hl : [u].length = 1 * i.size := by rw [h1]; rfl
  have hlen : xs.length = n * i.size := by rw [h1]; exact hown.1
  rcases hown.2 with ⟨rfl, rfl⟩ | ⟨g, cap, cur, rfl, hb, hg, hle, hc, hs, htk⟩
  · have e1 := run_append_nil (P := P) w t ty e i z ht hi hz a 1 c [u] hl hnews (by decide) (by decide) (by rw [h8]; decide)
    rw [e1] at hr
    injection hr with hv _
    subst hv
    exact .inr rfl
  · by_cases hroom : n + 1 ≤ cap
    · have e1 := run_append_room (P := P) w t ty e i ht hi g n cap cur hg a 1 c [u] hl hnews (fun x hx => by rw [List.mem_singleton.1 hx]; exact ho) hroom (by rw [h1, hs]; simp; omega)
      rw [e1] at hr
      injection hr with hv _
      subst hv
      exact .inl rfl
    · have e1 := run_append_grow (P := P) w t ty e i z ht hi hz ⟨g, 0, none⟩ n cap xs hlen (hown.cells (g := g) rfl) a 1 c [u] hl hnews (by omega) (by omega) (growslice_fits (by omega) (by rw [h8]; omega))
      rw [e1] at hr
      injection hr with hv _
      subst hv
      exact .inr rfl

/-- An append of one value to a row of the call's own, and where the row lies behind it. -/
theorem wpList_append_one {P : Program} {w : World} {ops : Array Oper} {rest : List Oper} {o : Oper} {a : Act} {Q : Exit → Act → World → Prop} (hgd : o.guard = none) (s x : Operand) (t : TypeId)
    (ho : o.op = .call { callee := .builtin .append, args := #[s, x], argTypes := #[t, t] }) (base : Nat) (e : TypeId) (i : TypeInfo) (z : Value) (ht : P.underlying t = some (.slice e)) (hi : P.info? e = some i) (hz : i.zero = some z) (h1 : i.size = 1) (h8 : i.bytes = 8) (hzs : z.cells.size = 1)
    (v : Value) (n : Nat) (xs : List Value) (hs : a.eval s = v) (hown : w.ownsRow base e 1 v n xs) (ad : Addr) (c : Nat) (u : Value) (hx : a.eval x = .slice (some ad) 1 c) (hu : w.cell? (ad.add 0) = some u) (hu1 : u.oneCell' = true) (hn : n ≤ 1000000000) (hbase : base ≤ w.heap.size)
    (h : ∀ v' w', w'.ownsRow base e 1 v' (n + 1) (xs ++ [u]) → w.grownBy w' v.ownBlock → (v'.ownBlock = v.ownBlock ∨ v'.ownBlock = some w.heap.size) → wpList P ops Q rest (a.put o.dst v') w') : wpList P ops Q (o :: rest) a w :=
  wpList_plain hgd fun _ hK => by
    have hnews : ∀ j x, [u][j]? = some x → w.cell? (ad.add j) = some x := fun j x hx => by
      rcases j with _ | j
      · injection hx with hx; subst hx; exact hu
      · simp at hx
    obtain ⟨v', w', hr, h2, h3, -⟩ := run_append_own (P := P) w base t o.type e i z 1 8 ht hi hz h1 h8 hzs (by decide) v n xs hown ad 1 c [u] rfl hnews (fun x hx => by rw [List.mem_singleton.1 hx]; exact hu1) (by unfold maxLen; omega) (by omega) hbase
    have h5 := append_block w base t o.type e i z ht hi hz h1 h8 v n xs hown ad c u hu hu1 hn v' w' hr
    unfold Oper.wp execOp
    simp only [ho, resolve, invoke, builtin, Sem.run_bind, Sem.run_pure, Result.andThen_ok, List.map_toArray, List.map_cons, List.map_nil, hs, hx, hr]
    exact hK _ _ (h v' w' h2 h3 h5)

/-- The value of a slice that was just built of one value. -/
theorem new_one (W : World) (u : Value) (t : TypeId) : (W.alloc (.cells #[u] t)).cell? ((⟨W.heap.size, 0, none⟩ : Addr).add 0) = some u := news_new W [u] t 0 u rfl

/-- A row of the call's own: its elements' type, how many cells an element takes, the slice, how many elements, the cells. -/
structure Rw where
  e : TypeId
  s : Nat
  v : Value
  n : Nat
  xs : List Value
/-- A row of ints. -/
def irow (v : Value) (L : List Int) : Rw := ⟨3, 1, v, L.length, ints L⟩
def Rw.at (r : Rw) (B : Nat) (w : World) : Prop := w.ownsRow B r.e r.s r.v r.n r.xs
def Rw.apart (p q : Rw) : Prop := p.v.ownBlock = none ∨ p.v.ownBlock ≠ q.v.ownBlock
theorem Rw.apart.symm {p q : Rw} (h : p.apart q) : q.apart p := by
  unfold Rw.apart at h ⊢
  rcases e : q.v.ownBlock with _ | k
  · exact .inl rfl
  · rcases h with h | h
    · exact .inr (by rw [h]; intro e; cases e)
    · exact .inr fun g => h (by rw [e, g])

/-- Own of the call's own, each in a block of its own; beside them only new memory. -/
structure Own (w wr : World) (R : List Rw) : Prop where
  own : ∀ p ∈ R, p.at w.heap.size wr
  ne : R.Pairwise Rw.apart
  bel : Below w.heap.size w wr

theorem Own.none (w : World) : Own w w [] := ⟨fun _ h => (List.not_mem_nil h).elim, List.Pairwise.nil, Below.refl _ _⟩
theorem Own.hd {w wr : World} {r : Rw} {R : List Rw} (h : Own w wr (r :: R)) : wr.ownsRow w.heap.size r.e r.s r.v r.n r.xs := h.own r List.mem_cons_self
theorem Own.tl {w wr : World} {r : Rw} {R : List Rw} (h : Own w wr (r :: R)) : Own w wr R := ⟨fun p hp => h.own p (List.mem_cons_of_mem _ hp), (List.pairwise_cons.1 h.ne).2, h.bel⟩
theorem Own.row {w wr : World} {v : Value} {A : Option Addr} {n c : Nat} {L : List Int} {R : List Rw} (h : Own w wr R) (hm : irow v L ∈ R) (hv : v = .slice A n c) (hn : n = L.length) : IntRow wr A L := by
  have o := h.own _ hm
  subst hv hn
  exact intRow_own o
theorem below_grown {w w1 : World} (b : Below w.heap.size w w1) (row : Option Nat) : w.grownBy w1 row := ⟨b.os, b.tape, b.output, b.size, fun i hi _ => b.block i hi⟩
/-- Other new memory is made. -/
theorem Own.keep {w wr w1 : World} {R : List Rw} (h : Own w wr R) (b : Below wr.heap.size wr w1) : Own w w1 R :=
  ⟨fun p hp => (h.own p hp).kept (below_grown b .none) (by cases q : p.v.ownBlock <;> simp), h.ne, h.bel.trans (b.mono h.bel.size)⟩
/-- A further row is made. -/
theorem Own.add {w wr w1 : World} {R : List Rw} {e : TypeId} {s n : Nat} {v : Value} {xs : List Value} (h : Own w wr R) (b : Below wr.heap.size wr w1) (o : w1.ownsRow wr.heap.size e s v n xs) : Own w w1 (⟨e, s, v, n, xs⟩ :: R) := by
  have hk := h.keep b
  refine ⟨fun p hp => ?_, List.pairwise_cons.2 ⟨fun p hp => ?_, h.ne⟩, hk.bel⟩
  · rcases List.mem_cons.1 hp with rfl | hp
    · refine ⟨o.1, ?_⟩
      rcases o.2 with h0 | ⟨g, cap, cur, hv, hb, hr⟩
      · exact .inl h0
      · exact .inr ⟨g, cap, cur, hv, Nat.le_trans h.bel.size hb, hr⟩
    · exact hk.own p hp
  · refine Rw.apart.symm ?_
    rcases q : p.v.ownBlock with _ | k
    · exact .inl q
    · refine .inr fun e => ?_
      rw [q] at e
      have h1 := (o.lt k e.symm).1
      have h2 := ((h.own p hp).lt k q).2
      omega
theorem Own.swap {w wr : World} {a b : Rw} {R : List Rw} (h : Own w wr (a :: b :: R)) : Own w wr (b :: a :: R) := by
  have n1 := List.pairwise_cons.1 h.ne
  have n2 := List.pairwise_cons.1 n1.2
  refine ⟨fun p hp => h.own p (by simp only [List.mem_cons] at hp ⊢; rcases hp with hp | hp | hp <;> simp [hp]), List.pairwise_cons.2 ⟨fun p hp => ?_, List.pairwise_cons.2 ⟨fun p hp => n1.1 p (List.mem_cons_of_mem _ hp), n2.2⟩⟩, h.bel⟩
  rcases List.mem_cons.1 hp with rfl | hp
  · exact (n1.1 b List.mem_cons_self).symm
  · exact n2.1 p hp
/-- The second row to the end of three, and so on: any order. -/
theorem Own.perm {w wr : World} {R R' : List Rw} (h : Own w wr R) (p : R.Perm R') : Own w wr R' :=
  ⟨fun r hr => h.own r (p.mem_iff.2 hr), (p.pairwise_iff fun h => Rw.apart.symm h).1 h.ne, h.bel⟩
/-- What is written into the first row's block, or new memory, leaves the others. -/
theorem Own.head {w wr w1 : World} {r r' : Rw} {R : List Rw} (h : Own w wr (r :: R)) (hg : wr.grownBy w1 r.v.ownBlock) (o : r'.at w.heap.size w1) (hb : r'.v.ownBlock = r.v.ownBlock ∨ ∃ k, r'.v.ownBlock = some k ∧ wr.heap.size ≤ k) : Own w w1 (r' :: R) := by
  have n1 := List.pairwise_cons.1 h.ne
  refine ⟨fun p hp => ?_, List.pairwise_cons.2 ⟨fun p hp => ?_, n1.2⟩, h.bel.grown hg h.bel.size (fun k e => (h.hd.lt k e).1)⟩
  · rcases List.mem_cons.1 hp with rfl | hp
    · exact o
    · exact (h.own p (List.mem_cons_of_mem _ hp)).kept hg (n1.1 p hp).symm
  · rcases hb with hb | ⟨k, hb, hk⟩
    · have := n1.1 p hp
      unfold Rw.apart at this ⊢
      rw [hb]; exact this
    · refine .inr fun e => ?_
      rw [hb] at e
      have := ((h.own p (List.mem_cons_of_mem _ hp)).lt _ e.symm).2
      omega
/-- Behind an append of one value to the first row. -/
theorem Own.app {w wr w1 : World} {e : TypeId} {u u' x : Value} {n : Nat} {xs : List Value} {o : Obj} {R : List Rw} (h : Own w wr (⟨e, 1, u, n, xs⟩ :: R))
    (hown1 : w1.ownsRow w.heap.size e 1 u' (n + 1) (xs ++ [x])) (hg : (wr.alloc o).grownBy w1 u.ownBlock) (hb : u'.ownBlock = u.ownBlock ∨ u'.ownBlock = some (wr.alloc o).heap.size) : Own w w1 (⟨e, 1, u', n + 1, xs ++ [x]⟩ :: R) :=
  (h.keep ((Below.refl _ _).alloc (Nat.le_refl _) o)).head hg hown1 (hb.imp id fun h => ⟨_, h, Nat.le_refl _⟩)
theorem irow_app (u : Value) (P : List Int) (x : Int) : (⟨3, 1, u, P.length + 1, ints P ++ [.int .i64 x]⟩ : Rw) = irow u (P ++ [x]) := by
  unfold irow
  rw [ints_append, List.length_append]; rfl
theorem Own.iapp {w wr w1 : World} {u u' : Value} {P : List Int} {x : Int} {o : Obj} {R : List Rw} (h : Own w wr (irow u P :: R))
    (hown1 : w1.ownsRow w.heap.size 3 1 u' (P.length + 1) (ints P ++ [.int .i64 x])) (hg : (wr.alloc o).grownBy w1 u.ownBlock) (hb : u'.ownBlock = u.ownBlock ∨ u'.ownBlock = some (wr.alloc o).heap.size) : Own w w1 (irow u' (P ++ [x]) :: R) :=
  irow_app u' P x ▸ Own.app (n := P.length) (xs := ints P) h hown1 hg hb
/-- An empty row of ints is built. -/
theorem Own.empty {w wr : World} {R : List Rw} (h : Own w wr R) : Own w (wr.alloc (.cells #[] 3)) (irow (.slice (some ⟨wr.heap.size, 0, .none⟩) 0 0) [] :: R) :=
  h.add ((Below.refl _ _).alloc (Nat.le_refl _) _) (World.ownsRow_made wr #[] 0 (Nat.le_refl _) (by decide) rfl)
/-- Rows that a call made, beside those that were there. -/
theorem Own.join {w wr w1 : World} {R R' : List Rw} (h : Own w wr R) (k : Own wr w1 R') : Own w w1 (R' ++ R) := by
  have hk := h.keep k.bel
  refine ⟨fun p hp => ?_, List.pairwise_append.2 ⟨k.ne, h.ne, fun p hp q hq => ?_⟩, hk.bel⟩
  · rcases List.mem_append.1 hp with hp | hp
    · have o := k.own p hp
      refine ⟨o.1, ?_⟩
      rcases o.2 with h0 | ⟨g, cap, cur, hv, hb, hr⟩
      · exact .inl h0
      · exact .inr ⟨g, cap, cur, hv, Nat.le_trans h.bel.size hb, hr⟩
    · exact hk.own p hp
  · refine Rw.apart.symm ?_
    rcases e : q.v.ownBlock with _ | k'
    · exact .inl e
    · refine .inr fun g => ?_
      rw [e] at g
      have h1 := ((k.own p hp).lt k' g.symm).1
      have h2 := ((h.own q hq).lt k' e).2
      omega
theorem Own.third {w wr : World} {a b c : Rw} {R : List Rw} (h : Own w wr (a :: b :: c :: R)) : Own w wr (c :: a :: b :: R) :=
  h.perm ((List.perm_append_comm (l₁ := [a, b]) (l₂ := [c])).append_right R)
theorem Own.fourth {w wr : World} {a b c d : Rw} {R : List Rw} (h : Own w wr (a :: b :: c :: d :: R)) : Own w wr (d :: a :: b :: c :: R) :=
  h.perm ((List.perm_append_comm (l₁ := [a, b, c]) (l₂ := [d])).append_right R)
theorem Own.back {w wr : World} {a b c : Rw} {R : List Rw} (h : Own w wr (c :: a :: b :: R)) : Own w wr (a :: b :: c :: R) :=
  h.perm ((List.perm_append_comm (l₁ := [c]) (l₂ := [a, b])).append_right R)
theorem Own.back4 {w wr : World} {a b c d : Rw} {R : List Rw} (h : Own w wr (d :: a :: b :: c :: R)) : Own w wr (a :: b :: c :: d :: R) :=
  h.perm ((List.perm_append_comm (l₁ := [d]) (l₂ := [a, b, c])).append_right R)
/-- Ints are written over the first row. -/
theorem Own.over {w wr w1 : World} {v : Value} {L M : List Int} {R : List Rw} (h : Own w wr (irow v L :: R)) (hl : M.length = L.length) (o : w1.ownsRow w.heap.size 3 1 v L.length (ints M)) (hg : wr.grownBy w1 v.ownBlock) : Own w w1 (irow v M :: R) :=
  h.head (r' := irow v M) hg (by show w1.ownsRow w.heap.size 3 1 v M.length (ints M); rw [hl]; exact o) (.inl rfl)
theorem Own.drew {w wr : World} {R : List Rw} (h : Own w wr R) (q : Nat) : Own w (wr.drewN q) R := h.keep (below_drewN (Below.refl _ _) q)
theorem Own.copied {w wr : World} {v : Value} {L : List Int} {R : List Rw} (h : Own w wr (irow v L :: R)) : Copied L w (.returned v) wr := own_copied rfl h.hd h.bel
end Go.Proofs.Ytgjcbcbnjgghaaa
