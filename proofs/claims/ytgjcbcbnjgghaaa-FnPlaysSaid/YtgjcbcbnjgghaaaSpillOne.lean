/-
  A row of the call's own is handed on with a number appended, in place or in a new block, and stays in use. No program's walk.
-/
import Derived.Test.YtgjcbcbnjgghaaaOwn
import Derived.Maps.AppendAt
namespace Go.Proofs.Ytgjcbcbnjgghaaa
open Go.ChangeShapes Go.WideShapes Go.ChangeAt Go.RowKit Go.PlainAid

/-- Behind an append of one value: in place with the capacity that was, or in a new block. -/
def Spot (w w' : World) (v v' : Value) (n : Nat) : Prop :=
  (∃ g cap, v = .slice (some ⟨g, 0, none⟩) n cap ∧ v' = .slice (some ⟨g, 0, none⟩) (n + 1) cap) ∨ (v'.ownBlock = some w.heap.size ∧ w.grownBy w' none)
theorem append_spot {P : Program} (w : World) (base : Nat) (t ty e : TypeId) (i : TypeInfo) (z : Value) (ht : P.underlying t = some (.slice e)) (hi : P.info? e = some i) (hz : i.zero = some z) (h1 : i.size = 1) (h8 : i.bytes = 8)
    (v : Value) (n : Nat) (xs : List Value) (hown : w.ownsRow base e 1 v n xs) (a : Addr) (c : Nat) (u : Value) (hu : w.cell? (a.add 0) = some u) (ho : u.oneCell' = true) (hn : n ≤ 1000000000)
    (v' : Value) (w' : World) (hr : (Builtin.append_ #[t, t] ty #[v, .slice (some a) 1 c]).run P w = .ok v' w') : Spot w w' v v' n := by
  have hnews : ∀ j x, [u][j]? = some x → w.cell? (a.add j) = some x := fun j x hx => by
    rcases j with _ | j
    · injection hx with hx; subst hx; exact hu
    · simp at hx
  have hl : [u].length = 1 * i.size := by rw [h1]; rfl
  have hlen : xs.length = n * i.size := by rw [h1]; exact hown.1
  have grown : ∀ cs : Array Value, w.grownBy (w.drew.alloc (.cells cs e)) none := fun cs => ⟨rfl, rfl, rfl, by simp, fun k hk _ => heap_alloc_old w.drew _ hk⟩
  rcases hown.2 with ⟨rfl, rfl⟩ | ⟨g, cap, cur, rfl, hb, hg, hle, hc, hs, htk⟩
  · have e1 := run_append_nil (P := P) w t ty e i z ht hi hz a 1 c [u] hl hnews (by decide) (by decide) (by rw [h8]; decide)
    rw [e1] at hr
    injection hr with hv hw
    subst hv hw
    exact .inr ⟨rfl, grown _⟩
  · by_cases hroom : n + 1 ≤ cap
    · have e1 := run_append_room (P := P) w t ty e i ht hi g n cap cur hg a 1 c [u] hl hnews (fun x hx => by rw [List.mem_singleton.1 hx]; exact ho) hroom (by rw [h1, hs]; simp; omega)
      rw [e1] at hr
      injection hr with hv _
      subst hv
      exact .inl ⟨g, cap, rfl, rfl⟩
    · have e1 := run_append_grow (P := P) w t ty e i z ht hi hz ⟨g, 0, none⟩ n cap xs hlen (hown.cells (g := g) rfl) a 1 c [u] hl hnews (by omega) (by omega) (growslice_fits (by omega) (by rw [h8]; omega))
      rw [e1] at hr
      injection hr with hv hw
      subst hv hw
      exact .inr ⟨rfl, grown _⟩
/-- The operation, run. -/
theorem run_append_spill {P : Program} {w : World} (base : Nat) (t ty e : TypeId) (i : TypeInfo) (z : Value) (ht : P.underlying t = some (.slice e)) (hi : P.info? e = some i) (hz : i.zero = some z) (h1 : i.size = 1) (h8 : i.bytes = 8) (hzs : z.cells.size = 1)
    (v : Value) (n : Nat) (xs : List Value) (hown : w.ownsRow base e 1 v n xs) (ad : Addr) (c : Nat) (u : Value) (hu : w.cell? (ad.add 0) = some u) (hu1 : u.oneCell' = true) (hn : n ≤ 1000000000) (hbase : base ≤ w.heap.size) :
    ∃ v' w', (Builtin.append_ #[t, t] ty #[v, .slice (some ad) 1 c]).run P w = .ok v' w' ∧ w'.ownsRow base e 1 v' (n + 1) (xs ++ [u]) ∧ w.grownBy w' v.ownBlock ∧ (v'.ownBlock = v.ownBlock ∨ v'.ownBlock = some w.heap.size) ∧ Spot w w' v v' n := by
  have hnews : ∀ j x, [u][j]? = some x → w.cell? (ad.add j) = some x := fun j x hx => by
    rcases j with _ | j
    · injection hx with hx; subst hx; exact hu
    · simp at hx
  obtain ⟨v', w', hr, h2, h3, -, h5⟩ := run_append_own_at (P := P) w base t ty e i z 1 8 ht hi hz h1 h8 hzs (by decide) v n xs hown ad 1 c [u] rfl hnews (fun x hx => by rw [List.mem_singleton.1 hx]; exact hu1) (by unfold maxLen; omega) (by omega) hbase
  exact ⟨v', w', hr, h2, h3, h5, append_spot w base t ty e i z ht hi hz h1 h8 v n xs hown ad c u hu hu1 hn v' w' hr⟩
theorem wpList_append_spill {P : Program} {w : World} {ops : Array Oper} {rest : List Oper} {o : Oper} {a : Act} {Q : Exit → Act → World → Prop} (hgd : o.guard = none) (s x : Operand) (t : TypeId)
    (ho : o.op = .call { callee := .builtin .append, args := #[s, x], argTypes := #[t, t] }) (base : Nat) (e : TypeId) (i : TypeInfo) (z : Value) (ht : P.underlying t = some (.slice e)) (hi : P.info? e = some i) (hz : i.zero = some z) (h1 : i.size = 1) (h8 : i.bytes = 8) (hzs : z.cells.size = 1)
    (v : Value) (n : Nat) (xs : List Value) (hs : a.eval s = v) (hown : w.ownsRow base e 1 v n xs) (ad : Addr) (c : Nat) (u : Value) (hx : a.eval x = .slice (some ad) 1 c) (hu : w.cell? (ad.add 0) = some u) (hu1 : u.oneCell' = true) (hn : n ≤ 1000000000) (hbase : base ≤ w.heap.size)
    (h : ∀ v' w', w'.ownsRow base e 1 v' (n + 1) (xs ++ [u]) → w.grownBy w' v.ownBlock → (v'.ownBlock = v.ownBlock ∨ v'.ownBlock = some w.heap.size) → Spot w w' v v' n → wpList P ops Q rest (a.put o.dst v') w') : wpList P ops Q (o :: rest) a w :=
  wpList_plain hgd fun _ hK => by
    obtain ⟨v', w', hr, h2, h3, h5, h6⟩ := run_append_spill (P := P) base t o.type e i z ht hi hz h1 h8 hzs v n xs hown ad c u hu hu1 hn hbase
    unfold Oper.wp execOp
    simp only [ho, resolve, invoke, builtin, Sem.run_bind, Sem.run_pure, Result.andThen_ok, List.map_toArray, List.map_cons, List.map_nil, hs, hx, hr]
    exact hK _ _ (h v' w' h2 h3 h5 h6)
theorem step_append_spill {P : Program} (w : World) {ops : Array Oper} {o : Oper} {a : Act} {K : Act → World → Prop} {Q : Exit → Act → World → Prop} {E : Prop} (hgd : o.guard = none) (s x : Operand) (t : TypeId)
    (ho : o.op = .call { callee := .builtin .append, args := #[s, x], argTypes := #[t, t] }) (base : Nat) (e : TypeId) (i : TypeInfo) (z : Value) (ht : P.underlying t = some (.slice e)) (hi : P.info? e = some i) (hz : i.zero = some z) (h1 : i.size = 1) (h8 : i.bytes = 8) (hzs : z.cells.size = 1)
    (v : Value) (n : Nat) (xs : List Value) (hs : a.eval s = v) (hown : w.ownsRow base e 1 v n xs) (ad : Addr) (c : Nat) (u : Value) (hx : a.eval x = .slice (some ad) 1 c) (hu : w.cell? (ad.add 0) = some u) (hu1 : u.oneCell' = true) (hn : n ≤ 1000000000) (hbase : base ≤ w.heap.size)
    (h : ∀ v' w', w'.ownsRow base e 1 v' (n + 1) (xs ++ [u]) → w.grownBy w' v.ownBlock → (v'.ownBlock = v.ownBlock ∨ v'.ownBlock = some w.heap.size) → Spot w w' v v' n → K (a.put o.dst v') w') :
    if Region.wanted o (yielded ops a.tmps) = true then Oper.wp P o a w K Q else E := by
  have hw : Region.wanted o (yielded ops a.tmps) = true := by simp [Region.wanted, hgd]
  rw [if_pos hw]
  obtain ⟨v', w', hr, h2, h3, h5, h6⟩ := run_append_spill (P := P) base t o.type e i z ht hi hz h1 h8 hzs v n xs hown ad c u hu hu1 hn hbase
  unfold Oper.wp execOp
  simp only [ho, resolve, invoke, builtin, Sem.run_bind, Sem.run_pure, Result.andThen_ok, List.map_toArray, List.map_cons, List.map_nil, hs, hx, hr]
  exact h v' w' h2 h3 h5 h6

/-- The row without its last cell. -/
theorem owns_shrink {w : World} {base n g cap : Nat} {e : TypeId} {xs : List Value} {u : Value} (h : w.ownsRow base e 1 (.slice (some ⟨g, 0, none⟩) (n + 1) cap) (n + 1) (xs ++ [u])) : w.ownsRow base e 1 (.slice (some ⟨g, 0, none⟩) n cap) n xs := by
  have hl : xs.length = n := by
    have := h.1
    rw [List.length_append, List.length_singleton] at this
    omega
  rcases h.2 with ⟨-, h0⟩ | ⟨g', cap', cur, hv, hb, hg, hle, hc, hs, htk⟩
  · omega
  · injection hv with e1 _ e3
    injection e1 with e1
    injection e1 with e1
    subst e1 e3
    refine ⟨by rw [hl, Nat.mul_one], .inr ⟨_, _, cur, rfl, hb, hg, by omega, hc, hs, ?_⟩⟩
    have e2 : cur.toList.take n = (cur.toList.take ((n + 1) * 1)).take n := by rw [List.take_take, Nat.min_eq_left (by omega)]
    rw [Nat.mul_one, e2, htk, List.take_append_of_le_length (by omega), List.take_of_length_le (by omega)]
/-- The block of a row lies behind a further base. -/
theorem owns_from {w : World} {base b2 n : Nat} {e : TypeId} {v : Value} {xs : List Value} (h : w.ownsRow base e 1 v n xs) (hb : v.ownBlock = some b2) : w.ownsRow b2 e 1 v n xs := by
  refine ⟨h.1, ?_⟩
  rcases h.2 with ⟨rfl, -⟩ | ⟨g, cap, cur, rfl, -, hr⟩
  · cases hb
  · injection hb with hb
    exact .inr ⟨g, cap, cur, rfl, Nat.le_of_eq hb.symm, hr⟩
theorem irow_app' (u : Value) (P : List Int) (x : Int) {w : World} {B : Nat} (h : w.ownsRow B 3 1 u (P.length + 1) (ints P ++ [.int .i64 x])) : w.ownsRow B 3 1 u (P ++ [x]).length (ints (P ++ [x])) := by
  rw [ints_append, List.length_append]; exact h
/-- The row with a number more, and how the old row comes back. -/
theorem Own.spill {w wr w1 : World} {v v' : Value} {H : List Int} {x : Int} {o : Obj} {R : List Rw} (h : Own w wr (irow v H :: R))
    (o1 : w1.ownsRow w.heap.size 3 1 v' (H.length + 1) (ints H ++ [.int .i64 x])) (g1 : (wr.alloc o).grownBy w1 v.ownBlock) (a1 : v'.ownBlock = v.ownBlock ∨ v'.ownBlock = some (wr.alloc o).heap.size) (s1 : Spot (wr.alloc o) w1 v v' H.length) :
    ∃ Y, Own w w1 (irow v' (H ++ [x]) :: Y) ∧ ∀ w2 Z, Own w w2 (irow v' (H ++ [x]) :: (Y ++ Z)) → Own w w2 (irow v H :: (R ++ Z)) := by
  rcases s1 with ⟨g, cap, hv, hv'⟩ | ⟨hb, gn⟩
  · refine ⟨R, Own.iapp h o1 g1 a1, fun w2 Z h2 => ?_⟩
    have o2 : w2.ownsRow w.heap.size 3 1 v' (H ++ [x]).length (ints (H ++ [x])) := h2.hd
    have o3 : w2.ownsRow w.heap.size 3 1 v H.length (ints H) := by
      rw [ints_append, List.length_append] at o2
      subst hv hv'
      exact owns_shrink o2
    exact h2.head (r' := irow v H) (World.grownBy.refl w2 _) o3 (.inl (by subst hv hv'; rfl))
  · have k := h.keep ((Below.refl wr.heap.size wr).alloc (Nat.le_refl _) o)
    have b : Below (wr.alloc o).heap.size (wr.alloc o) w1 := (Below.refl _ _).grown gn (Nat.le_refl _) (fun k e => by cases e)
    have k2 := k.add b (owns_from (irow_app' v' H x o1) hb)
    exact ⟨irow v H :: R, k2, fun w2 Z h2 => h2.tl⟩
end Go.Proofs.Ytgjcbcbnjgghaaa
