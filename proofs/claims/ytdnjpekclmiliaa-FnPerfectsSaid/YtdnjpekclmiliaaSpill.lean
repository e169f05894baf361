/-
  A row of the call's own is handed on with a number appended, in place or in a new block, and stays in use; what a call found is appended, nothing at all included. No program's walk.
-/
import Derived.Test.YtdnjpekclmiliaaRowsApp
namespace Go.Proofs.Ytdnjpekclmiliaa
open Go.ChangeShapes Go.WideShapes Go.ChangeAt Go.RowKit Go.PlainAid

/-- Behind an append of one value: in place with the capacity that was, or in a new block. -/
def Spot (w w' : World) (v v' : Value) (n : Nat) : Prop :=
  (∃ g cap, v = .slice (some ⟨g, 0, none⟩) n cap ∧ v' = .slice (some ⟨g, 0, none⟩) (n + 1) cap) ∨ (v'.ownBlock = some w.heap.size ∧ w.grownBy w' none)
theorem append_spot {P : Program} (w : World) (base : Nat) (t ty e : TypeId) (i : TypeInfo) (z : Value) (ht : P.underlying t = some (.slice e)) (hi : P.info? e = some i) (hz : i.zero = some z) (h1 : i.size = 1) (h8 : i.bytes = 8)
    (v : Value) (n : Nat) (xs : List Value) (hown : w.ownsRow base e 1 v n xs) (a : Addr) (c : Nat) (u : Value) (hu : w.cell? (a.add 0) = some u) (ho : u.oneCell' = true) (hn : n ≤ 1000000000)
    (v' : Value) (w' : World) (hr : (Builtin.append_ #[t, t] ty #[v, .slice (some a) 1 c]).run P w = .ok v' w') : Spot w w' v v' n := by
  have hnews : ∀ j x, [u][j]? = some x → w.cell? (a.add j) = some x := fun j x hx => by
    rcases j with _ | j
    · injection hx with hx; subst hx; exact hu
    · simp at hx
  have hl : [u].length = 1 * i.size := by rw [h1]; rfl
  have hlen : xs.length = n * i.size := by rw [h1]; exact hown.1
  have grown : ∀ cs : Array Value, w.grownBy (w.drew.alloc (.cells cs e)) none := fun cs => ⟨rfl, rfl, rfl, by simp, fun k hk _ => heap_alloc_old w.drew _ hk⟩
  rcases hown.2 with ⟨rfl, rfl⟩ | ⟨g, cap, cur, rfl, hb, hg, hle, hc, hs, htk⟩
  · have e1 := run_append_nil (P := P) w t ty e i z ht hi hz a 1 c [u] hl hnews (by decide) (by decide) (by rw [h8]; decide)
    rw [e1] at hr
    injection hr with hv hw
    subst hv hw
    exact .inr ⟨rfl, grown _⟩
  · by_cases hroom : n + 1 ≤ cap
    · have e1 := run_append_room (P := P) w t ty e i ht hi g n cap cur hg a 1 c [u] hl hnews (fun x hx => by rw [List.mem_singleton.1 hx]; exact ho) hroom (by rw [h1, hs]; simp; omega)
      rw [e1] at hr
      injection hr with hv _
      subst hv
      exact .inl ⟨g, cap, rfl, rfl⟩
    · have e1 := run_append_grow (P := P) w t ty e i z ht hi hz ⟨g, 0, none⟩ n cap xs hlen (hown.cells (g := g) rfl) a 1 c [u] hl hnews (by omega) (by omega) (growslice_fits (by omega) (by rw [h8]; omega))
      rw [e1] at hr
      injection hr with hv hw
      subst hv hw
      exact .inr ⟨rfl, grown _⟩
/-- The operation, run. -/
theorem run_append_spill {P : Program} {w : World} (base : Nat) (t ty e : TypeId) (i : TypeInfo) (z : Value) (ht : P.underlying t = some (.slice e)) (hi : P.info? e = some i) (hz : i.zero = some z) (h1 : i.size = 1) (h8 : i.bytes = 8) (hzs : z.cells.size = 1)
    (v : Value) (n : Nat) (xs : List Value) (hown : w.ownsRow base e 1 v n xs) (ad : Addr) (c : Nat) (u : Value) (hu : w.cell? (ad.add 0) = some u) (hu1 : u.oneCell' = true) (hn : n ≤ 1000000000) (hbase : base ≤ w.heap.size) :
    ∃ v' w', (Builtin.append_ #[t, t] ty #[v, .slice (some ad) 1 c]).run P w = .ok v' w' ∧ w'.ownsRow base e 1 v' (n + 1) (xs ++ [u]) ∧ w.grownBy w' v.ownBlock ∧ (v'.ownBlock = v.ownBlock ∨ v'.ownBlock = some w.heap.size) ∧ Spot w w' v v' n := by
  have hnews : ∀ j x, [u][j]? = some x → w.cell? (ad.add j) = some x := fun j x hx => by
    rcases j with _ | j
    · injection hx with hx; subst hx; exact hu
    · simp at hx
  obtain ⟨v', w', hr, h2, h3, -, h5⟩ := run_append_own_at (P := P) w base t ty e i z 1 8 ht hi hz h1 h8 hzs (by decide) v n xs hown ad 1 c [u] rfl hnews (fun x hx => by rw [List.mem_singleton.1 hx]; exact hu1) (by unfold maxLen; omega) (by omega) hbase
  exact ⟨v', w', hr, h2, h3, h5, append_spot w base t ty e i z ht hi hz h1 h8 v n xs hown ad c u hu hu1 hn v' w' hr⟩
theorem wpList_append_spill {P : Program} {w : World} {ops : Array Oper} {rest : List Oper} {o : Oper} {a : Act} {Q : Exit → Act → World → Prop} (hgd : o.guard = none) (s x : Operand) (t : TypeId)
    (ho : o.op = .call { callee := .builtin .append, args := #[s, x], argTypes := #[t, t] }) (base : Nat) (e : TypeId) (i : TypeInfo) (z : Value) (ht : P.underlying t = some (.slice e)) (hi : P.info? e = some i) (hz : i.zero = some z) (h1 : i.size = 1) (h8 : i.bytes = 8) (hzs : z.cells.size = 1)
    (v : Value) (n : Nat) (xs : List Value) (hs : a.eval s = v) (hown : w.ownsRow base e 1 v n xs) (ad : Addr) (c : Nat) (u : Value) (hx : a.eval x = .slice (some ad) 1 c) (hu : w.cell? (ad.add 0) = some u) (hu1 : u.oneCell' = true) (hn : n ≤ 1000000000) (hbase : base ≤ w.heap.size)
    (h : ∀ v' w', w'.ownsRow base e 1 v' (n + 1) (xs ++ [u]) → w.grownBy w' v.ownBlock → (v'.ownBlock = v.ownBlock ∨ v'.ownBlock = some w.heap.size) → Spot w w' v v' n → wpList P ops Q rest (a.put o.dst v') w') : wpList P ops Q (o :: rest) a w :=
  wpList_plain hgd fun _ hK => by
    obtain ⟨v', w', hr, h2, h3, h5, h6⟩ := run_append_spill (P := P) base t o.type e i z ht hi hz h1 h8 hzs v n xs hown ad c u hu hu1 hn hbase
    unfold Oper.wp execOp
    simp only [ho, resolve, invoke, builtin, Sem.run_bind, Sem.run_pure, Result.andThen_ok, List.map_toArray, List.map_cons, List.map_nil, hs, hx, hr]
    exact hK _ _ (h v' w' h2 h3 h5 h6)
theorem step_append_spill {P : Program} (w : World) {ops : Array Oper} {o : Oper} {a : Act} {K : Act → World → Prop} {Q : Exit → Act → World → Prop} {E : Prop} (hgd : o.guard = none) (s x : Operand) (t : TypeId)
    (ho : o.op = .call { callee := .builtin .append, args := #[s, x], argTypes := #[t, t] }) (base : Nat) (e : TypeId) (i : TypeInfo) (z : Value) (ht : P.underlying t = some (.slice e)) (hi : P.info? e = some i) (hz : i.zero = some z) (h1 : i.size = 1) (h8 : i.bytes = 8) (hzs : z.cells.size = 1)
    (v : Value) (n : Nat) (xs : List Value) (hs : a.eval s = v) (hown : w.ownsRow base e 1 v n xs) (ad : Addr) (c : Nat) (u : Value) (hx : a.eval x = .slice (some ad) 1 c) (hu : w.cell? (ad.add 0) = some u) (hu1 : u.oneCell' = true) (hn : n ≤ 1000000000) (hbase : base ≤ w.heap.size)
    (h : ∀ v' w', w'.ownsRow base e 1 v' (n + 1) (xs ++ [u]) → w.grownBy w' v.ownBlock → (v'.ownBlock = v.ownBlock ∨ v'.ownBlock = some w.heap.size) → Spot w w' v v' n → K (a.put o.dst v') w') :
    if Region.wanted o (yielded ops a.tmps) = true then Oper.wp P o a w K Q else E := by
  have hw : Region.wanted o (yielded ops a.tmps) = true := by simp [Region.wanted, hgd]
  rw [if_pos hw]
  obtain ⟨v', w', hr, h2, h3, h5, h6⟩ := run_append_spill (P := P) base t o.type e i z ht hi hz h1 h8 hzs v n xs hown ad c u hu hu1 hn hbase
  unfold Oper.wp execOp
  simp only [ho, resolve, invoke, builtin, Sem.run_bind, Sem.run_pure, Result.andThen_ok, List.map_toArray, List.map_cons, List.map_nil, hs, hx, hr]
  exact h v' w' h2 h3 h5 h6

/-- An append of a slice that may be nil. -/
theorem run_append_any {P : Program} (w : World) (base : Nat) (t ty e : TypeId) (i : TypeInfo) (z : Value) (size bytes : Nat) (ht : P.underlying t = some (.slice e)) (hi : P.info? e = some i) (hz : i.zero = some z)
    (hsize : i.size = size) (hby : i.bytes = bytes) (hzs : z.cells.size = size) (hsz : 0 < size)
    (v : Value) (n : Nat) (xs : List Value) (hown : w.ownsRow base e size v n xs)
    (A : Option Addr) (m c : Nat) (news : List Value) (hl : news.length = m * size) (hA : A = none → m = 0 ∧ c = 0) (hnews : ∀ a, A = some a → ∀ j u, news[j]? = some u → w.cell? (a.add j) = some u) (h1 : ∀ u ∈ news, u.oneCell' = true)
    (h63 : n + m ≤ maxLen) (hbytes : (n + m) * bytes ≤ 140737488355328) (hbase : base ≤ w.heap.size) :
    ∃ v' w', (Builtin.append_ #[t, t] ty #[v, .slice A m c]).run P w = .ok v' w' ∧ w'.ownsRow base e size v' (n + m) (xs ++ news) ∧ w.grownBy w' v.ownBlock ∧ (v'.ownBlock = v.ownBlock ∨ v'.ownBlock = some w.heap.size) := by
  cases A with
  | some a =>
    obtain ⟨v', w', hr, h2, h3, -, h5⟩ := run_append_own_at (P := P) w base t ty e i z size bytes ht hi hz hsize hby hzs hsz v n xs hown a m c news hl (hnews a rfl) h1 h63 hbytes hbase
    exact ⟨v', w', hr, h2, h3, h5⟩
  | none =>
    obtain ⟨rfl, rfl⟩ := hA rfl
    have hn : news = [] := List.eq_nil_of_length_eq_zero (by simpa using hl)
    subst hn
    have gr : ∀ row, w.grownBy w row := fun row => ⟨rfl, rfl, rfl, Nat.le_refl _, fun _ _ _ => rfl⟩
    refine ⟨v, w, ?_, by rw [List.append_nil, Nat.add_zero]; exact hown, gr _, .inl rfl⟩
    rcases hown.2 with ⟨rfl, rfl⟩ | ⟨g, cap, cur, rfl, hb, hg, hle, hc, hs, htk⟩
    · simp [Builtin.append_, run_underlying ht, sizeOf, typeInfo, hi, Builtin.lenOf, Builtin.firstCells]
    · simp [Builtin.append_, run_underlying ht, sizeOf, typeInfo, hi, Builtin.lenOf, Builtin.firstCells, hle, loadCells, storeCells]
theorem wpList_append_any {P : Program} (w : World) {ops : Array Oper} {rest : List Oper} {o : Oper} {a : Act} {Q : Exit → Act → World → Prop} (hgd : o.guard = none) (s x : Operand) (t : TypeId)
    (ho : o.op = .call { callee := .builtin .append, args := #[s, x], argTypes := #[t, t] })
    (base : Nat) (e : TypeId) (i : TypeInfo) (z : Value) (size bytes : Nat) (ht : P.underlying t = some (.slice e)) (hi : P.info? e = some i) (hz : i.zero = some z)
    (hsize : i.size = size) (hby : i.bytes = bytes) (hzs : z.cells.size = size) (hsz : 0 < size)
    (v : Value) (n : Nat) (xs : List Value) (hs : a.eval s = v) (hown : w.ownsRow base e size v n xs)
    (A : Option Addr) (m c : Nat) (news : List Value) (hx : a.eval x = .slice A m c) (hl : news.length = m * size) (hA : A = none → m = 0 ∧ c = 0) (hnews : ∀ ad, A = some ad → ∀ j u, news[j]? = some u → w.cell? (ad.add j) = some u) (h1 : ∀ u ∈ news, u.oneCell' = true)
    (h63 : n + m ≤ maxLen) (hbytes : (n + m) * bytes ≤ 140737488355328) (hbase : base ≤ w.heap.size)
    (h : ∀ v' w', w'.ownsRow base e size v' (n + m) (xs ++ news) → w.grownBy w' v.ownBlock → (v'.ownBlock = v.ownBlock ∨ v'.ownBlock = some w.heap.size) → wpList P ops Q rest (a.put o.dst v') w') :
    wpList P ops Q (o :: rest) a w := by
  refine wpList_plain hgd fun K hK => ?_
  obtain ⟨v', w', hr, h2, h3, h5⟩ := run_append_any (P := P) w base t o.type e i z size bytes ht hi hz hsize hby hzs hsz v n xs hown A m c news hl hA hnews h1 h63 hbytes hbase
  unfold Oper.wp execOp
  simp only [ho, resolve, invoke, builtin, Sem.run_bind, Sem.run_pure, Result.andThen_ok, List.map_toArray, List.map_cons, List.map_nil, hs, hx, hr]
  exact hK _ _ (h v' w' h2 h3 h5)
theorem step_append_any {P : Program} (w : World) {ops : Array Oper} {o : Oper} {a : Act} {K : Act → World → Prop} {Q : Exit → Act → World → Prop} {E : Prop} (hgd : o.guard = none) (s x : Operand) (t : TypeId)
    (ho : o.op = .call { callee := .builtin .append, args := #[s, x], argTypes := #[t, t] })
    (base : Nat) (e : TypeId) (i : TypeInfo) (z : Value) (size bytes : Nat) (ht : P.underlying t = some (.slice e)) (hi : P.info? e = some i) (hz : i.zero = some z)
    (hsize : i.size = size) (hby : i.bytes = bytes) (hzs : z.cells.size = size) (hsz : 0 < size)
    (v : Value) (n : Nat) (xs : List Value) (hs : a.eval s = v) (hown : w.ownsRow base e size v n xs)
    (A : Option Addr) (m c : Nat) (news : List Value) (hx : a.eval x = .slice A m c) (hl : news.length = m * size) (hA : A = none → m = 0 ∧ c = 0) (hnews : ∀ ad, A = some ad → ∀ j u, news[j]? = some u → w.cell? (ad.add j) = some u) (h1 : ∀ u ∈ news, u.oneCell' = true)
    (h63 : n + m ≤ maxLen) (hbytes : (n + m) * bytes ≤ 140737488355328) (hbase : base ≤ w.heap.size)
    (h : ∀ v' w', w'.ownsRow base e size v' (n + m) (xs ++ news) → w.grownBy w' v.ownBlock → (v'.ownBlock = v.ownBlock ∨ v'.ownBlock = some w.heap.size) → K (a.put o.dst v') w') :
    if Region.wanted o (yielded ops a.tmps) = true then Oper.wp P o a w K Q else E := by
  have hw : Region.wanted o (yielded ops a.tmps) = true := by simp [Region.wanted, hgd]
  rw [if_pos hw]
  obtain ⟨v', w', hr, h2, h3, h5⟩ := run_append_any (P := P) w base t o.type e i z size bytes ht hi hz hsize hby hzs hsz v n xs hown A m c news hl hA hnews h1 h63 hbytes hbase
  unfold Oper.wp execOp
  simp only [ho, resolve, invoke, builtin, Sem.run_bind, Sem.run_pure, Result.andThen_ok, List.map_toArray, List.map_cons, List.map_nil, hs, hx, hr]
  exact h v' w' h2 h3 h5

/-- The row without its last cell. -/
theorem owns_shrink {w : World} {base n g cap : Nat} {e : TypeId} {xs : List Value} {u : Value} (h : w.ownsRow base e 1 (.slice (some ⟨g, 0, none⟩) (n + 1) cap) (n + 1) (xs ++ [u])) : w.ownsRow base e 1 (.slice (some ⟨g, 0, none⟩) n cap) n xs := by
  have hl : xs.length = n := by
    have := h.1
    rw [List.length_append, List.length_singleton] at this
    omega
  rcases h.2 with ⟨-, h0⟩ | ⟨g', cap', cur, hv, hb, hg, hle, hc, hs, htk⟩
  · omega
  · injection hv with e1 _ e3
    injection e1 with e1
    injection e1 with e1
    subst e1 e3
    refine ⟨by rw [hl, Nat.mul_one], .inr ⟨_, _, cur, rfl, hb, hg, by omega, hc, hs, ?_⟩⟩
    have e2 : cur.toList.take n = (cur.toList.take ((n + 1) * 1)).take n := by rw [List.take_take, Nat.min_eq_left (by omega)]
    rw [Nat.mul_one, e2, htk, List.take_append_of_le_length (by omega), List.take_of_length_le (by omega)]
/-- The block of a row lies behind a further base. -/
theorem owns_from {w : World} {base b2 n : Nat} {e : TypeId} {v : Value} {xs : List Value} (h : w.ownsRow base e 1 v n xs) (hb : v.ownBlock = some b2) : w.ownsRow b2 e 1 v n xs := by
  refine ⟨h.1, ?_⟩
  rcases h.2 with ⟨rfl, -⟩ | ⟨g, cap, cur, rfl, -, hr⟩
  · cases hb
  · injection hb with hb
    exact .inr ⟨g, cap, cur, rfl, Nat.le_of_eq hb.symm, hr⟩
theorem irow_app' (u : Value) (P : List Int) (x : Int) {w : World} {B : Nat} (h : w.ownsRow B 3 1 u (P.length + 1) (ints P ++ [.int .i64 x])) : w.ownsRow B 3 1 u (P ++ [x]).length (ints (P ++ [x])) := by
  rw [ints_append, List.length_append]; exact h
/-- The row with a number more, and how the old row comes back. -/
theorem Own.spill {w wr w1 : World} {v v' : Value} {H : List Int} {x : Int} {o : Obj} {R : List Rw} (h : Own w wr (irow v H :: R))
    (o1 : w1.ownsRow w.heap.size 3 1 v' (H.length + 1) (ints H ++ [.int .i64 x])) (g1 : (wr.alloc o).grownBy w1 v.ownBlock) (a1 : v'.ownBlock = v.ownBlock ∨ v'.ownBlock = some (wr.alloc o).heap.size) (s1 : Spot (wr.alloc o) w1 v v' H.length) :
    ∃ Y, Own w w1 (irow v' (H ++ [x]) :: Y) ∧ ∀ w2 Z, Own w w2 (irow v' (H ++ [x]) :: (Y ++ Z)) → Own w w2 (irow v H :: (R ++ Z)) := by
  rcases s1 with ⟨g, cap, hv, hv'⟩ | ⟨hb, gn⟩
  · refine ⟨R, Own.iapp h o1 g1 a1, fun w2 Z h2 => ?_⟩
    have o2 : w2.ownsRow w.heap.size 3 1 v' (H ++ [x]).length (ints (H ++ [x])) := h2.hd
    have o3 : w2.ownsRow w.heap.size 3 1 v H.length (ints H) := by
      rw [ints_append, List.length_append] at o2
      subst hv hv'
      exact owns_shrink o2
    exact h2.head (r' := irow v H) (World.grownBy.refl w2 _) o3 (.inl (by subst hv hv'; rfl))
  · have k := h.keep ((Below.refl wr.heap.size wr).alloc (Nat.le_refl _) o)
    have b : Below (wr.alloc o).heap.size (wr.alloc o) w1 := (Below.refl _ _).grown gn (Nat.le_refl _) (fun k e => by cases e)
    have k2 := k.add b (owns_from (irow_app' v' H x o1) hb)
    exact ⟨irow v H :: R, k2, fun w2 Z h2 => h2.tl⟩
/-- Slices so far, and the slices that a call found. -/
def Two (w wr : World) (u : Value) (LL : List (List Int)) (v : Value) (MM : List (List Int)) (X : List Rw) : Prop :=
  ∃ vs us, vs.length = LL.length ∧ us.length = MM.length ∧ Own w wr (orow u vs :: (orow v us :: (inner vs LL ++ inner us MM ++ X)))
theorem OwnSS.spill {w wr w1 : World} {u v v' : Value} {LL : List (List Int)} {H : List Int} {x : Int} {o : Obj} {R : List Rw} (h : OwnSS w wr u LL (irow v H :: R))
    (o1 : w1.ownsRow w.heap.size 3 1 v' (H.length + 1) (ints H ++ [.int .i64 x])) (g1 : (wr.alloc o).grownBy w1 v.ownBlock) (a1 : v'.ownBlock = v.ownBlock ∨ v'.ownBlock = some (wr.alloc o).heap.size) (s1 : Spot (wr.alloc o) w1 v v' H.length) :
    ∃ Y, Own w w1 (irow v' (H ++ [x]) :: Y) ∧ ∀ w2 a MM, OwnSS w w2 a MM (irow v' (H ++ [x]) :: Y) → Two w w2 u LL a MM (irow v H :: R) := by
  obtain ⟨vs, hl, O⟩ := h
  have O2 : Own w wr (irow v H :: (orow u vs :: (inner vs LL ++ R))) := O.perm (List.perm_middle (l₁ := orow u vs :: inner vs LL))
  obtain ⟨Y, hY, hback⟩ := O2.spill o1 g1 a1 s1
  refine ⟨Y, hY, fun w2 a MM ⟨us, hl2, O3⟩ => ⟨vs, us, hl, hl2, ?_⟩⟩
  have O4 := hback w2 (orow a us :: inner us MM) (O3.perm (by
    have h1 : (orow a us :: (inner us MM ++ irow v' (H ++ [x]) :: Y)).Perm (irow v' (H ++ [x]) :: (orow a us :: (inner us MM ++ Y))) := List.perm_middle (l₁ := orow a us :: inner us MM)
    refine h1.trans (.cons _ ?_)
    exact List.perm_append_comm (l₁ := orow a us :: inner us MM) (l₂ := Y)))
  refine O4.perm ?_
  -- irow v H :: ((orow u vs :: (inner vs LL ++ R)) ++ (orow a us :: inner us MM))
  have h2 : ((orow u vs :: (inner vs LL ++ R)) ++ (orow a us :: inner us MM)).Perm (orow u vs :: (orow a us :: (inner vs LL ++ inner us MM ++ R))) := by
    refine .cons _ ?_
    refine (List.perm_middle (l₁ := inner vs LL ++ R)).trans (.cons _ ?_)
    rw [List.append_assoc, List.append_assoc]
    exact List.perm_append_comm.append_left _
  refine (h2.cons _).trans ?_
  exact (List.perm_middle (a := irow v H) (l₁ := orow u vs :: (orow a us :: (inner vs LL ++ inner us MM))) (l₂ := R)).symm
/-- What was found is appended to the slices so far. -/
theorem Two.append {w w1 : World} {u : Value} {A : Option Addr} {c : Nat} {LL MM : List (List Int)} {X : List Rw} (h : Two w w1 u LL (.slice A MM.length c) MM X) :
    ∃ xs news : List Value, w1.ownsRow w.heap.size 27 1 u LL.length xs ∧ news.length = MM.length ∧ (A = none → MM.length = 0 ∧ c = 0) ∧ (∀ x, A = some x → ∀ j v, news[j]? = some v → w1.cell? (x.add j) = some v) ∧ (∀ v ∈ news, v.oneCell' = true) ∧
      ∀ (u' : Value) (w2 : World), w2.ownsRow w.heap.size 27 1 u' (LL.length + MM.length) (xs ++ news) → w1.grownBy w2 u.ownBlock → (u'.ownBlock = u.ownBlock ∨ u'.ownBlock = some w1.heap.size) → OwnSS w w2 u' (LL ++ MM) X := by
  obtain ⟨vs, us, hl, hl2, J2⟩ := h
  have o : w1.ownsRow w.heap.size 27 1 u vs.length vs := J2.hd
  have oo : w1.ownsRow w.heap.size 27 1 (.slice A MM.length c) us.length us := J2.tl.hd
  have K : Own w w1 (orow (.slice A MM.length c) us :: (inner us MM ++ (inner vs LL ++ X))) := J2.tl.perm (.cons _ (by
    rw [← List.append_assoc]
    exact List.perm_append_comm.append_right X))
  refine ⟨vs, us, by rw [← hl]; exact o, hl2, fun hA => ?_, fun x hA => ?_, OwnSS.cells_one hl2 K, fun u' w2 o2 g2 hb => ⟨vs ++ us, by rw [List.length_append, List.length_append]; omega, ?_⟩⟩
  · subst hA
    rcases oo.2 with ⟨hv, h0⟩ | ⟨g, cap, cur, hv, -⟩
    · injection hv with _ h1 h2
      exact ⟨h1, h2⟩
    · injection hv with hv
      cases hv
  · subst hA
    rcases oo.2 with ⟨hv, -⟩ | ⟨g, cap, cur, hv, -⟩
    · injection hv with hv
      cases hv
    · injection hv with hv
      injection hv with hv
      subst hv
      exact fun j v hj => oo.cells (g := g) rfl j v hj
  · have e : (orow u' (vs ++ us)).at w.heap.size w2 := by
      show w2.ownsRow w.heap.size 27 1 u' (vs ++ us).length (vs ++ us)
      rw [List.length_append, hl, hl2]
      exact o2
    have hb2 : u'.ownBlock = u.ownBlock ∨ ∃ k, u'.ownBlock = some k ∧ w1.heap.size ≤ k := by
      rcases hb with hb | hb
      · exact .inl hb
      · exact .inr ⟨_, hb, Nat.le_refl _⟩
    have J3 : Own w w2 (orow u' (vs ++ us) :: (orow (.slice A MM.length c) us :: (inner vs LL ++ inner us MM ++ X))) := J2.head (r' := orow u' (vs ++ us)) g2 e hb2
    have J4 := (J3.perm (.swap _ _ _)).tl
    rw [inner_append hl]
    exact J4
/-- No slice so far: nil. -/
theorem OwnSS.nil {w wr : World} {R : List Rw} (h : Own w wr R) : OwnSS w wr (.slice none 0 0) [] R := by
  refine ⟨[], rfl, ?_⟩
  have o : wr.ownsRow wr.heap.size 27 1 (.slice none 0 0) 0 [] := World.ownsRow_nil _ _ _ _
  exact h.add (Below.refl _ _) o
theorem OwnSS.row {w wr : World} {u v : Value} {LL : List (List Int)} {H : List Int} {R : List Rw} (h : OwnSS w wr u LL (irow v H :: R)) : Own w wr (irow v H :: R) := by
  obtain ⟨vs, hl, O⟩ := h
  have O2 : Own w wr (irow v H :: (orow u vs :: (inner vs LL ++ R))) := O.perm (List.perm_middle (l₁ := orow u vs :: inner vs LL))
  refine ⟨fun p hp => ?_, ?_, O.bel⟩
  · rcases List.mem_cons.1 hp with rfl | hp
    · exact O2.own _ List.mem_cons_self
    · exact O2.own _ (List.mem_cons_of_mem _ (List.mem_cons_of_mem _ (List.mem_append_right _ hp)))
  · have n1 := List.pairwise_cons.1 O2.ne
    have n2 := (List.pairwise_cons.1 n1.2).2
    exact List.pairwise_cons.2 ⟨fun p hp => n1.1 p (List.mem_cons_of_mem _ (List.mem_append_right _ hp)), (List.pairwise_append.1 n2).2.1⟩
/-- Other rows are left aside. -/
theorem OwnSS.less {w wr : World} {u : Value} {LL : List (List Int)} {r : Rw} {R : List Rw} (h : OwnSS w wr u LL (r :: R)) : OwnSS w wr u LL R := by
  obtain ⟨vs, hl, O⟩ := h
  have O2 : Own w wr (r :: (orow u vs :: (inner vs LL ++ R))) := O.perm (List.perm_middle (l₁ := orow u vs :: inner vs LL))
  exact ⟨vs, hl, O2.tl⟩
theorem OwnSS.permR {w wr : World} {u : Value} {LL : List (List Int)} {R R' : List Rw} (h : OwnSS w wr u LL R) (p : R.Perm R') : OwnSS w wr u LL R' := by
  obtain ⟨vs, hl, O⟩ := h
  exact ⟨vs, hl, O.perm (.cons _ (p.append_left _))⟩
/-- One slice was found. -/
theorem OwnSS.copy {w wr : World} {v : Value} {L : List Int} {R : List Rw} (h : Own w wr (irow v L :: R)) : OwnSS w (wr.alloc (.cells #[v] 27)) (.slice (some ⟨wr.heap.size, 0, .none⟩) 1 1) [L] R := OwnSS.one h

/-- A call found slices; the row that it was handed is as it was. -/
def Found (LL : List (List Int)) (w : World) (X : List Rw) (e : Ending) (w' : World) : Prop := ∃ (A : Option Addr) (c : Nat), e = .returned (.slice A LL.length c) ∧ OwnSS w w' (.slice A LL.length c) LL X
theorem OwnSS.found {w wr : World} {v : Value} {LL : List (List Int)} {X : List Rw} (h : OwnSS w wr v LL X) : Found LL w X (.returned v) wr := by
  obtain ⟨A, c, rfl⟩ := h.slice
  exact ⟨A, c, rfl, h⟩
end Go.Proofs.Ytdnjpekclmiliaa
