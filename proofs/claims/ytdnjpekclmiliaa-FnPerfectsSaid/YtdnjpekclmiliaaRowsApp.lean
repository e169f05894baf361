/-
  Appends to a slice of slices of the call's own; an append as one step of a region that draws its order. No program's walk.
-/
import Derived.Test.YtdnjpekclmiliaaRowsOf
import Derived.Maps.AppendAt
import Derived.RegionTactic
namespace Go.Proofs.Ytdnjpekclmiliaa
open Go.ChangeShapes Go.WideShapes Go.ChangeAt Go.RowKit Go.PlainAid

/-- An append of what may be nothing, at a step of a region that draws. -/
theorem step_append_at {P : Program} (w : World) {ops : Array Oper} {o : Oper} {a : Act} {K : Act → World → Prop} {Q : Exit → Act → World → Prop} {E : Prop} (hgd : o.guard = none) (s x : Operand) (t : TypeId)
    (ho : o.op = .call { callee := .builtin .append, args := #[s, x], argTypes := #[t, t] })
    (base : Nat) (e : TypeId) (i : TypeInfo) (z : Value) (size bytes : Nat) (ht : P.underlying t = some (.slice e)) (hi : P.info? e = some i) (hz : i.zero = some z)
    (hsize : i.size = size) (hby : i.bytes = bytes) (hzs : z.cells.size = size) (hsz : 0 < size)
    (v : Value) (n : Nat) (xs : List Value) (hs : a.eval s = v) (hown : w.ownsRow base e size v n xs)
    (ad : Addr) (m c : Nat) (news : List Value) (hx : a.eval x = .slice (some ad) m c) (hl : news.length = m * size) (hnews : ∀ j u, news[j]? = some u → w.cell? (ad.add j) = some u) (h1 : ∀ u ∈ news, u.oneCell' = true)
    (h63 : n + m ≤ maxLen) (hbytes : (n + m) * bytes ≤ 140737488355328) (hbase : base ≤ w.heap.size)
    (h : ∀ v' w', w'.ownsRow base e size v' (n + m) (xs ++ news) → w.grownBy w' v.ownBlock → (v' = .slice none 0 0 ↔ v = .slice none 0 0 ∧ m = 0) → (v'.ownBlock = v.ownBlock ∨ v'.ownBlock = some w.heap.size) → K (a.put o.dst v') w') :
    if Region.wanted o (yielded ops a.tmps) = true then Oper.wp P o a w K Q else E := by
  have hw : Region.wanted o (yielded ops a.tmps) = true := by simp [Region.wanted, hgd]
  rw [if_pos hw]
  obtain ⟨v', w', hr, h2, h3, h4, h5⟩ := run_append_own_at (P := P) w base t o.type e i z size bytes ht hi hz hsize hby hzs hsz v n xs hown ad m c news hl hnews h1 h63 hbytes hbase
  unfold Oper.wp execOp
  simp only [ho, resolve, invoke, builtin, Sem.run_bind, Sem.run_pure, Result.andThen_ok, List.map_toArray, List.map_cons, List.map_nil, hs, hx, hr]
  exact h v' w' h2 h3 h4 h5

theorem own_some {w : World} {base n : Nat} {e : TypeId} {v : Value} {xs : List Value} (h : w.ownsRow base e 1 v n xs) (hv : v ≠ .slice none 0 0) : ∃ g c, v = .slice (some ⟨g, 0, .none⟩) n c ∧ base ≤ g ∧ g < w.heap.size := by
  rcases h.2 with ⟨h0, -⟩ | ⟨g, cap, cur, hg, hb, hc, -⟩
  · exact absurd h0 hv
  · exact ⟨g, cap, hg, hb, (Array.getElem?_eq_some_iff.1 hc).1⟩
theorem OwnSS.cells_one {w wr : World} {v : Value} {LL : List (List Int)} {R : List Rw} {vs : List Value} (hl : vs.length = LL.length) (O : Own w wr (orow v vs :: (inner vs LL ++ R))) : ∀ u ∈ vs, u.oneCell' = true := fun u hu => by
  obtain ⟨i, hi, rfl⟩ := List.mem_iff_getElem.1 hu
  have m := inner_mem hl (i := i) (by omega)
  have p : wr.ownsRow w.heap.size 3 1 vs[i] (LL[i]'(by omega)).length (ints (LL[i]'(by omega))) := O.own _ (List.mem_cons_of_mem _ (List.mem_append_left _ m))
  obtain ⟨B, d, hv⟩ := own_slice p
  rw [hv]
  simp [Value.oneCell']
/-- The answer of a call is appended to the slices so far. -/
theorem OwnSS.append {w wr w1 : World} {u : Value} {x : Addr} {c : Nat} {LL MM : List (List Int)} {R : List Rw} (h : OwnSS w wr u LL R) (k : OwnSS wr w1 (.slice (some x) MM.length c) MM []) :
    ∃ xs news : List Value, w1.ownsRow w.heap.size 27 1 u LL.length xs ∧ news.length = MM.length ∧ (∀ j v, news[j]? = some v → w1.cell? (x.add j) = some v) ∧ (∀ v ∈ news, v.oneCell' = true) ∧
      ∀ (u' : Value) (w2 : World), w2.ownsRow w.heap.size 27 1 u' (LL.length + MM.length) (xs ++ news) → w1.grownBy w2 u.ownBlock → (u'.ownBlock = u.ownBlock ∨ u'.ownBlock = some w1.heap.size) → OwnSS w w2 u' (LL ++ MM) R := by
  obtain ⟨vs, hl, O⟩ := h
  obtain ⟨us, hl2, O2⟩ := k
  have J := O.join O2
  rw [List.append_nil] at J
  have J2 : Own w w1 (orow u vs :: (orow (.slice (some x) MM.length c) us :: (inner vs LL ++ R ++ inner us MM))) :=
    J.perm (by
      have h1 : ((orow (.slice (some x) MM.length c) us :: inner us MM) ++ orow u vs :: (inner vs LL ++ R)).Perm (orow u vs :: ((orow (.slice (some x) MM.length c) us :: inner us MM) ++ (inner vs LL ++ R))) := List.perm_middle
      refine h1.trans (.cons _ ?_)
      exact .cons _ List.perm_append_comm)
  have o : w1.ownsRow w.heap.size 27 1 u vs.length vs := J2.hd
  refine ⟨vs, us, by rw [← hl]; exact o, hl2, ?_, OwnSS.cells_one hl2 O2, fun u' w2 o2 g2 hb => ⟨vs ++ us, by rw [List.length_append, List.length_append]; omega, ?_⟩⟩
  · have oo : w1.ownsRow wr.heap.size 27 1 (.slice (some x) MM.length c) us.length us := O2.hd
    rcases oo.2 with ⟨hv, -⟩ | ⟨g, cap, cur, hv, -⟩
    · injection hv with hv
      cases hv
    · injection hv with hv
      injection hv with hv
      subst hv
      exact fun j v hj => oo.cells (g := g) rfl j v hj
  · have e : (orow u' (vs ++ us)).at w.heap.size w2 := by
      show w2.ownsRow w.heap.size 27 1 u' (vs ++ us).length (vs ++ us)
      rw [List.length_append, hl, hl2]
      exact o2
    have hb2 : u'.ownBlock = u.ownBlock ∨ ∃ k, u'.ownBlock = some k ∧ w1.heap.size ≤ k := by
      rcases hb with hb | hb
      · exact .inl hb
      · exact .inr ⟨_, hb, Nat.le_refl _⟩
    have J3 : Own w w2 (orow u' (vs ++ us) :: (orow (.slice (some x) MM.length c) us :: (inner vs LL ++ R ++ inner us MM))) := J2.head (r' := orow u' (vs ++ us)) g2 e hb2
    have J4 := (J3.perm (.swap _ _ _)).tl
    refine J4.perm (.cons _ ?_)
    rw [inner_append hl, List.append_assoc, List.append_assoc]
    exact List.perm_append_comm.append_left _
/-- The slices that a call with further rows about made, seen from before those rows. -/
theorem OwnSS.from {w wr w1 : World} {v : Value} {LL : List (List Int)} (h : OwnSS wr w1 v LL []) (b : Below w.heap.size w wr) : OwnSS w w1 v LL [] := by
  obtain ⟨vs, hl, O⟩ := h
  have := ((Own.none w).keep b).join O
  rw [List.append_nil] at this
  exact ⟨vs, hl, this⟩
/-- No slice so far. -/
theorem OwnSS.empty {w wr : World} {R : List Rw} (h : Own w wr R) : OwnSS w (wr.alloc (.cells #[] 27)) (.slice (some ⟨wr.heap.size, 0, .none⟩) 0 0) [] R :=
  ⟨[], rfl, h.add ((Below.refl _ _).alloc (Nat.le_refl _) _) (World.ownsRow_made wr #[] 0 (Nat.le_refl _) (by decide) rfl)⟩
/-- One slice was built out of a row. -/
theorem OwnSS.one {w wr : World} {v : Value} {L : List Int} {R : List Rw} (h : Own w wr (irow v L :: R)) : OwnSS w (wr.alloc (.cells #[v] 27)) (.slice (some ⟨wr.heap.size, 0, .none⟩) 1 1) [L] R := by
  refine ⟨[v], rfl, ?_⟩
  have o : (wr.alloc (.cells #[v] 27)).ownsRow wr.heap.size 27 1 (.slice (some ⟨wr.heap.size, 0, .none⟩) 1 1) 1 [v] :=
    ⟨rfl, .inr ⟨wr.heap.size, 1, #[v], rfl, Nat.le_refl _, heap_alloc_new wr _, Nat.le_refl _, by decide, rfl, rfl⟩⟩
  exact h.add ((Below.refl _ _).alloc (Nat.le_refl _) _) o
end Go.Proofs.Ytdnjpekclmiliaa
