/-
  The state of the program's search: a map of states and a channel of pourings of the call's own, beside slices of its own; what a send, a receive, a store into the map make of it. No program's walk.
-/
import Derived.Test.YtmoncfplcmdpcaaComm
import Derived.Test.YtmoncfplcmdpcaaJugMap
import Derived.Test.YtmoncfplcmdpcaaPourRow
import Derived.Test.YtmoncfplcmdpcaaJugAns
namespace Go.Proofs.Ytmoncfplcmdpcaa
open Go.ChangeShapes Go.WideShapes Go.ChangeAt Go.RowKit Go.PlainAid Go.Conc

def qbuf (a b : Int) (Q : List Pg) : Array Value := (Q.map fun m => pagg a b m.1.1 m.1.2 m.2.2).toArray
theorem qbuf_push (a b : Int) (Q : List Pg) (m : Pg) : (qbuf a b Q).push (pagg a b m.1.1 m.1.2 m.2.2) = qbuf a b (Q ++ [m]) := by
  unfold qbuf
  rw [List.map_append]
  simp
theorem qbuf_size (a b : Int) (Q : List Pg) : (qbuf a b Q).size = Q.length := by simp [qbuf]
theorem qbuf_pop (a b : Int) (m : Pg) (Q : List Pg) : (qbuf a b (m :: Q)).getD 0 undef = pagg a b m.1.1 m.1.2 m.2.2 ∧ (qbuf a b (m :: Q)).extract 1 (qbuf a b (m :: Q)).size = qbuf a b Q := by
  refine ⟨rfl, ?_⟩
  apply Array.toList_inj.1
  simp [qbuf]
  exact List.take_of_length_le (by rw [List.length_map]; exact Nat.le_refl _)

/-- A row of the call's own, wherever. -/
def RowAt (w wr : World) (r : Rw) : Prop := r.at w.heap.size wr
theorem RowAt.kept {w wr w' : World} {r : Rw} {c : Nat} (h : RowAt w wr r) (hg : wr.grownBy w' (some c)) (hc : ∀ xs t f, wr.heap[c]? ≠ some (.cells xs t f)) : RowAt w w' r := by
  refine World.ownsRow.kept h hg ?_
  rcases h.2 with ⟨e, -⟩ | ⟨g, cap, cur, e, -, hgg, -⟩
  · exact .inl (by rw [e]; rfl)
  · refine .inr ?_
    rw [e]
    intro e2
    injection e2 with e2
    exact hc cur r.e (0, 0) (e2 ▸ hgg)
theorem RowAt.keep {w wr w' : World} {r : Rw} (h : RowAt w wr r) (b : Below wr.heap.size wr w') : RowAt w w' r :=
  World.ownsRow.kept h (below_grown b .none) (by cases q : r.v.ownBlock <;> simp)
theorem RowAt.early {w w1 wr : World} {r : Rw} (h : RowAt w1 wr r) (b : Below w.heap.size w w1) : RowAt w wr r := by
  refine ⟨h.1, h.2.imp id ?_⟩
  rintro ⟨g, cap, cur, e, hb, hr⟩
  exact ⟨g, cap, cur, e, Nat.le_trans b.size hb, hr⟩

structure Bfs (w wr : World) (m c cap : Nat) (a b : Int) (S : List (Int × Int)) (Q : List Pg) (cl : Bool) : Prop where
  bel : Below w.heap.size w wr
  lom : w.heap.size ≤ m
  loc : w.heap.size ≤ c
  map : SMap wr m a b S
  chan : ∃ s r, wr.heap[c]? = some (.chan cap (qbuf a b Q) cl s r false)
  rows : ∀ q ∈ Q, RowAt w wr (irow q.2.2 q.2.1)
section
variable {w wr w' : World} {m c cap : Nat} {a b : Int} {S : List (Int × Int)} {Q : List Pg} {cl : Bool}
theorem SMap.no_cells {wr : World} {m : Nat} {a b : Int} {S : List (Int × Int)} (h : SMap wr m a b S) : ∀ xs t f, wr.heap[m]? ≠ some (.cells xs t f) := fun xs t f e => by
  obtain ⟨es, clock, h1, -⟩ := h
  rw [h1] at e
  cases e
theorem SMap.lt {wr : World} {m : Nat} {a b : Int} {S : List (Int × Int)} (h : SMap wr m a b S) : m < wr.heap.size := by
  obtain ⟨es, clock, h1, -⟩ := h
  exact (Array.getElem?_eq_some_iff.1 h1).1
theorem Bfs.clt (h : Bfs w wr m c cap a b S Q cl) : c < wr.heap.size := by
  obtain ⟨s, r, h1⟩ := h.chan
  exact (Array.getElem?_eq_some_iff.1 h1).1
theorem Bfs.no_cells (h : Bfs w wr m c cap a b S Q cl) : ∀ xs t f, wr.heap[c]? ≠ some (.cells xs t f) := fun xs t f e => by
  obtain ⟨s, r, h1⟩ := h.chan
  rw [h1] at e
  cases e
theorem Bfs.ne (h : Bfs w wr m c cap a b S Q cl) : m ≠ c := fun e => by
  obtain ⟨s, r, h1⟩ := h.chan
  obtain ⟨es, clock, h2, -⟩ := h.map
  rw [← e, h2] at h1
  cases h1
theorem Bfs.keep (h : Bfs w wr m c cap a b S Q cl) (k : Below wr.heap.size wr w') : Bfs w w' m c cap a b S Q cl := by
  obtain ⟨s, r, h1⟩ := h.chan
  exact ⟨h.bel.trans (k.mono h.bel.size), h.lom, h.loc, h.map.keep (k.block m h.map.lt), ⟨s, r, (k.block c h.clt).trans h1⟩, fun q hq => (h.rows q hq).keep k⟩
/-- Something is done to the channel. -/
theorem Bfs.turn (h : Bfs w wr m c cap a b S Q cl) {Q' : List Pg} {cl' : Bool} (s r : Nat) (hr : ∀ q ∈ Q', RowAt w wr (irow q.2.2 q.2.1)) :
    Bfs w (wr.setChan c cap (qbuf a b Q') cl' s r false) m c cap a b S Q' cl' := by
  have hg := grown_setChan wr c cap (qbuf a b Q') cl' s r false
  refine ⟨below_setChan h.bel h.loc _ _ _ _ _ _, h.lom, h.loc, h.map.keep (hg.block m h.map.lt (fun e => h.ne (by injection e))), ⟨s, r, heap_setChan _ _ _ _ _ _ _ _ h.clt⟩, fun q hq => ?_⟩
  exact (hr q hq).kept hg h.no_cells
/-- A state is put into the map. -/
theorem Bfs.put (h : Bfs w wr m c cap a b S Q cl) {s : Int × Int} (k : SMap w' m a b (S ++ [s])) (hg : wr.grownBy w' (some m)) : Bfs w w' m c cap a b (S ++ [s]) Q cl := by
  obtain ⟨s1, r1, h1⟩ := h.chan
  exact ⟨h.bel.grown hg h.bel.size (fun j e => by injection e with e; subst e; exact h.lom), h.lom, h.loc, k, ⟨s1, r1, (hg.block c h.clt (fun e => h.ne (by injection e with e; exact e.symm))).trans h1⟩, fun q hq => (h.rows q hq).kept hg h.map.no_cells⟩
end

/-- Different states of two jugs. -/
theorem states_le {a b : Nat} {L : List (Int × Int)} (hn : L.Nodup) (hv : ∀ s ∈ L, okJ a b s.1 s.2 = true) : L.length ≤ (a + 1) * (b + 1) := by
  have hc : ∀ s ∈ L, (s.1.toNat * (b + 1) + s.2.toNat) < (a + 1) * (b + 1) := fun s hs => by
    have := okJ_iff.1 (hv s hs)
    have h1 : s.1.toNat ≤ a := by omega
    have h2 : s.2.toNat < b + 1 := by omega
    have h3 : s.1.toNat * (b + 1) ≤ a * (b + 1) := Nat.mul_le_mul_right _ h1
    have h4 : (a + 1) * (b + 1) = a * (b + 1) + (b + 1) := Nat.succ_mul a (b + 1)
    omega
  have hp : (L.map fun s => s.1.toNat * (b + 1) + s.2.toNat).Nodup := by
    unfold List.Nodup
    rw [List.pairwise_map]
    refine List.Pairwise.imp_of_mem ?_ hn
    intro s t hs ht hne e
    have h1 := okJ_iff.1 (hv s hs)
    have h2 := okJ_iff.1 (hv t ht)
    have d1 : (s.1.toNat * (b + 1) + s.2.toNat) / (b + 1) = s.1.toNat := by
      rw [Nat.mul_comm, Nat.mul_add_div (by omega), Nat.div_eq_of_lt (by omega)]; omega
    have d2 : (t.1.toNat * (b + 1) + t.2.toNat) / (b + 1) = t.1.toNat := by
      rw [Nat.mul_comm, Nat.mul_add_div (by omega), Nat.div_eq_of_lt (by omega)]; omega
    rw [e, d2] at d1
    rw [d1] at e
    refine hne ?_
    have e1 : s.1 = t.1 := by omega
    have e2 : s.2 = t.2 := by omega
    exact Prod.ext e1 e2
  have := nodup_below ((a + 1) * (b + 1)) _ hp (fun x hx => by
    obtain ⟨s, hs, rfl⟩ := List.mem_map.1 hx
    exact hc s hs)
  rw [List.length_map] at this
  exact this
/-- What a push keeps. -/
def Fine (a b : Nat) (E : List ((Int × Int) × List Int)) : Prop := (E.map Prod.fst).Nodup ∧ ∀ e ∈ E, okJ a b e.1.1 e.1.2 = true
theorem fine_len {a b : Nat} {E : List ((Int × Int) × List Int)} (h : Fine a b E) : E.length ≤ (a + 1) * (b + 1) := by
  have := states_le h.1 (fun s hs => by obtain ⟨e, he, rfl⟩ := List.mem_map.1 hs; exact h.2 e he)
  rw [List.length_map] at this
  exact this
theorem fine_new {a b : Nat} {E : List ((Int × Int) × List Int)} {e : (Int × Int) × List Int} (h : Fine a b E) (he : okJ a b e.1.1 e.1.2 = true) (hn : e.1 ∉ E.map Prod.fst) : Fine a b (E ++ [e]) := by
  refine ⟨?_, fun x hx => ?_⟩
  · rw [List.map_append, List.nodup_append]
    refine ⟨h.1, by simp, ?_⟩
    intro x hx y hy
    simp only [List.map_cons, List.map_nil, List.mem_singleton] at hy
    subst hy
    exact fun g => hn (g ▸ hx)
  · rcases List.mem_append.1 hx with hx | hx
    · exact h.2 x hx
    · rw [List.mem_singleton.1 hx]; exact he
theorem push_fold {E : List ((Int × Int) × List Int)} {N : List ((Int × Int) × List Int)} {j : Nat} {e : (Int × Int) × List Int} (h : N[j]? = some e) : (N.take (j + 1)).foldl push E = push ((N.take j).foldl push E) e := by
  have hj : j < N.length := (List.getElem?_eq_some_iff.1 h).1
  rw [List.take_succ_eq_append_getElem hj, List.foldl_append]
  rw [List.getElem?_eq_getElem hj] at h
  injection h with h
  rw [h]
  rfl
/-- The slice's address is nil only where there is nothing in it. -/
theorem nil_only {w wr : World} {A : Option Addr} {n c : Nat} {L : List Int} (h : RowAt w wr (irow (.slice A n c) L)) : A = none → n = 0 ∧ c = 0 := fun e => by
  subst e
  rcases h.2 with ⟨e, -⟩ | ⟨g, cap, cur, e, -⟩
  · injection e with _ e1 e2
    exact ⟨e1, e2⟩
  · cases e
theorem row_form {w wr : World} {v : Value} {L : List Int} (h : RowAt w wr (irow v L)) : ∃ A c, v = .slice A L.length c := by
  obtain ⟨A, c, e⟩ := own_slice h
  exact ⟨A, c, e⟩
theorem row_reads {w wr : World} {A : Option Addr} {c : Nat} {L : List Int} (h : RowAt w wr (irow (.slice A L.length c) L)) : IntRow wr A L := intRow_own (show wr.ownsRow w.heap.size 3 1 (.slice A L.length c) L.length (ints L) from h)
theorem row_gives {w wr : World} {v : Value} {L : List Int} (h : RowAt w wr (irow v L)) (b : Below w.heap.size w wr) (z : Bool) : GivesSB L z w (.returned (.tuple #[v, .bool z])) wr :=
  Own.givesB ⟨fun p hp => by rw [List.mem_singleton.1 hp]; exact h, List.pairwise_singleton .., b⟩ z
theorem row_nil (w wr : World) : RowAt w wr (irow (.slice .none 0 0) []) := ⟨rfl, .inl ⟨rfl, rfl⟩⟩
end Go.Proofs.Ytmoncfplcmdpcaa
