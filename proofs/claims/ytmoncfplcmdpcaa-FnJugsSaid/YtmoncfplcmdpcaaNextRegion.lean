/-
  What the statement 'list = append(list, pouring{jugs, append(copyOf(p.acts), act)})' leaves, in whatever order its parts were reckoned. No program's walk.
-/
import Derived.Test.YtmoncfplcmdpcaaPourRow
import Derived.Test.YtmoncfplcmdpcaaSpillOne
import Derived.Test.YtmoncfplcmdpcaaAppendAny
namespace Go.Proofs.Ytmoncfplcmdpcaa
open Go.ChangeShapes Go.WideShapes Go.ChangeAt Go.RowKit Go.PlainAid

theorem step_append_any {P : Program} (w : World) {ops : Array Oper} {o : Oper} {a : Act} {K : Act → World → Prop} {Q : Exit → Act → World → Prop} {E : Prop} (hgd : o.guard = none) (s x : Operand) (t : TypeId)
    (ho : o.op = .call { callee := .builtin .append, args := #[s, x], argTypes := #[t, t] })
    (base : Nat) (e : TypeId) (i : TypeInfo) (z : Value) (size bytes : Nat) (ht : P.underlying t = some (.slice e)) (hi : P.info? e = some i) (hz : i.zero = some z)
    (hsize : i.size = size) (hby : i.bytes = bytes) (hzs : z.cells.size = size) (hsz : 0 < size)
    (v : Value) (n : Nat) (xs : List Value) (hs : a.eval s = v) (hown : w.ownsRow base e size v n xs)
    (A : Option Addr) (m c : Nat) (news : List Value) (hx : a.eval x = .slice A m c) (hl : news.length = m * size) (hA : A = none → m = 0 ∧ c = 0) (hnews : ∀ ad, A = some ad → ∀ j u, news[j]? = some u → w.cell? (ad.add j) = some u) (h1 : ∀ u ∈ news, u.oneCell' = true)
    (h63 : n + m ≤ maxLen) (hbytes : (n + m) * bytes ≤ 140737488355328) (hbase : base ≤ w.heap.size)
    (h : ∀ v' w', w'.ownsRow base e size v' (n + m) (xs ++ news) → w.grownBy w' v.ownBlock → (v'.ownBlock = v.ownBlock ∨ v'.ownBlock = some w.heap.size) → K (a.put o.dst v') w') :
    if Region.wanted o (yielded ops a.tmps) = true then Oper.wp P o a w K Q else E := by
  have hw : Region.wanted o (yielded ops a.tmps) = true := by simp [Region.wanted, hgd]
  rw [if_pos hw]
  obtain ⟨v', w', hr, h2, h3, h5⟩ := run_append_any (P := P) w base t o.type e i z size bytes ht hi hz hsize hby hzs hsz v n xs hown A m c news hl hA hnews h1 h63 hbytes hbase
  unfold Oper.wp execOp
  simp only [ho, resolve, invoke, builtin, Sem.run_bind, Sem.run_pure, Result.andThen_ok, List.map_toArray, List.map_cons, List.map_nil, hs, hx, hr]
  exact h v' w' h2 h3 h5

theorem undrew {w w' : World} (b : Below w.drew.heap.size w.drew w') : Below w.heap.size w w' := ⟨b.os, b.tape, b.output, b.size, b.block⟩
theorem call_first {w1 w3 w4 : World} {R : List Rw} {A : Option Addr} {c : Nat} {L : List Int} (O : Own w1 w3 R) (b : Below w3.drew.heap.size w3.drew w4) (o : w4.ownsRow w3.drew.heap.size 3 1 (.slice A L.length c) L.length (ints L)) : Own w1 w4 (irow (.slice A L.length c) L :: R) :=
  O.add (undrew b) o
theorem call_second {w1 w3 w4 : World} {R : List Rw} {A : Option Addr} {c : Nat} {L : List Int} {z : Int} (O : Own w1 w3 R) (b : Below (w3.alloc (.cells #[.int .i64 z] 3)).drew.heap.size (w3.alloc (.cells #[.int .i64 z] 3)).drew w4)
    (o : w4.ownsRow (w3.alloc (.cells #[.int .i64 z] 3)).drew.heap.size 3 1 (.slice A L.length c) L.length (ints L)) : Own w1 w4 (irow (.slice A L.length c) L :: irow (.slice (some ⟨w3.heap.size, 0, none⟩) 1 1) [z] :: R) := by
  have O2 : Own w1 (w3.alloc (.cells #[.int .i64 z] 3)) (irow (.slice (some ⟨w3.heap.size, 0, none⟩) 1 1) [z] :: R) :=
    O.add ((Below.refl _ _).alloc (Nat.le_refl _) _) ⟨rfl, .inr ⟨w3.heap.size, 1, _, rfl, Nat.le_refl _, heap_alloc_new w3 _, Nat.le_refl _, by decide, rfl, rfl⟩⟩
  exact O2.add (undrew b) o
theorem Own.iapp0 {w wr w1 : World} {u u' : Value} {P : List Int} {x : Int} {R : List Rw} (h : Own w wr (irow u P :: R))
    (hown1 : w1.ownsRow w.heap.size 3 1 u' (P.length + 1) (ints P ++ [.int .i64 x])) (hg : wr.grownBy w1 u.ownBlock) (hb : u'.ownBlock = u.ownBlock ∨ u'.ownBlock = some wr.heap.size) : Own w w1 (irow u' (P ++ [x]) :: R) :=
  irow_app u' P x ▸ h.head hg hown1 (hb.imp id fun h => ⟨_, h, Nat.le_refl _⟩)

theorem cell_second {w1 w4 : World} {r : Rw} {R : List Rw} {q : Nat} {z : Int} (O : Own w1 w4 (r :: irow (.slice (some ⟨q, 0, none⟩) 1 1) [z] :: R)) : w4.cell? ((⟨q, 0, none⟩ : Addr).add 0) = some (.int .i64 z) := by
  have o : w4.ownsRow w1.heap.size 3 1 (.slice (some ⟨q, 0, none⟩) 1 1) 1 (ints [z]) := O.tl.hd
  exact o.cells (g := q) rfl 0 _ rfl
theorem own_slice1 {w wr : World} {v : Value} {L : List Int} {z : Int} {R : List Rw} (h : Own w wr (irow v (L ++ [z]) :: R)) : ∃ A c, v = .slice A (L.length + 1) c := by
  obtain ⟨A, c, e⟩ := own_slice h.hd
  refine ⟨A, c, e.trans ?_⟩
  show Value.slice A (L ++ [z]).length c = _
  rw [List.length_append, List.length_singleton]
/-- Behind the statement. -/
def Nexted (w1 : World) (a b : Int) (M : List Pg) (X Y : Int) (L' : List Int) (s3 : Value) (wx : World) : Prop :=
  ∃ s, Own w1 wx (prow s3 a b (M ++ [((X, Y), L', s)]) :: lrows (M ++ [((X, Y), L', s)]))
theorem nexted {w1 w5 w6 : World} {a b X Y : Int} {M : List Pg} {L' : List Int} {v5 u3 v6 : Value} {g : Nat} {ob : Obj} (O : Own w1 w5 (irow v5 L' :: jrow g a b X Y :: prow u3 a b M :: lrows M))
    (o6 : w6.ownsRow w1.heap.size 52 5 v6 (M.length + 1) (pcells a b M ++ [.int .i64 a, .int .i64 b, .int .i64 X, .int .i64 Y, v5])) (g6 : (w5.alloc ob).grownBy w6 u3.ownBlock) (a6 : v6.ownBlock = u3.ownBlock ∨ v6.ownBlock = some (w5.alloc ob).heap.size) : Nexted w1 a b M X Y L' v6 w6 := by
  have O1 := (O.third.keep ((Below.refl w5.heap.size w5).alloc (Nat.le_refl _) ob)).head (r' := ⟨52, 5, v6, M.length + 1, pcells a b M ++ [.int .i64 a, .int .i64 b, .int .i64 X, .int .i64 Y, v5]⟩) g6 o6 (a6.imp id fun h => ⟨_, h, Nat.le_refl _⟩)
  have e : (⟨52, 5, v6, M.length + 1, pcells a b M ++ [.int .i64 a, .int .i64 b, .int .i64 X, .int .i64 Y, v5]⟩ : Rw) = prow v6 a b (M ++ [((X, Y), L', v5)]) := by
    unfold prow
    rw [pcells_app, List.length_append]; rfl
  rw [e] at O1
  have O2 := O1.sub (R' := prow v6 a b (M ++ [((X, Y), L', v5)]) :: irow v5 L' :: lrows M) (.cons_cons _ (.cons_cons _ (.cons _ (List.Sublist.refl _))))
  refine ⟨v5, O2.perm ?_⟩
  rw [lrows_app]
  exact List.Perm.cons _ (List.perm_append_singleton _ _).symm
end Go.Proofs.Ytmoncfplcmdpcaa
