/-
  The contract of the program's search for the first list of acts. Only new memory is written.
-/
import Derived.Test.YtmoncfplcmdpcaaBfs
import Derived.Test.YtmoncfplcmdpcaaImplNext
import Derived.Conc.SmallLaws
import Derived.Conc.LoneSelectN
namespace Go.Proofs.Ytmoncfplcmdpcaa
open Go.ChangeShapes Go.WideShapes Go.ChangeAt Go.RowKit Go.PlainAid Go.Conc

theorem make_chan (n : Nat) (hn : n ≤ 1000) (w : World) : (Instr.makeChan 50 (.int .i64 n)).run Try.prog w = .ok (.chan (some w.heap.size)) (w.alloc (.chan n #[] false 0 0 false)) := by
  obtain ⟨i1, hi1, hq0, hq1, hq2⟩ := info_parts Try.infoPourT
  exact run_makeChan (P := Try.prog) Try.underlying50 hi1 .i64 n (by omega) (by rw [hq2]; omega)

theorem make_map (w : World) : (Instr.makeMap 49 none).run Try.prog w = .ok (.map (some w.heap.size)) (w.alloc (.map #[] 0)) := by first | rfl | kernel_rfl

/-- The search's state ahead of a further pouring; n falls. -/
def Top (w : World) (m c cap A B : Nat) (g : Int) (n : Nat) (wr : World) : Prop :=
  ∃ (E : List ((Int × Int) × List Int)) (k : Nat) (Q : List Pg) (cl : Bool), n + k = cap + 1 ∧ Queue (stp A B) (gl g) (0, 0) E k 1 ∧ Fine A B E ∧ bare Q = E.drop k ∧ (cl = true ↔ Q = []) ∧ Bfs w wr m c cap A B (E.map Prod.fst) Q cl
/-- .. while its further ones are looked at. -/
def Mid (w : World) (m c cap A B : Nat) (E : List ((Int × Int) × List Int)) (k : Nat) (M : List Pg) (v : Value) (j : Nat) (wr : World) : Prop :=
  ∃ Q : List Pg, Fine A B (((bare M).take j).foldl push E) ∧ k + 1 ≤ (((bare M).take j).foldl push E).length ∧ bare Q = (((bare M).take j).foldl push E).drop (k + 1) ∧ Bfs w wr m c cap A B ((((bare M).take j).foldl push E).map Prod.fst) Q false ∧ RowAt w wr (prow v A B M) ∧ ∀ q ∈ M, RowAt w wr (irow q.2.2 q.2.1)

set_option maxRecDepth 100000 in
set_option maxHeartbeats 4000000 in
theorem implFirst_any (A B : Nat) (g : Int) (l : List Int) (ok : Bool) (w : World) (hA : 1 ≤ A ∧ A ≤ 20) (hB : 1 ≤ B ∧ B ≤ 20) (hr : BestOf (stp A B) (gl g) (0, 0) l ok) :
    Calls Try.prog 27 #[jagg A B 0 0, .int .i64 g] w (GivesSB l ok w) := by
  obtain ⟨cap, hcap⟩ : ∃ cap, (A + 1) * (B + 1) = cap := ⟨_, rfl⟩
  have hcapi : ((A : Int) + 1) * ((B : Int) + 1) = (cap : Int) := by rw [← hcap]; simp
  have hcap1 : 1 ≤ cap ∧ cap ≤ 441 := by
    have h1 := Nat.mul_le_mul (show A + 1 ≤ 21 by omega) (show B + 1 ≤ 21 by omega)
    have h2 := Nat.mul_le_mul (show 1 ≤ A + 1 by omega) (show 1 ≤ B + 1 by omega)
    omega
  have hmc := fun W => make_chan cap (by omega) W
  have hmm := make_map
  obtain ⟨p, hp⟩ : ∃ p, w.heap.size = p := ⟨_, rfl⟩
  obtain ⟨w1, hw1⟩ : ∃ w1, w.alloc (jobj A B 0 0 30) = w1 := ⟨_, rfl⟩
  have hb1 : Below w.heap.size w w1 := by rw [← hw1]; exact (Below.refl _ _).alloc (Nat.le_refl _) _
  have pj : JBox w1 p A B 0 0 := by rw [← hw1, ← hp]; exact JBox.new w A B 0 0
  obtain ⟨m, hm⟩ : ∃ m, w1.heap.size = m := ⟨_, rfl⟩
  have hpm : p < m := by rw [← hm]; exact pj.lt
  have hM1 := SMap.made w1 A B
  rw [hm] at hM1
  have hb2 : Below w.heap.size w (w1.alloc (.map #[] 0)) := hb1.alloc hb1.size _
  have pj2 := pj.alloc (.map #[] 0)
  have hm1 : w.heap.size ≤ m := by rw [← hm]; exact hb1.size
  obtain ⟨w2, hput, hM2, hg2, hs2⟩ := hM1.put (x := 0) (y := 0) (by simp)
  have pj3 : JBox w2 p A B 0 0 := (hg2.block p (by simp; omega) (fun e => by injection e; omega)).trans pj2
  have hb3 : Below w.heap.size w w2 := hb2.grown hg2 hb2.size (fun k e => by injection e with e; omega)
  obtain ⟨c0, c1, c2, c3⟩ := pj2.cells
  obtain ⟨d0, d1, d2, d3⟩ := pj3.cells
  obtain ⟨c, hc⟩ : ∃ c, w2.heap.size = c := ⟨_, rfl⟩
  obtain ⟨w3, hw3⟩ : ∃ w3, w2.alloc (.chan cap #[] false 0 0 false) = w3 := ⟨_, rfl⟩
  clear hb2 hM1 hg2 hb1 pj2 pj hs2
  refine calls_of_walks Try.func27 rfl (fun b hb => ?_)
  simp only [Try.ntmps27, List.size_toArray, List.length_cons, List.length_nil, Nat.reduceAdd, Nat.reduceSub, Array.replicate_succ, Array.replicate_zero, List.push_toArray, List.append_toArray, List.nil_append, List.cons_append]
  refine walks_first (fun K hK => ?_)
  go_wp2_with fail
  refine walks_first (fun K hK => ?_)
  go_wp2_with fail
  refine walks_first (fun K hK => ?_)
  go_wp2_with fail
  clear c0 c1 c2 c3 d0 d1 d2 d3 hput hmm hmc hpm
  have hch : w3.heap[c]? = some (.chan cap #[] false 0 0 false) := by rw [← hw3, ← hc]; exact heap_alloc_new w2 _
  have pj4 : JBox w3 p A B 0 0 := by rw [← hw3]; exact pj3.alloc _
  have b4 : Below w.heap.size w w3 := by rw [← hw3]; exact hb3.alloc hb3.size _
  have hM4 : SMap w3 m A B [(0, 0)] := by rw [← hw3]; exact hM2.keep (Below.heap_alloc w2 _ _ hM2.lt)
  have B0 : Bfs w w3 m c cap A B [(0, 0)] [] false := ⟨b4, hm1, by rw [← hc]; exact hb3.size, hM4, ⟨0, 0, hch⟩, fun q hq => by cases hq⟩
  obtain ⟨d0, d1, d2, d3⟩ := pj4.cells
  clear hM4 hM2 b4 pj4 pj3 hb3 hw3 hc hm hw1 hp hm1
  refine walks_seq (walks_region ?_)
  show Does _ _ _ _ [0, 1, 2, 3] _ _
  have hbe : b.kind ≠ .early := by rw [hb]; decide
  refine does_value (v := .chan (some c)) rfl rfl (by go_simp) ?_
  walk_nrm
  refine does_value (v := jagg A B 0 0) rfl rfl (by go_simp) ?_
  walk_nrm
  refine does_value (v := pagg A B 0 0 (.slice none 0 0)) rfl rfl (by go_simp) ?_
  walk_nrm
  refine does_send (c := c) (cap := cap) (buf := #[]) (s := 0) (r := 0) (tm := false) (v := pagg A B 0 0 (.slice none 0 0)) (z' := .tuple #[]) hbe rfl rfl (by simp [execOp, scase, Act.eval]) hch (by simp; omega) ?_
  walk_nrm
  have B1 : Bfs w (w3.setChan c cap #[pagg A B 0 0 (.slice none 0 0)] false 1 0 false) m c cap A B [(0, 0)] [((0, 0), [], .slice none 0 0)] false := B0.turn (Q' := [((0, 0), [], .slice none 0 0)]) (cl' := false) 1 0 (fun q hq => by rw [List.mem_singleton.1 hq]; exact row_nil w w3)
  refine does_end ?_
  clear hch d0 d1 d2 d3 B0
  have T0 : Top w m c cap A B g (cap + 1) (w3.setChan c cap #[pagg A B 0 0 (.slice none 0 0)] false 1 0 false) :=
    ⟨[((0, 0), [])], 0, [((0, 0), [], .slice none 0 0)], false, rfl, Queue.start (stp_act A B) (0, 0), ⟨by simp, fun e he => by rw [List.mem_singleton.1 he]; exact okJ_yes (by dsimp only; omega)⟩, rfl, by simp, B1⟩
  clear B1
  generalize w3.setChan c cap #[pagg A B 0 0 (.slice none 0 0)] false 1 0 false = w4 at T0 ⊢
  show Walks _ _ _ _ _ _
  refine walks_seq (walks_first (fun K hK => ?_))
  go_wp2_with fail
  refine walks_block (walks_count (fun n a' wr => ∃ x0 x2 x3 x4 x5 x8 x9 x10 x11 x12 x13 x14 x15 x16 x17 x18 x19 x20 x21 x22 x23 x24 x26 x27 x28 x29 x30 x31 x32 x33 x34 x35 x36 x37 x38 x39 x40 x41 x42 x43 x44 x45 x46 x47 x48 x49 x50 x51 x52 x53 x54 x55 x56 x57 x58 x59 x60 x61 x62 x63 x64 x65 : Value, Top w m c cap A B g n wr ∧ a' = ⟨#[x0, .int .i64 g, x2, x3, x4, x5, .map (some m), .chan (some c), x8, x9, x10, x11, x12, x13, x14, x15, x16, x17, x18, x19, x20, x21, x22, x23, x24, .chan (some c), x26, x27, x28, x29, x30, x31, x32, x33, x34, x35, x36, x37, x38, x39, x40, x41, x42, x43, x44, x45, x46, x47, x48, x49, x50, x51, x52, x53, x54, x55, x56, x57, x58, x59, x60, x61, x62, x63, x64, x65], []⟩) (cap + 1) ⟨_, _, _, _, _, _, _, _, _, _, _, _, _, _, _, _, _, _, _, _, _, _, _, _, _, _, _, _, _, _, _, _, _, _, _, _, _, _, _, _, _, _, _, _, _, _, _, _, _, _, _, _, _, _, _, _, _, _, _, _, _, _, T0, rfl⟩ ?_)
  clear T0
  rintro n - wr ⟨x0, x2, x3, x4, x5, x8, x9, x10, x11, x12, x13, x14, x15, x16, x17, x18, x19, x20, x21, x22, x23, x24, x26, x27, x28, x29, x30, x31, x32, x33, x34, x35, x36, x37, x38, x39, x40, x41, x42, x43, x44, x45, x46, x47, x48, x49, x50, x51, x52, x53, x54, x55, x56, x57, x58, x59, x60, x61, x62, x63, x64, x65, hT, rfl⟩
  obtain ⟨E, k, Q, cl, hnk, hE, hF, hQ, hcl, hB⟩ := hT
  obtain ⟨s, r, hch⟩ := hB.chan
  refine walks_seq (walks_region ?_)
  show Does _ _ _ _ [0, 1] _ _
  rcases Q with _ | ⟨q, Q⟩
  · obtain rfl : cl = true := hcl.2 rfl
    have hEk : E.length ≤ k := by
      have := congrArg List.length hQ
      rw [List.length_drop] at this
      simp only [bare, List.map_nil, List.length_nil] at this
      omega
    obtain ⟨rfl, rfl⟩ := best_same _ _ (stp_act A B) (Queue.never (stp_act A B) hE hEk) hr
    have hend := row_gives (row_nil w wr) hB.bel false
    refine does_recv_shut true (c := c) (cap := cap) (s := s) (r := r) (tm := false) (z := .agg #[.int .i64 0, .int .i64 0, .int .i64 0, .int .i64 0, .slice none 0 0]) hbe rfl rfl (by simp [go_sem, rcase]) hch ?_
    simp only [got, if_true]
    walk_nrm
    refine does_value (v := .bool false) rfl rfl (by go_simp) ?_
    walk_nrm
    refine does_end ?_
    show Walks _ _ _ _ _ _
    clear hch hB hE hQ hF hcl hr
    refine walks_first (fun K hK => ?_)
    go_wp2_with fail
    refine walks_wp ?_
    go_wp2_with fail
    go_ret2
    exact hend
  · obtain rfl : cl = false := by
      rcases cl with _ | _
      · rfl
      · exact absurd (hcl.1 rfl) (by simp)
    have hEk : E[k]? = some (q.1, q.2.1) := by
      have := congrArg (fun L => L[0]?) hQ
      simp only [List.getElem?_drop, Nat.add_zero] at this
      exact this.symm
    have hQ1 : bare Q = E.drop (k + 1) := by
      have := congrArg List.tail hQ
      rw [List.tail_drop] at this
      exact this
    have B2 : Bfs w (wr.setChan c cap (qbuf A B Q) false s (r + 1) false) m c cap A B (E.map Prod.fst) Q false := hB.turn s (r + 1) (fun x hx => hB.rows x (List.mem_cons_of_mem _ hx))
    have rq := (hB.rows q List.mem_cons_self).kept (grown_setChan wr c cap (qbuf A B Q) false s (r + 1) false) hB.no_cells
    have hpop := qbuf_pop A B q Q
    refine does_recv true (c := c) (cap := cap) (s := s) (r := r) (tm := false) (z := .agg #[.int .i64 0, .int .i64 0, .int .i64 0, .int .i64 0, .slice none 0 0]) hbe rfl rfl (by simp [go_sem, rcase]) hch (by rw [qbuf_size]; simp) ?_
    rw [hpop.1, hpop.2]
    simp only [got, if_true]
    walk_nrm
    refine does_value (v := .bool true) rfl rfl (by go_simp) ?_
    walk_nrm
    refine does_end ?_
    show Walks _ _ _ _ _ _
    clear hch hB hpop hcl
    generalize wr.setChan c cap (qbuf A B Q) false s (r + 1) false = w5 at B2 rq ⊢
    obtain ⟨⟨x, y⟩, L, u⟩ := q
    dsimp only at hEk rq
    obtain ⟨Au, cu, rfl⟩ := row_form rq
    have hL : L.length ≤ 1000000 := by
      have h1 := hE.len k _ hEk
      have h2 := fine_len hF
      have h3 := (List.getElem?_eq_some_iff.1 hEk).1
      dsimp only at h1
      omega
    refine walks_first (fun K hK => ?_)
    go_wp2_with fail
    refine walks_block ?_
    obtain ⟨g8, hg8⟩ : ∃ g8, w5.heap.size = g8 := ⟨_, rfl⟩
    obtain ⟨w6, hw6⟩ : ∃ w6, w5.alloc (.cells #[.int .i64 A, .int .i64 B, .int .i64 x, .int .i64 y, .slice Au L.length cu] 52) = w6 := ⟨_, rfl⟩
    have bl6 : Below w5.heap.size w5 w6 := by rw [← hw6]; exact (Below.refl _ _).alloc (Nat.le_refl _) _
    have p8 : w6.heap[g8]? = some (.cells #[.int .i64 A, .int .i64 B, .int .i64 x, .int .i64 y, .slice Au L.length cu] 52) := by rw [← hw6, ← hg8]; exact heap_alloc_new w5 _
    have B6 := B2.keep bl6
    have r6 := rq.keep bl6
    have hc8 : c < g8 := by rw [← hg8]; exact B2.clt
    obtain ⟨a0, a1, a2, a3, a4⟩ := pbox_cells p8
    clear B2 rq bl6
    refine walks_first (fun K hK => ?_)
    go_wp2_with fail
    clear hw6 hg8
    by_cases hgl : x = g ∨ y = g
    · obtain ⟨rfl, rfl⟩ := best_same _ _ (stp_act A B) (Queue.found (stp_act A B) hE hEk (gl_iff.2 hgl)) hr
      obtain ⟨s6, r6', hch6⟩ := B6.chan
      obtain ⟨w7, hw7⟩ : ∃ w7, w6.setChan c cap (qbuf A B Q) true s6 r6' false = w7 := ⟨_, rfl⟩
      have hcls : ∀ ats ty, (Builtin.close_ ats ty #[.chan (some c)]).run Try.prog w6 = .ok (.tuple #[]) w7 := fun ats ty => by rw [← hw7]; exact run_close_open (P := Try.prog) (w := w6) ats ty hch6
      have gr7 : w6.grownBy w7 (some c) := by rw [← hw7]; exact grown_setChan w6 c cap (qbuf A B Q) true s6 r6' false
      have b7 : Below w.heap.size w w7 := B6.bel.grown gr7 B6.bel.size (fun j e => by injection e with e; subst e; exact B6.loc)
      have r7 := r6.kept gr7 B6.no_cells
      have p87 : w7.heap[g8]? = some (.cells #[.int .i64 A, .int .i64 B, .int .i64 x, .int .i64 y, .slice Au L.length cu] 52) := (gr7.block g8 (Array.getElem?_eq_some_iff.1 p8).1 (fun e => by injection e; omega)).trans p8
      obtain ⟨k0, k1, k2, k3, k4⟩ := pbox_cells p87
      have hend := row_gives r7 b7 true
      clear hch6 hw7 gr7 b7 r7 p87 B6 r6 hE hEk hQ hF hQ1 p8 hr
      refine walks_first (fun K hK => ?_)
      by_cases hx : x = g
      · have e1 : (x == g) = true := by simp [hx]
        clear hgl hx
        go_wp2_with fail
        go_ret2
        exact hend
      · have e1 : (x == g) = false := by simp [hx]
        have e2 : (y == g) = true := by simp [hgl.resolve_left hx]
        clear hgl hx
        go_wp2_with fail
        go_ret2
        exact hend
    · have hng : gl g (x, y) = false := by
        rw [Bool.eq_false_iff]
        exact fun e => hgl (gl_iff.1 e)
      have n1 : ¬ x = g := fun e => hgl (.inl e)
      have n2 : ¬ y = g := fun e => hgl (.inr e)
      have e1 : (x == g) = false := by simp [n1]
      have e2 : (y == g) = false := by simp [n2]
      clear hgl n1 n2
      have hN := fun W (h : IntRow W Au L) => implNext_any A B x y Au cu L.length L W rfl hL (nil_only r6) h
      have hrd := row_reads r6
      refine walks_first (fun K hK => ?_)
      go_wp2_with fail
      clear e1 e2
      refine walks_seq (walks_first (fun K hK => ?_))
      go_wp2_with fail
      refine (hN _ hrd).mono ?_
      rintro e w7 ⟨v, M, hM, rfl, O⟩
      obtain ⟨Av, cv, hv⟩ := own_slice O.hd
      replace hv : v = .slice Av M.length cv := hv
      subst hv
      have B7 := B6.keep O.bel
      have rv : RowAt w w7 (prow (.slice Av M.length cv) A B M) := RowAt.early (w1 := w6) O.hd B6.bel
      have rM : ∀ q ∈ M, RowAt w w7 (irow q.2.2 q.2.1) := fun q hq => RowAt.early (w1 := w6) (O.own _ (List.mem_cons_of_mem _ (List.mem_map.2 ⟨q, hq, rfl⟩))) B6.bel
      have hkE : k + 1 ≤ E.length := (List.getElem?_eq_some_iff.1 hEk).1
      have M0 : Mid w m c cap A B E k M (.slice Av M.length cv) 0 w7 := ⟨Q, hF, hkE, hQ1, B7, rv, rM⟩
      have hML : M.length ≤ 6 := by
        have := nxt_len (stp A B) ((x, y), L) acts6
        rw [← hM, bare_len] at this
        exact this
      clear O B7 B6 r6 hrd hN a0 a1 a2 a3 a4 p8 hQ hQ1 rv rM
      go_wp2_with fail
      refine walks_block (walks_count (fun n a' wr => ∃ y0 y2 y3 y4 y5 y8 y9 y10 y11 y12 y13 y14 y15 y16 y17 y18 y19 y20 y21 y22 y23 y24 y26 y27 y28 y29 y30 y31 y32 y33 y34 y35 y36 y37 y38 y39 y40 y41 y42 y43 y44 y48 y49 y50 y51 y52 y53 y54 y55 y56 y57 y58 y59 y60 y61 y62 y63 y64 y65 : Value, ∃ j : Nat, n + j = M.length ∧ Mid w m c cap A B E k M (.slice Av M.length cv) j wr ∧ a' = ⟨#[y0, .int .i64 g, y2, y3, y4, y5, .map (some m), .chan (some c), y8, y9, y10, y11, y12, y13, y14, y15, y16, y17, y18, y19, y20, y21, y22, y23, y24, .chan (some c), y26, y27, y28, y29, y30, y31, y32, y33, y34, y35, y36, y37, y38, y39, y40, y41, y42, y43, y44, .slice Av M.length cv, .int .i64 M.length, .int .i64 j, y48, y49, y50, y51, y52, y53, y54, y55, y56, y57, y58, y59, y60, y61, y62, y63, y64, y65], []⟩) M.length ⟨_, _, _, _, _, _, _, _, _, _, _, _, _, _, _, _, _, _, _, _, _, _, _, _, _, _, _, _, _, _, _, _, _, _, _, _, _, _, _, _, _, _, _, _, _, _, _, _, _, _, _, _, _, _, _, _, _, _, _, 0, rfl, M0, rfl⟩ ?_)
      clear M0
      rintro n2 - wr2 ⟨y0, y2, y3, y4, y5, y8, y9, y10, y11, y12, y13, y14, y15, y16, y17, y18, y19, y20, y21, y22, y23, y24, y26, y27, y28, y29, y30, y31, y32, y33, y34, y35, y36, y37, y38, y39, y40, y41, y42, y43, y44, y48, y49, y50, y51, y52, y53, y54, y55, y56, y57, y58, y59, y60, y61, y62, y63, y64, y65, j, hnj, hMid, rfl⟩
      obtain ⟨Q2, hF2, hk2, hQ2, hB2, hrow, hrows⟩ := hMid
      by_cases hj : j < M.length
      · obtain ⟨⟨⟨X, Y⟩, L2, u2⟩, hq2⟩ : ∃ q, M[j]? = some q := ⟨_, List.getElem?_eq_getElem hj⟩
        have hji : (j : Int) < M.length := by omega
        have hjd : decide ((j : Int) < M.length) = true := decide_eq_true hji
        have hpu := push_fold (E := E) (bare_get hq2)
        dsimp only at hpu
        have hokXY : okJ A B X Y = true := by
          have h1 : ((X, Y), L2) ∈ nxt (stp A B) ((x, y), L) acts6 := by rw [← hM]; exact List.mem_of_getElem? (bare_get hq2)
          obtain ⟨act, -, h2⟩ := List.mem_filterMap.1 h1
          cases h3 : stp A B (x, y) act with
          | none => rw [h3] at h2; cases h2
          | some t =>
            rw [h3] at h2
            injection h2 with h2
            injection h2 with h2
            rw [h2] at h3
            exact stp_in h3
        have rq2 := hrows _ (List.mem_of_getElem? hq2)
        dsimp only at rq2
        obtain ⟨A2, c2, rfl⟩ := row_form rq2
        generalize ((bare M).take j).foldl push E = Ej at hF2 hk2 hQ2 hB2 hpu
        obtain ⟨gv, cv2, hgv⟩ : ∃ gv c2, (.slice Av M.length cv : Value) = .slice (some ⟨gv, 0, none⟩) M.length c2 := by
          obtain ⟨gv, c2, h1, -⟩ := World.ownsRow.form (show wr2.ownsRow w.heap.size 52 5 (.slice Av M.length cv) M.length (pcells A B M) from hrow) (by omega)
          exact ⟨gv, c2, h1⟩
        injection hgv with hgv1 _ hgv2
        subst hgv1 hgv2
        have oc := fun i (hi : i < 5) => World.ownsRow.cellAt (show wr2.ownsRow w.heap.size 52 5 (.slice (some ⟨gv, 0, none⟩) M.length cv) M.length (pcells A B M) from hrow) (j * 5 + i) (by omega)
        obtain ⟨v0, v1, v2, v3, v4⟩ := pcells_get A B M j _ hq2
        have f0 : wr2.cell? ⟨gv, j * 5, none⟩ = some (.int .i64 A) := (oc 0 (by omega)).trans v0
        have f1 := (oc 1 (by omega)).trans v1
        have f2 := (oc 2 (by omega)).trans v2
        have f3 := (oc 3 (by omega)).trans v3
        have f4 := (oc 4 (by omega)).trans v4
        dsimp only at f0 f1 f2 f3 f4
        clear oc v0 v1 v2 v3 v4
        obtain ⟨g10, hg10⟩ : ∃ g10, wr2.heap.size = g10 := ⟨_, rfl⟩
        obtain ⟨w8, hw8⟩ : ∃ w8, wr2.alloc (.cells #[.int .i64 A, .int .i64 B, .int .i64 X, .int .i64 Y, .slice A2 L2.length c2] 52) = w8 := ⟨_, rfl⟩
        have bl8 : Below wr2.heap.size wr2 w8 := by rw [← hw8]; exact (Below.refl _ _).alloc (Nat.le_refl _) _
        have p10 : w8.heap[g10]? = some (.cells #[.int .i64 A, .int .i64 B, .int .i64 X, .int .i64 Y, .slice A2 L2.length c2] 52) := by rw [← hw8, ← hg10]; exact heap_alloc_new wr2 _
        have B8 := hB2.keep bl8
        have hm10 : m < g10 := by rw [← hg10]; exact hB2.map.lt
        have row8 := hrow.keep bl8
        have rows8 : ∀ q ∈ M, RowAt w w8 (irow q.2.2 q.2.1) := fun q hq => (hrows q hq).keep bl8
        have rq8 := rq2.keep bl8
        obtain ⟨k0, k1, k2, k3, k4⟩ := pbox_cells p10
        clear bl8 hB2 hrow hrows rq2
        refine walks_first (fun K hK => ?_)
        go_wp2_with fail
        refine walks_first (fun K hK => ?_)
        go_wp2_with fail
        refine walks_seq (walks_block ?_)
        refine walks_first (fun K hK => ?_)
        go_wp2_with fail
        clear f0 f1 f2 f3 f4 hw8 hg10
        have hlook := B8.map.look X Y
        by_cases hin : (X, Y) ∈ Ej.map Prod.fst
        · have hE2 : push Ej ((X, Y), L2) = Ej := by unfold push; rw [if_pos hin]
          have M1 : Mid w m c cap A B E k M (.slice (some ⟨gv, 0, none⟩) M.length cv) (j + 1) w8 := ⟨Q2, by rw [hpu, hE2]; exact hF2, by rw [hpu, hE2]; exact hk2, by rw [hpu, hE2]; exact hQ2, by rw [hpu, hE2]; exact B8, row8, rows8⟩
          rw [decide_eq_true hin] at hlook
          clear hF2 hk2 hQ2 B8 row8 rows8 rq8 hpu hE2 hin p10
          refine walks_first (fun K hK => ?_)
          go_wp2_with fail
          refine walks_wp ?_
          go_wp2_with fail
          refine walks_wp ?_
          go_wp2_with fail
          exact ⟨n2 - 1, by omega, _, _, _, _, _, _, _, _, _, _, _, _, _, _, _, _, _, _, _, _, _, _, _, _, _, _, _, _, _, _, _, _, _, _, _, _, _, _, _, _, _, _, _, _, _, _, _, _, _, _, _, _, _, _, _, _, _, _, _, j + 1, by omega, M1, by rfl⟩
        · have hE2 : push Ej ((X, Y), L2) = Ej ++ [((X, Y), L2)] := by unfold push; rw [if_neg hin]
          have hF3 := fine_new (e := ((X, Y), L2)) hF2 hokXY hin
          have hroom : Q2.length < cap := by
            have h1 := fine_len hF3
            have h2 := congrArg List.length hQ2
            rw [bare_len, List.length_drop] at h2
            rw [List.length_append, List.length_singleton, hcap] at h1
            omega
          rw [decide_eq_false hin] at hlook
          obtain ⟨w9, hput, hM9, hg9, hs9⟩ := B8.map.put hin
          have B9 := B8.put hM9 hg9
          have p109 : w9.heap[g10]? = some (.cells #[.int .i64 A, .int .i64 B, .int .i64 X, .int .i64 Y, .slice A2 L2.length c2] 52) := (hg9.block g10 (Array.getElem?_eq_some_iff.1 p10).1 (fun e => by injection e; omega)).trans p10
          have row9 := row8.kept hg9 B8.map.no_cells
          have rows9 : ∀ q ∈ M, RowAt w w9 (irow q.2.2 q.2.1) := fun q hq => (rows8 q hq).kept hg9 B8.map.no_cells
          have rq9 := rq8.kept hg9 B8.map.no_cells
          obtain ⟨s9, r9, hch9⟩ := B9.chan
          have hpush : (qbuf A B Q2).push (pagg A B X Y (.slice A2 L2.length c2)) = qbuf A B (Q2 ++ [((X, Y), L2, .slice A2 L2.length c2)]) := qbuf_push A B Q2 ((X, Y), L2, .slice A2 L2.length c2)
          have B10 : Bfs w (w9.setChan c cap (qbuf A B (Q2 ++ [((X, Y), L2, .slice A2 L2.length c2)])) false (s9 + 1) r9 false) m c cap A B (Ej.map Prod.fst ++ [(X, Y)]) (Q2 ++ [((X, Y), L2, .slice A2 L2.length c2)]) false := B9.turn (s9 + 1) r9 (fun q hq => by
            rcases List.mem_append.1 hq with hq | hq
            · exact B9.rows q hq
            · rw [List.mem_singleton.1 hq]; exact rq9)
          have gr10 := grown_setChan w9 c cap (qbuf A B (Q2 ++ [((X, Y), L2, .slice A2 L2.length c2)])) false (s9 + 1) r9 false
          have row10 := row9.kept gr10 B9.no_cells
          have rows10 : ∀ q ∈ M, RowAt w (w9.setChan c cap (qbuf A B (Q2 ++ [((X, Y), L2, .slice A2 L2.length c2)])) false (s9 + 1) r9 false) (irow q.2.2 q.2.1) := fun q hq => (rows9 q hq).kept gr10 B9.no_cells
          have M1 : Mid w m c cap A B E k M (.slice (some ⟨gv, 0, none⟩) M.length cv) (j + 1) (w9.setChan c cap (qbuf A B (Q2 ++ [((X, Y), L2, .slice A2 L2.length c2)])) false (s9 + 1) r9 false) :=
            ⟨Q2 ++ [((X, Y), L2, .slice A2 L2.length c2)], by rw [hpu, hE2]; exact hF3, by rw [hpu, hE2, List.length_append]; omega, by rw [hpu, hE2, bare_app, hQ2, List.drop_append_of_le_length hk2], by rw [hpu, hE2, List.map_append]; exact B10, row10, rows10⟩
          clear hF2 hk2 hQ2 B8 row8 rows8 rq8 hpu hE2 hin hM9 hg9 hs9 row9 rows9 rq9 B10 gr10 row10 rows10 hF3
          refine walks_first (fun K hK => ?_)
          go_wp2_with fail
          refine walks_cond (t := true) rfl ?_
          show Walks _ _ (Code.seq _ _) _ _ _
          refine walks_first (fun K hK => ?_)
          go_wp2_with fail
          obtain ⟨z0, z1, z2, z3, z4⟩ := pbox_cells p109
          clear k0 k1 k2 k3 k4 p10 hput hlook
          refine walks_region ?_
          show Does _ _ _ _ [0, 1, 2] _ _
          refine does_value (v := .chan (some c)) rfl rfl (by go_simp) ?_
          walk_nrm
          refine does_value (v := pagg A B X Y (.slice A2 L2.length c2)) rfl rfl (by go_simp) ?_
          walk_nrm
          refine does_send (c := c) (cap := cap) (buf := qbuf A B Q2) (s := s9) (r := r9) (tm := false) (v := pagg A B X Y (.slice A2 L2.length c2)) (z' := .tuple #[]) hbe rfl rfl (by simp [execOp, scase, Act.eval]) hch9 (by rw [qbuf_size]; exact hroom) ?_
          walk_nrm
          rw [hpush]
          refine does_end ?_
          clear hch9 z0 z1 z2 z3 z4 B9 p109 hpush
          generalize w9.setChan c cap (qbuf A B (Q2 ++ [((X, Y), L2, .slice A2 L2.length c2)])) false (s9 + 1) r9 false = w10 at M1 ⊢
          show Walks _ _ _ _ _ _
          refine walks_wp ?_
          go_wp2_with fail
          exact ⟨n2 - 1, by omega, _, _, _, _, _, _, _, _, _, _, _, _, _, _, _, _, _, _, _, _, _, _, _, _, _, _, _, _, _, _, _, _, _, _, _, _, _, _, _, _, _, _, _, _, _, _, _, _, _, _, _, _, _, _, _, _, _, _, _, j + 1, by omega, M1, by rfl⟩
      · obtain rfl : j = M.length := by omega
        rw [List.take_of_length_le (by rw [bare_len]; exact Nat.le_refl _), hM] at hF2 hk2 hQ2 hB2
        have hE3 := push_all (stp_act A B) hE hEk hng
        replace hE3 : Queue (stp A B) (gl g) (0, 0) ((nxt (stp A B) ((x, y), L) acts6).foldl push E) (k + 1) 1 := hE3
        generalize (nxt (stp A B) ((x, y), L) acts6).foldl push E = E3 at hF2 hk2 hQ2 hB2 hE3
        have hn1 : 1 ≤ n := by
          have h1 := fine_len hF2
          rw [hcap] at h1
          omega
        have hjd : decide ((M.length : Int) < M.length) = false := decide_eq_false (by omega)
        obtain ⟨s9, r9, hch9⟩ := hB2.chan
        have hlen : ∀ ty, (Builtin.len_ #[50] ty #[.chan (some c)]).run Try.prog wr2 = .ok (goInt Q2.length) wr2 := fun ty => by
          rw [← qbuf_size A B Q2]
          exact run_len_chan (P := Try.prog) 50 ty Try.underlying50 hch9
        clear hrow hrows hM hE hEk hF hng hk2
        refine walks_first (fun K hK => ?_)
        go_wp2_with fail
        refine walks_first (fun K hK => ?_)
        go_wp2_with fail
        refine walks_wp ?_
        rcases Q2 with _ | ⟨q3, Q3⟩
        · obtain ⟨w10, hw10⟩ : ∃ w10, wr2.setChan c cap (qbuf A B []) true s9 r9 false = w10 := ⟨_, rfl⟩
          have hcls : ∀ ats ty, (Builtin.close_ ats ty #[.chan (some c)]).run Try.prog wr2 = .ok (.tuple #[]) w10 := fun ats ty => by rw [← hw10]; exact run_close_open (P := Try.prog) (w := wr2) ats ty hch9
          have B10 : Bfs w w10 m c cap A B (E3.map Prod.fst) [] true := by rw [← hw10]; exact hB2.turn s9 r9 (fun q hq => by cases hq)
          have T1 : Top w m c cap A B g (n - 1) w10 := ⟨E3, k + 1, [], true, by omega, hE3, hF2, hQ2, ⟨fun _ => rfl, fun _ => rfl⟩, B10⟩
          have hl0 : ([] : List Pg).length = 0 := rfl
          rw [hl0] at hlen
          clear hw10 hch9 B10 hB2 hE3 hF2 hQ2 hl0
          go_wp2_with fail
          exact ⟨n - 1, by omega, T1, _, _, _, _, _, _, _, _, _, _, _, _, _, _, _, _, _, _, _, _, _, _, _, _, _, _, _, _, _, _, _, _, _, _, _, _, _, _, _, _, _, _, _, _, _, _, _, _, _, _, _, _, _, _, _, _, _, _, _, _, _, _, by rfl⟩
        · have T1 : Top w m c cap A B g (n - 1) wr2 := ⟨E3, k + 1, q3 :: Q3, false, by omega, hE3, hF2, hQ2, ⟨fun e => (by cases e), fun e => (by cases e)⟩, hB2⟩
          rw [List.length_cons] at hlen
          have hz : (((Q3.length + 1 : Nat) : Int) == 0) = false := by simp; omega
          clear hch9 hB2 hE3 hF2 hQ2
          go_wp2_with fail
          exact ⟨n - 1, by omega, T1, _, _, _, _, _, _, _, _, _, _, _, _, _, _, _, _, _, _, _, _, _, _, _, _, _, _, _, _, _, _, _, _, _, _, _, _, _, _, _, _, _, _, _, _, _, _, _, _, _, _, _, _, _, _, _, _, _, _, _, _, _, _, by rfl⟩
end Go.Proofs.Ytmoncfplcmdpcaa
