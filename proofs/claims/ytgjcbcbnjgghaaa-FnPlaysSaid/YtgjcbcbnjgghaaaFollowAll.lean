/-
  The contract of the program's check of the inputs, and of what follows all of them: the follower at the end, and the path of what it has shown. Only new memory is written.
-/
import Derived.Test.YtgjcbcbnjgghaaaFollow
import Derived.Test.YtgjcbcbnjgghaaaOwnMore
import Derived.Test.YtgjcbcbnjgghaaaOwnOne
import Derived.Laws.ResultCell
import Derived.OwnWalk
namespace Go.Proofs.Ytgjcbcbnjgghaaa
open Go.ChangeShapes Go.WideShapes Go.ChangeAt Go.RowKit Go.PlainAid

/-- The inputs can be followed. -/
def inpB (L : List Int) : Bool := decide (L.length ≤ 60) && allIn (-10000) 10000 L
theorem inpB_long {L : List Int} (h : ¬ L.length ≤ 60) : inpB L = false := by unfold inpB; rw [decide_eq_false h]; rfl
theorem inpB_short {L : List Int} (h : L.length ≤ 60) : inpB L = allIn (-10000) 10000 L := by unfold inpB; rw [decide_eq_true h]; rfl
theorem playP_inp {h s : Int} {L : List Int} : playP h s L ↔ playOk h s = true ∧ inpB L = true := by
  rw [playP_iff]
  unfold inpB
  rw [Bool.and_eq_true, decide_eq_true_iff]
theorem inp_none {L : List Int} {n : Nat} (hn : L.length = n) (ha : allIn (-10000) 10000 L = false) (h : ∀ j, j < n → -10000 ≤ L.getD j 0 ∧ L.getD j 0 ≤ 10000) : False := by
  have := allIn_iff.2 (fun j (hj : j < L.length) => h j (by omega))
  rw [ha] at this
  cases this

theorem canFollow_any (A : Option Addr) (c n : Nat) (L : List Int) (w : World) (hn : L.length = n) (hm : n ≤ 1000000000) (r : IntRow w A L) :
    Calls Try.prog 35 #[.slice A n c] w (Tells (inpB L) w) := by
  by_cases h6 : n ≤ 60
  · rw [inpB_short (by omega)]
    have h6i : ¬ (60 : Int) < n := by omega
    rcases ha : allIn (-10000) 10000 L with _ | _
    · have hno := Lib.hid (inp_none hn ha)
      clear ha
      go_enter Try.func35, Try.ntmps35
      go_wp2_with fail
      go_loopw [10] (fun i wr => ∃ k : Nat, k ≤ n ∧ i = .int .i64 k ∧ Hid (∀ j, j < k → -10000 ≤ L.getD j 0 ∧ L.getD j 0 ≤ 10000) ∧ w = wr) (fun i _ => n - (intOf i).toNat)
      case atStart => exact ⟨0, by omega, rfl, Lib.hid (fun j hj => by omega), rfl⟩
      case round =>
        obtain ⟨k, hk, rfl, hall, rfl⟩ := hrel
        by_cases hlt : k < n
        · have hki : (k : Int) < n := by omega
          obtain ⟨x, rfl, hx0, hx⟩ := r k (by omega)
          obtain ⟨z, hz⟩ : ∃ z, L.getD k 0 = z := ⟨_, rfl⟩
          rw [hz] at hx
          replace hz := Lib.hid hz
          by_cases g : -10000 ≤ z ∧ z ≤ 10000
          · have hZ := within_to true z (-10000) 10000 w (decide_eq_true g)
            have hall2 : Hid (∀ j, j < k + 1 → -10000 ≤ L.getD j 0 ∧ L.getD j 0 ≤ 10000) := Lib.hid fun j hj => by
              rcases Nat.lt_or_ge j k with h1 | h1
              · exact hall.out j h1
              · obtain rfl : j = k := by omega
                rw [hz.out]; exact g
            clear hall r
            go_wp2_with fail
            refine hZ.mono ?_
            rintro en w2 ⟨rfl, rfl⟩
            go_wp2_with fail
            go_roundw
            case rel => exact ⟨k + 1, by omega, by go_num, hall2, trivial⟩
            case measure => simp [intOf]; omega
          · have hZ := within_to false z (-10000) 10000 w (decide_eq_false g)
            clear hall r
            go_wp2_with fail
            refine hZ.mono ?_
            rintro en w2 ⟨rfl, rfl⟩
            clear hZ
            go_wp2_with fail
            go_ret
            exact ⟨rfl, rfl⟩
        · obtain rfl : k = n := by omega
          exact (hno.out hall.out).elim
    · have hall := Lib.hid (allIn_iff.1 ha)
      go_enter Try.func35, Try.ntmps35
      go_wp2_with fail
      go_loopw [10] (fun i wr => ∃ k : Nat, k ≤ n ∧ i = .int .i64 k ∧ w = wr) (fun i _ => n - (intOf i).toNat)
      case atStart => exact ⟨0, by omega, rfl, rfl⟩
      case round =>
        obtain ⟨k, hk, rfl, rfl⟩ := hrel
        by_cases hlt : k < n
        · have hki : (k : Int) < n := by omega
          obtain ⟨x, rfl, hx0, hx⟩ := r k (by omega)
          have hz := hall.out k (by omega)
          generalize L.getD k 0 = z at hx hz
          have hZ := within_to true z (-10000) 10000 w (decide_eq_true hz)
          clear hall r ha
          go_wp2_with fail
          refine hZ.mono ?_
          rintro en w2 ⟨rfl, rfl⟩
          go_wp2_with fail
          go_roundw
          case rel => exact ⟨k + 1, by omega, by go_num, trivial⟩
          case measure => simp [intOf]; omega
        · obtain rfl : k = n := by omega
          have hki : ¬ (k : Int) < k := by omega
          clear r hall ha
          go_wp2_with fail
          go_ret
          exact ⟨rfl, rfl⟩
  · rw [inpB_long (by omega)]
    have h6i : (60 : Int) < n := by omega
    clear r hn hm h6
    go_enter Try.func35, Try.ntmps35
    go_wp2_with fail
    go_ret
    exact ⟨rfl, rfl⟩

/-- The follower at the end, and the path. -/
def FollowsY (h s m l : Int) (N : Nat) (P : List Int) (w : World) (e : Ending) (w' : World) : Prop :=
  ∃ g c, e = .returned (.tuple #[agg4 h s m l, .slice (some ⟨g, 0, none⟩) N c]) ∧ w'.ownsRow w.heap.size 3 1 (.slice (some ⟨g, 0, none⟩) N c) N (ints P) ∧ Below w.heap.size w w'
/-- The inputs cannot be followed. -/
def FollowsN (w : World) (e : Ending) (w' : World) : Prop := e = .returned (.tuple #[agg4 0 0 0 0, .slice none 0 0]) ∧ Below w.heap.size w w'

theorem followAll_no (h s : Int) (A : Option Addr) (c n : Nat) (L : List Int) (w : World) (hn : L.length = n) (hm : n ≤ 1000000000) (r : IntRow w A L) (g : ¬ playP h s L) :
    Calls Try.prog 30 #[.int .i64 h, .int .i64 s, .slice A n c] w (FollowsN w) := by
  have q := Quad.new w 0 0 0 0 43
  have c0 := q.c0
  have c1 := q.c1
  have c2 := q.c2
  have c3 := q.c3
  have f0 := q.free 0
  have f1 := q.free 1
  have f2 := q.free 2
  have f3 := q.free 3
  have kb : Below w.heap.size w (w.alloc (obj4 0 0 0 0 43)) := (Below.refl _ _).alloc (Nat.le_refl _) _
  have r2 := r.keep kb
  obtain ⟨p, hp⟩ : ∃ p, w.heap.size = p := ⟨_, rfl⟩
  rcases ho : playOk h s with _ | _
  · have hO := fun W => implOk_to false h s W ho
    clear g r r2 hm hn ho
    go_enter Try.func30, Try.ntmps30
    go_wp2_with fail
    refine (hO _).mono ?_
    rintro en w2 ⟨rfl, rfl⟩
    go_wp2_with fail
    refine bodyPost_ret (v := .tuple #[agg4 0 0 0 0, .slice none 0 0]) ?_ rfl ⟨rfl, kb⟩
    rw [results_cell_tmp rfl]
    go_simp
  · have hO := fun W => implOk_to true h s W ho
    have hi : inpB L = false := by
      rcases hi : inpB L with _ | _
      · rfl
      · exact absurd (playP_inp.2 ⟨ho, hi⟩) g
    have hF := canFollow_any A c n L _ hn hm r2
    rw [hi] at hF
    clear g r r2 hm hn ho hi
    go_enter Try.func30, Try.ntmps30
    go_wp2_with fail
    refine (hO _).mono ?_
    rintro en w2 ⟨rfl, rfl⟩
    clear hO
    go_wp2_with fail
    refine hF.mono ?_
    rintro en w2 ⟨rfl, rfl⟩
    clear hF
    go_wp2_with fail
    refine bodyPost_ret (v := .tuple #[agg4 0 0 0 0, .slice none 0 0]) ?_ rfl ⟨rfl, kb⟩
    rw [results_cell_tmp rfl]
    go_simp

/-- What the loop keeps: the result's variable, the follower's block, the path. -/
structure Fol (w : World) (p1 p2 B : Nat) (h S m l : Int) (P : List Int) (v : Value) (wr : World) : Prop where
  own : wr.ownsRow B 3 1 v P.length (ints P)
  z : Quad wr p1 0 0 0 0 43
  f : Quad wr p2 h S m l 43
  bel : Below w.heap.size w wr
  h1 : w.heap.size ≤ p1
  h2 : p1 < p2
  h3 : p2 < B
  h4 : B ≤ wr.heap.size
theorem Fol.apart {w wr : World} {p1 p2 B : Nat} {h S m l : Int} {P : List Int} {v : Value} (F : Fol w p1 p2 B h S m l P v wr) {q : Nat} (hq : q < B) : some q ≠ v.ownBlock := fun e => by
  have := (F.own.lt q e.symm).1
  omega
theorem Fol.kept {w wr w1 : World} {p1 p2 B : Nat} {h S m l S' m' l' : Int} {P : List Int} {v : Value} (F : Fol w p1 p2 B h S m l P v wr) (q : Quad w1 p2 h S' m' l' 43) (g : wr.grownBy w1 (some p2)) : Fol w p1 p2 B h S' m' l' P v w1 := by
  have h1 := F.h1
  have h2 := F.h2
  refine ⟨F.own.kept g (.inr (Ne.symm (F.apart F.h3))), F.z.grown g (by omega), q, F.bel.grown g F.bel.size (fun k e => ?_), h1, h2, F.h3, Nat.le_trans F.h4 g.size⟩
  injection e with e
  omega
theorem Fol.app {w wr w1 : World} {p1 p2 B : Nat} {h S m l x : Int} {P : List Int} {v v' : Value} {o : Obj} (F : Fol w p1 p2 B h S m l P v wr)
    (o1 : w1.ownsRow B 3 1 v' (P.length + 1) (ints P ++ [.int .i64 x])) (g : (wr.alloc o).grownBy w1 v.ownBlock) : Fol w p1 p2 B h S m l (P ++ [x]) v' w1 := by
  have h1 := F.h1
  have h2 := F.h2
  have h3 := F.h3
  have h4 := F.h4
  have hs := g.size
  have hz : (wr.alloc o).heap.size = wr.heap.size + 1 := by simp
  refine ⟨?_, (F.z.alloc o).row g (F.apart (by omega)), (F.f.alloc o).row g (F.apart h3), (F.bel.alloc F.bel.size o).grown g (by have := F.bel.size; omega) (fun k e => ?_), h1, h2, h3, by omega⟩
  · rw [ints_append, List.length_append]
    exact o1
  · have := (F.own.lt k e).1
    omega

/-- A row's base may be lowered. -/
theorem owns_down {w : World} {B b n : Nat} {e : TypeId} {v : Value} {xs : List Value} (h : w.ownsRow B e 1 v n xs) (hb : b ≤ B) : w.ownsRow b e 1 v n xs := by
  refine ⟨h.1, ?_⟩
  rcases h.2 with h0 | ⟨g, cap, cur, hv, hB, hr⟩
  · exact .inl h0
  · exact .inr ⟨g, cap, cur, hv, Nat.le_trans hb hB, hr⟩

set_option maxRecDepth 100000 in
set_option maxHeartbeats 1600000 in
theorem followAll_yes (h s : Int) (A : Option Addr) (c n : Nat) (L : List Int) (w : World) (hn : L.length = n) (hm : n ≤ 1000000000) (r : IntRow w A L) (g : playP h s L) :
    Calls Try.prog 30 #[.int .i64 h, .int .i64 s, .slice A n c] w (FollowsY h (sh h s L n) (movs h s L n) (lagA h s L n) (n + 1) (pathTo h s L n) w) := by
  obtain ⟨i0, hi, hj0, hj1, hj2⟩ := info_parts Try.infoIntT
  have kb : Below w.heap.size w (w.alloc (obj4 0 0 0 0 43)) := (Below.refl _ _).alloc (Nat.le_refl _) _
  have hO := fun W => implOk_to true h s W (playP_inp.1 g).1
  have hF := canFollow_any A c n L _ hn hm (r.keep kb)
  rw [(playP_inp.1 g).2] at hF
  have hn60 : n ≤ 60 := by have := g.2.1; omega
  have hxi := Lib.hid g.2.2
  have hsi := Lib.hid (sh_in g)
  have hmv := Lib.hid (movs_le h s L)
  have F0 : Fol w w.heap.size (w.heap.size + 1) (w.heap.size + 1 + 1) h s 0 0 [s] (.slice (some ⟨w.heap.size + 1 + 1, 0, none⟩) 1 1) (((w.alloc (obj4 0 0 0 0 43)).alloc (obj4 h s 0 0 43)).alloc (.cells #[.int .i64 s] 3)) := by
    have q1 := Quad.new w 0 0 0 0 43
    have q2 := Quad.new (w.alloc (obj4 0 0 0 0 43)) h s 0 0 43
    have e1 : (w.alloc (obj4 0 0 0 0 43)).heap.size = w.heap.size + 1 := by simp
    have e2 : ((w.alloc (obj4 0 0 0 0 43)).alloc (obj4 h s 0 0 43)).heap.size = w.heap.size + 1 + 1 := by simp
    have o := own_one (Own.none ((w.alloc (obj4 0 0 0 0 43)).alloc (obj4 h s 0 0 43))) s
    have o1 := o.hd
    rw [e1] at q2
    rw [e2] at o1
    refine ⟨o1, (q1.alloc _).alloc _, q2.alloc _, ((kb.alloc (by omega) _).alloc (by omega) _), Nat.le_refl _, by omega, by omega, by simp⟩
  replace hn := Lib.hid hn
  clear kb hm g
  obtain ⟨p, hp⟩ : ∃ p, w.heap.size = p := ⟨_, rfl⟩
  rw [hp] at F0
  go_enter Try.func30, Try.ntmps30
  go_wp2_with fail
  refine (hO _).mono ?_
  rintro en w2 ⟨rfl, rfl⟩
  clear hO
  go_wp2_with fail
  refine hF.mono ?_
  rintro en w2 ⟨rfl, rfl⟩
  clear hF
  go_wp2_with fail
  obtain ⟨p2, hp2⟩ : ∃ q, p + 1 = q := ⟨_, rfl⟩
  rw [hp2] at F0
  simp only [hp2]
  clear hp hp2
  go_loopw [9, 29] (fun v i wr => ∃ k : Nat, k ≤ n ∧ i = .int .i64 k ∧ Fol w p p2 (p2 + 1) h (sh h s L k) (movs h s L k) (lagA h s L k) (pathTo h s L k) v wr) (fun _ i _ => n - (intOf i).toNat)
  case atStart => exact ⟨0, by omega, rfl, F0⟩
  case round =>
    clear F0
    obtain ⟨k, hk, rfl, F⟩ := hrel
    have hl := pathTo_len h s L k
    by_cases hlt : k < n
    · have hki : (k : Int) < n := by omega
      obtain ⟨x, rfl, hx0, hx⟩ := r k (by rw [hn.out]; exact hlt)
      replace hx := (F.bel.cell (by rw [addr_add_block]; exact hx0)).trans hx
      have hsucc := Lib.hid (pathTo_succ h s L k)
      obtain ⟨s0, s1, s2⟩ := hsi.out (k + 1) (by rw [hn.out]; omega)
      have hz := hxi.out k (by rw [hn.out]; exact hlt)
      have mb := hmv.out k
      have hfo := follow_any p2 h (sh h s L k) (movs h s L k) (lagA h s L k) (L.getD k 0) (sh h s L (k + 1)) (lagA h s L (k + 1)) wr F.f rfl rfl (by omega) (by omega) (by omega)
      have hme : (if sh h s L (k + 1) = sh h s L k then movs h s L k else movs h s L k + 1) = movs h s L (k + 1) := by
        split
        · rename_i e
          exact (movs_same e).symm
        · rename_i e
          exact (movs_moved e).symm
      rw [hme] at hfo
      have hl8 : (pathTo h s L k).length ≤ 61 := by omega
      obtain ⟨t, ht⟩ : ∃ t, sh h s L (k + 1) = t := ⟨_, rfl⟩
      obtain ⟨m', hm'⟩ : ∃ m', movs h s L (k + 1) = m' := ⟨_, rfl⟩
      obtain ⟨l', hl'⟩ : ∃ l', lagA h s L (k + 1) = l' := ⟨_, rfl⟩
      have hsu : pathTo h s L (k + 1) = pathTo h s L k ++ [t] := hsucc.out.trans (by rw [← ht]; rfl)
      rw [ht, hm', hl'] at hfo
      rw [ht] at s0 s1
      replace hsucc := Lib.hid hsu
      replace ht := Lib.hid ht
      replace hm' := Lib.hid hm'
      replace hl' := Lib.hid hl'
      clear hsu hme s2 mb hl hxi hsi hmv
      generalize pathTo h s L k = P at F hl8 hsucc
      generalize sh h s L k = a at F hfo
      generalize movs h s L k = m at F hfo
      generalize lagA h s L k = l at F hfo
      generalize L.getD k 0 = z at hx hz hfo
      clear hx0 r
      go_wp2_with fail
      refine hfo.mono ?_
      rintro en w1 ⟨rfl, q1, g1⟩
      have F1 := F.kept q1 g1
      clear hfo q1 g1 F hx
      have c1 := F1.f.c1
      have h4 := F1.h4
      go_wp2_with (at_builtin; refine wpList_append_one rfl (.tmp 35) (.tmp 38) 24 rfl (p2 + 1) 3 i0 (.int .i64 0) Try.underlying24 hi hj0 hj1 hj2 rfl _ P.length _ rfl (F1.own.alloc _) ⟨w1.heap.size, 0, none⟩ 1 _ rfl (new_one _ _ _) rfl (by omega) (by simp; omega) ?_; intro v'' w3 hown1 hg1 hb1; have F2 := F1.app hown1 hg1; clear hown1 hg1 hb1)
      clear F1 c1 h4
      go_wp2_with fail
      go_roundw
      case rel => exact ⟨k + 1, by omega, by go_num, by rw [ht.out, hm'.out, hl'.out, hsucc.out]; exact F2⟩
      case measure => simp [intOf]; omega
    · obtain rfl : k = n := by omega
      have hkk : ¬ (k : Int) < k := by omega
      obtain ⟨g, c2, hv, -, -⟩ := F.own.form (by omega)
      rw [hl] at hv
      subst hv
      have q0 := F.f.c0
      have q1 := F.f.c1
      have q2 := F.f.c2
      have q3 := F.f.c3
      have z0 := F.z.c0
      have z1 := F.z.c1
      have z2 := F.z.c2
      have z3 := F.z.c3
      have e0 := F.z.free 0
      have e1 := F.z.free 1
      have e2 := F.z.free 2
      have e3 := F.z.free 3
      have o := F.own
      rw [hl] at o
      have h1 := F.h1
      have h23 : p < p2 := F.h2
      have gW : wr.grownBy ((((wr.setCell ⟨p, 0, none⟩ (.int .i64 h)).setCell ⟨p, 1, none⟩ (.int .i64 (sh h s L k))).setCell ⟨p, 2, none⟩ (.int .i64 (movs h s L k))).setCell ⟨p, 3, none⟩ (.int .i64 (lagA h s L k))) (some p) := grown_setCell (grown_setCell (grown_setCell (grown_setCell (World.grownBy.refl wr _) 0 _) 1 _) 2 _) 3 _
      have hend : FollowsY h (sh h s L k) (movs h s L k) (lagA h s L k) (k + 1) (pathTo h s L k) w (.returned (.tuple #[agg4 h (sh h s L k) (movs h s L k) (lagA h s L k), .slice (some ⟨g, 0, none⟩) (k + 1) c2])) ((((wr.setCell ⟨p, 0, none⟩ (.int .i64 h)).setCell ⟨p, 1, none⟩ (.int .i64 (sh h s L k))).setCell ⟨p, 2, none⟩ (.int .i64 (movs h s L k))).setCell ⟨p, 3, none⟩ (.int .i64 (lagA h s L k))) :=
        ⟨g, c2, rfl, owns_down (o.kept gW (.inr (Ne.symm (hl ▸ F.apart (by omega))))) (by omega), F.bel.grown gW F.bel.size (fun k e => by injection e with e; omega)⟩
      clear F r o gW hl
      go_wp2_with fail
      refine bodyPost_ret (v := .tuple #[agg4 h (sh h s L k) (movs h s L k) (lagA h s L k), .slice (some ⟨g, 0, none⟩) (k + 1) c2]) ?_ rfl hend
      rw [results_cell_tmp rfl]
      go_simp
end Go.Proofs.Ytgjcbcbnjgghaaa
