/-
  The contract of the program's list with a state more: the list itself where the state is known, else the list with the state behind it, in place or in a new block. Beside the list only new memory is written.
-/
import Derived.Test.YtmbhldpbgcfnmaaStateRow
import Derived.RegionTactic
import Derived.BigRegion
import Derived.Deep.DeepCutAuto
import Derived.Lib.Hide
namespace Go.Proofs.Ytmbhldpbgcfnmaa
open Go.ChangeShapes Go.WideShapes Go.ChangeAt Go.RowKit Go.PlainAid

theorem Try.infoGlassT : (Try.prog.info? 25).map (fun i => (i.zero, i.size, i.bytes)) = some (some (.agg #[.int .i64 0, .int .i64 0, .int .i64 0, .int .i64 0]), 4, 32) := by kernel_rfl

/-- Behind an append of a state. -/
theorem Own.gapp {w0 wr w6 : World} {a b : Nat} {v v' : Value} {M : List (Nat × Nat)} {s : Nat × Nat} {R : List Rw} {ob : Obj} (O : Own w0 wr (grow v a b M :: R))
    (o6 : w6.ownsRow w0.heap.size 25 4 v' (M.length + 1) (gcells a b M ++ [.int .i64 a, .int .i64 b, .int .i64 s.1, .int .i64 s.2])) (g6 : (wr.alloc ob).grownBy w6 v.ownBlock) (a6 : v'.ownBlock = v.ownBlock ∨ v'.ownBlock = some (wr.alloc ob).heap.size) :
    Own w0 w6 (grow v' a b (M ++ [s]) :: R) := by
  refine (O.keep ((Below.refl wr.heap.size wr).alloc (Nat.le_refl _) ob)).head (r' := grow v' a b (M ++ [s])) g6 ?_ (a6.imp id fun h => ⟨_, h, Nat.le_refl _⟩)
  show w6.ownsRow w0.heap.size 25 4 v' (M ++ [s]).length (gcells a b (M ++ [s]))
  rw [gcells_app, List.length_append]
  exact o6

def Stated (w0 : World) (a b : Nat) (L : List (Nat × Nat)) (R : List Rw) (e : Ending) (w' : World) : Prop := ∃ v', e = .returned v' ∧ Own w0 w' (grow v' a b L :: R)

set_option maxHeartbeats 1600000 in
theorem withState_any (a b x y : Nat) (v : Value) (M : List (Nat × Nat)) (w0 w : World) (R : List Rw) (hM : M.length ≤ 1000) (O : Own w0 w (grow v a b M :: R)) :
    Calls Try.prog 35 #[v, jagg a b x y] w (Stated w0 a b (ins M (x, y)) R) := by
  obtain ⟨i1, hi1, hq0, hq1, hq2⟩ := info_parts Try.infoGlassT
  obtain ⟨A, c, rfl⟩ := grow_slice (O.own _ List.mem_cons_self)
  have O1 := O.jug a b x y
  obtain ⟨p, hp⟩ : ∃ p, w.heap.size = p := ⟨_, rfl⟩
  obtain ⟨w1, hw1⟩ : ∃ w1, w.alloc (jobj a b x y 25) = w1 := ⟨_, rfl⟩
  rw [hp, hw1] at O1
  clear O
  obtain ⟨n, hn⟩ : ∃ n, M.length = n := ⟨_, rfl⟩
  rw [hn] at O1 hM ⊢
  go_enter Try.func35, Try.ntmps35
  go_wp2_with fail
  clear hw1 hp
  go_loopw [9] (fun i wr => ∃ k : Nat, k ≤ n ∧ i = .int .i64 k ∧ (x, y) ∉ M.take k ∧ Own w0 wr (jrow p a b x y :: grow (.slice A n c) a b M :: R)) (fun i _ => n - (intOf i).toNat)
  case atStart => exact ⟨0, by omega, rfl, by simp, O1⟩
  case round =>
    clear O1
    obtain ⟨k, hk, rfl, hno, O⟩ := hrel
    by_cases hlt : k < n
    · have hki : (k : Int) < n := by omega
      obtain ⟨⟨u, z⟩, hs⟩ : ∃ s, M[k]? = some s := ⟨_, List.getElem?_eq_getElem (by omega)⟩
      have hg := O.own (grow (.slice A n c) a b M) (List.mem_cons_of_mem _ List.mem_cons_self)
      obtain ⟨g, rfl⟩ := grow_form hg (by omega)
      obtain ⟨f0, f1, f2, f3⟩ := grow_cells hg hn.symm hs
      dsimp only at f2 f3
      have O2 := O.jug a b u z
      have P2 := O2.jbox (q := wr.heap.size) List.mem_cons_self
      have P1 := O2.jbox (q := p) (List.mem_cons_of_mem _ List.mem_cons_self)
      obtain ⟨d0, d1, d2, d3⟩ := P2.cells
      obtain ⟨c0, c1, c2, c3⟩ := P1.cells
      by_cases h1 : u = x
      · subst h1
        by_cases h2 : z = y
        · subst h2
          have hend : Stated w0 a b (ins M (u, z)) R (.returned (.slice (some ⟨g, 0, none⟩) n c)) (wr.alloc (jobj a b u z 25)) := by
            refine ⟨_, rfl, ?_⟩
            rw [show ins M (u, z) = M from if_pos (List.mem_of_getElem? hs)]
            exact O2.tl.tl
          clear O O2 P1 P2 hg hno hs
          go_wp2_with fail
          go_ret
          exact hend
        · have n2 : ¬ (z : Int) = y := by omega
          have hno2 : (u, y) ∉ M.take (k + 1) := by
            rw [List.take_add_one, hs]
            simp [hno, Ne.symm h2]
          have O3 := O2.tl
          clear O O2 P1 P2 hg hno hs
          go_wp2_with fail
          go_roundw
          case rel => exact ⟨k + 1, by omega, by go_num, hno2, O3⟩
          case measure => simp [intOf]; omega
      · have n1 : ¬ (u : Int) = x := by omega
        have hno2 : (x, y) ∉ M.take (k + 1) := by
          rw [List.take_add_one, hs]
          simp [hno, Ne.symm h1]
        have O3 := O2.tl
        clear O O2 P1 P2 hg hno hs
        go_wp2_with fail
        go_roundw
        case rel => exact ⟨k + 1, by omega, by go_num, hno2, O3⟩
        case measure => simp [intOf]; omega
    · obtain rfl : k = n := by omega
      have hki : ¬ (k : Int) < k := by omega
      rw [List.take_of_length_le (by omega)] at hno
      have e : ins M (x, y) = M ++ [(x, y)] := if_neg hno
      replace e := Lib.hid e
      have O2 := O.tl
      have h5 : wr.ownsRow w0.heap.size 25 4 (.slice A k c) M.length (gcells a b M) := O2.hd
      have hsz := O2.bel.size
      obtain ⟨c0, c1, c2, c3⟩ := (O.jbox (q := p) List.mem_cons_self).cells
      replace O2 := Lib.hid O2
      clear O hno
      go_wp2_with (at_builtin; refine wpList_append_any _ rfl (.tmp 18) (.tmp 20) 49 rfl w0.heap.size 25 i1 _ 4 32 Try.underlying49 hi1 hq0 hq1 hq2 rfl (by decide) (.slice A k c) M.length (gcells a b M) rfl (h5.alloc _) (some ⟨wr.heap.size, 0, none⟩) 1 1 [.int .i64 a, .int .i64 b, .int .i64 x, .int .i64 y] rfl rfl (fun e => by cases e) (fun ad he => by injection he with he; subst he; exact news_new wr [_, _, _, _] _) (by simp [Value.oneCell']) (by unfold maxLen; omega) (by omega) (by simp; omega) ?_; intro v6 w6 o6 g6 a6; have hend : Stated w0 a b (M ++ [(x, y)]) R (.returned v6) w6 := ⟨_, rfl, O2.out.gapp o6 g6 a6⟩)
      go_ret
      rw [e.out]
      exact hend
end Go.Proofs.Ytmbhldpbgcfnmaa
