/-
  A number picked out of a list of ints that was just built; a list of ints that a draw appends to, number by number. The cursor stands; beside it only new memory.
-/
import Derived.Test.YtjdkihinfilbkaaDrawInts
namespace Go.Proofs.Ytjdkihinfilbkaa
open Go.ChangeShapes Go.WideShapes Go.ChangeAt Go.RowKit Go.PlainAid

theorem pick_new (L : List Int) (h0 : 0 < L.length) (h1 : L.length ≤ 256) (t : TypeId) (c p len cap : Nat) (a : Option Addr) (w : World) (C : Cur w p a len cap) :
    Calls Try.prog 37 #[.pointer (some ⟨p, 0, none⟩), .slice (some ⟨w.heap.size, 0, none⟩) L.length c] (w.alloc (.cells (ints L).toArray t)) (Drawn (fun z => z ∈ L) w p a len cap) := by
  have hr : ∀ k, k < L.length → (w.alloc (.cells (ints L).toArray t)).cell? ⟨w.heap.size, k, none⟩ = some (.int .i64 (L.getD k 0)) := fun k hk => by
    have e : (⟨w.heap.size, 0, none⟩ : Addr).add k = ⟨w.heap.size, k, none⟩ := by unfold Addr.add; split <;> simp_all
    rw [← e]
    exact news_new w (ints L) t k _ (ints_get hk)
  have hp := C.lt
  have hn0 : (0 : Int) < L.length := by omega
  have hg0 := World.grownBy_alloc w (.cells (ints L).toArray t) (some p)
  have hs : w.heap.size < (w.alloc (.cells (ints L).toArray t)).heap.size := by simp
  replace C := C.alloc (.cells (ints L).toArray t)
  have hm : ∀ k, k < L.length → L.getD k 0 ∈ L := fun k hk => by rw [List.getD_eq_getElem?_getD, List.getElem?_eq_getElem hk]; exact List.getElem_mem hk
  generalize w.alloc (.cells (ints L).toArray t) = w0 at hr C hg0 hs ⊢
  obtain ⟨n, hn⟩ : ∃ n, L.length = n := ⟨_, rfl⟩
  rw [hn] at hr hm hn0 h1 ⊢
  go_enter Try.func37, Try.ntmps37
  go_wp2_with fail
  refine (below_any n p len cap a _ C).mono ?_
  rintro e w1 ⟨x, ⟨-, hx⟩, rfl, C1, g1⟩
  obtain ⟨x0, x1⟩ := hx hn0
  obtain ⟨k, rfl⟩ := Int.eq_ofNat_of_zero_le x0
  clear hx
  have hz := hr k (by omega)
  have hz1 : w1.cell? ⟨w.heap.size, k, none⟩ = some (.int .i64 (L.getD k 0)) := (World.cell?_of_block (a := ⟨w.heap.size, k, none⟩) (g1.block w.heap.size hs (fun e => by injection e with e; omega))).trans hz
  have hm1 := hm k (by omega)
  clear hr hz hm
  generalize L.getD k 0 = z at hz1 hm1
  go_wp2_with fail
  go_ret
  exact ⟨z, hm1, rfl, C1, grown_trans hg0 g1⟩

/-- A list of the call's own that a draw appends to; the cursor stands; beside it only new memory. -/
structure LSt (w : World) (p : Nat) (a : Option Addr) (len cap : Nat) (v : Value) (xs : List Int) (wr : World) : Prop where
  cur : Cur wr p a len cap
  own : wr.ownsRow w.heap.size 3 1 v xs.length (ints xs)
  grown : w.grownBy wr (some p)
theorem LSt.start {w : World} {p : Nat} {a : Option Addr} {len cap : Nat} (C : Cur w p a len cap) : LSt w p a len cap (.slice (some ⟨w.heap.size, 0, .none⟩) 0 0) [] (w.alloc (.cells #[] 3)) :=
  ⟨C.alloc _, World.ownsRow_made w #[] 0 (Nat.le_refl _) (by decide) rfl, World.grownBy_alloc w _ _⟩
theorem LSt.drawn {w wr w1 : World} {p : Nat} {a : Option Addr} {len cap : Nat} {v : Value} {xs : List Int} (hp : p < w.heap.size) (h : LSt w p a len cap v xs wr) (C : Cur w1 p a len cap) (g : wr.grownBy w1 (some p)) : LSt w p a len cap v xs w1 := by
  obtain ⟨ys, hl, hq, C1, o1, g1⟩ := intSt_drawn (Q := fun _ => True) (k := xs.length) hp ⟨xs, rfl, fun _ _ => trivial, h.cur, h.own, h.grown⟩ C g
  refine ⟨C, h.own.kept g ?_, g1⟩
  rcases e : v.ownBlock with _ | q
  · exact .inl rfl
  · refine .inr fun e2 => ?_
    injection e2 with e2
    have := (h.own.lt q e).1
    omega
theorem LSt.app {w wr w1 : World} {p : Nat} {a : Option Addr} {len cap : Nat} {v v' : Value} {o : Obj} {z : Int} {xs : List Int} (hp : p < w.heap.size) (h : LSt w p a len cap v xs wr)
    (hown1 : w1.ownsRow w.heap.size 3 1 v' (xs.length + 1) (ints xs ++ [.int .i64 z])) (hgrow1 : (wr.alloc o).grownBy w1 v.ownBlock) : LSt w p a len cap v' (xs ++ [z]) w1 := by
  obtain ⟨ys, hl, hq, C1, o1, g1⟩ := intSt_append (Q := fun _ => True) (z := z) hp trivial rfl (fun _ _ => trivial) h.cur h.own h.grown hown1 hgrow1
  refine ⟨C1, ?_, g1⟩
  rw [ints_append, List.length_append]
  exact hown1
theorem getD_app (xs : List Int) (x : Int) (j : Nat) (h : j ≤ xs.length) : (xs ++ [x]).getD j 0 = if j < xs.length then xs.getD j 0 else x := by
  rw [List.getD_eq_getElem?_getD, List.getD_eq_getElem?_getD]
  split
  · rename_i h1
    rw [List.getElem?_append_left h1]
  · rename_i h1
    rw [List.getElem?_append_right (by omega), show j - xs.length = 0 by omega]
    rfl
end Go.Proofs.Ytjdkihinfilbkaa
