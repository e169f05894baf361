/-
  The laws that the program's sums, products and comparisons of fractions are the model's: for all structs of two ints. No condition.
-/
import Derived.Test.YtdjlohhpgdegfaaSumC
import Derived.Test.YtdjlohhpgdegfaaExactMake
import Derived.Deep.RegionLaw
import Derived.Deep.DeepCutAuto
import Derived.Deep.RegionHeld3
namespace Go.Proofs.Ytdjlohhpgdegfaa
open Go.ChangeShapes Go.WideShapes Go.ChangeAt Go.RowKit Go.PlainAid

/-- The law's own type into the program's: three new blocks. -/
def Three (t b : Int) (w : World) : World := ((w.alloc (.cells #[.int .i64 t, .int .i64 b] 33)).alloc (.cells #[.int .i64 t, .int .i64 b] 25)).alloc (.cells #[.int .i64 t, .int .i64 b] 25)
theorem to_exact (t b : Int) (w : World) : Calls Try.prog 17 #[.agg #[.int .i64 t, .int .i64 b]] w fun e w' => e = .returned (.agg #[.int .i64 t, .int .i64 b]) ∧ w' = Three t b w := by
  go_enter Try.func17, Try.ntmps17
  go_wp2_with fail
  (try simp only [Exit.inBlock, Exit.then])
  refine bodyPost_ret (v := .agg #[.int .i64 t, .int .i64 b]) ?_ rfl ⟨rfl, rfl⟩
  rw [results_cell_one rfl]
  go_simp

theorem Three.size (t b : Int) (w : World) : (Three t b w).heap.size = w.heap.size + 3 := by unfold Three; simp
theorem Three.below {t b : Int} {n : Nat} {v w : World} (h : Below n v w) (hn : n ≤ w.heap.size) : Below n v (Three t b w) :=
  ((h.alloc hn _).alloc (by simp; omega) _).alloc (by simp; omega) _
theorem Three.box {p : Nat} {t b t' b' : Int} {ty : TypeId} {w : World} (h : Box w p t b ty) : Box (Three t' b' w) p t b ty := ((h.alloc _).alloc _).alloc _
theorem Three.c0 {p : Nat} {t b t' b' : Int} {ty : TypeId} {w : World} (h : Box w p t b ty) : (Three t' b' w).cell? ⟨p, 0, none⟩ = some (.int .i64 t) := (Three.box h).c0
theorem Three.c1 {p : Nat} {t b t' b' : Int} {ty : TypeId} {w : World} (h : Box w p t b ty) : (Three t' b' w).cell? ⟨p, 1, none⟩ = some (.int .i64 b) := (Three.box h).c1

theorem Box.new_at {w : World} {t b : Int} {ty : TypeId} {p : Nat} (h : p = w.heap.size) : Box (w.alloc (.cells #[.int .i64 t, .int .i64 b] ty)) p t b ty := h ▸ Box.new w t b ty
theorem Box.drew {w : World} {t b : Int} {ty : TypeId} {p : Nat} (h : Box w p t b ty) : Box w.drew p t b ty := h
theorem Box.set {w : World} {t b T B : Int} {ty : TypeId} {p : Nat} (h : Box w p t b ty) : Box ((w.setCell ⟨p, 0, none⟩ (.int .i64 T)).setCell ⟨p, 1, none⟩ (.int .i64 B)) p T B ty := by
  have h' : w.heap[p]? = _ := h
  unfold Box
  simp [World.setCell, Array.getElem?_modify, h']

theorem Box.under {w w' : World} {t b : Int} {ty : TypeId} {p : Nat} (h : Box w p t b ty) (k : Below w.heap.size w w') : Box w' p t b ty := h.keep k h.lt
theorem Box.other {w : World} {t b : Int} {ty : TypeId} {p q : Nat} (h : Box w p t b ty) (o : Nat) (v : Value) (hne : p ≠ q) : Box (w.setCell ⟨q, o, none⟩ v) p t b ty := (Below.heap_setCell w _ v p hne).trans h

/-- What is left of a call whose answer goes into a box of its own: the box; below the block number n nothing has turned. -/
def Boxed (n : Nat) (W0 : World) (T B : Int) (O : Bool) (s5 s6 : Value) (wx : World) : Prop :=
  ∃ p, s5 = .pointer (some ⟨p, 0, none⟩) ∧ s6 = .bool O ∧ Box wx p T B 25 ∧ Below n W0 wx

theorem boxed_new {W0 W w1 : World} {n : Nat} {T B : Int} {O : Bool} (h : Below n W0 W) (k : Below W.heap.size W w1) (hn : n ≤ W.heap.size) :
    Boxed n W0 T B O (.pointer (some ⟨w1.heap.size, 0, none⟩)) (.bool O) (w1.alloc (.cells #[.int .i64 T, .int .i64 B] 25)) :=
  ⟨_, rfl, rfl, Box.new w1 T B _, (h.trans (k.mono hn)).alloc (Nat.le_trans hn k.size) _⟩
theorem boxed_set {W0 W w1 : World} {n p : Nat} {T B : Int} {O : Bool} (h : Below n W0 W) (k : Below W.heap.size W w1) (hn : n ≤ W.heap.size) (hp : n ≤ p) (hb : Box W p 0 0 25) :
    Boxed n W0 T B O (.pointer (some ⟨p, 0, none⟩)) (.bool O) ((w1.setCell ⟨p, 0, none⟩ (.int .i64 T)).setCell ⟨p, 1, none⟩ (.int .i64 B)) :=
  ⟨_, rfl, rfl, (hb.keep k hb.lt).set, ((h.trans (k.mono hn)).setCell hp _).setCell hp _⟩

/-- What the regions of an exact law over two structs hold: the two arguments' cells; below block number n nothing has turned. -/
def Held (p q n : Nat) (t1 b1 t2 b2 : Int) (W0 W : World) : Prop := (W.cell? ⟨p, 0, none⟩ = some (.int .i64 t1) ∧ W.cell? ⟨p, 1, none⟩ = some (.int .i64 b1) ∧ W.cell? ⟨q, 0, none⟩ = some (.int .i64 t2) ∧ W.cell? ⟨q, 1, none⟩ = some (.int .i64 b2)) ∧ Below n W0 W

theorem Held.lt {p q n : Nat} {t1 b1 t2 b2 : Int} {W0 W : World} (h : Held p q n t1 b1 t2 b2 W0 W) : p < W.heap.size ∧ q < W.heap.size := ⟨lt_of_cell h.1.1, lt_of_cell h.1.2.2.1⟩
theorem held_below {p q n : Nat} {t1 b1 t2 b2 : Int} {W0 W W' : World} (hn : n ≤ W0.heap.size) (h : Held p q n t1 b1 t2 b2 W0 W) (k : Below W.heap.size W W') : Held p q n t1 b1 t2 b2 W0 W' := by
  obtain ⟨l1, l2⟩ := h.lt
  obtain ⟨⟨c0, c1, c2, c3⟩, b⟩ := h
  exact ⟨⟨(k.cell l1).trans c0, (k.cell l1).trans c1, (k.cell l2).trans c2, (k.cell l2).trans c3⟩, b.trans (k.mono (Nat.le_trans hn b.size))⟩
theorem held_alloc {p q n : Nat} {t1 b1 t2 b2 : Int} {W0 W : World} (hn : n ≤ W0.heap.size) (h : Held p q n t1 b1 t2 b2 W0 W) (o : Obj) : Held p q n t1 b1 t2 b2 W0 (W.alloc o) :=
  held_below hn h ((Below.refl _ _).alloc (Nat.le_refl _) o)

set_option maxHeartbeats 4000000 in
theorem exactAdd_walk (t1 b1 t2 b2 T B : Int) (O : Bool) (w : World)
    (hS : ∀ W : World, Calls Try.prog 20 #[.agg #[.int .i64 t1, .int .i64 b1], .agg #[.int .i64 t2, .int .i64 b2]] W (SaysF T B O W))
    (hI : ∀ W : World, Calls Try.prog 11 #[.agg #[.int .i64 t1, .int .i64 b1], .agg #[.int .i64 t2, .int .i64 b2]] W (SaysF T B O W)) :
    Calls Try.prog 6 #[.agg #[.int .i64 t1, .int .i64 b1], .agg #[.int .i64 t2, .int .i64 b2]] w fun e w' => e = .returned (.bool true) ∧ Below w.heap.size w w' := by
  have hT1 := fun W => to_exact t1 b1 W
  have hT2 := fun W => to_exact t2 b2 W
  unfold Three at hT1 hT2
  obtain ⟨x0, y0, k0⟩ := two_boxes w t1 b1 t2 b2 33
  have hE := fun W => same_any T B W
  go_enter Try.func6, Try.ntmps6
  go_wp2_with fail
  go_cut [5, 6] (fun s5 s6 wx => Boxed (w.heap.size + 2) ((w.alloc (.cells #[.int .i64 t1, .int .i64 b1] 33)).alloc (.cells #[.int .i64 t2, .int .i64 b2] 33)) T B O s5 s6 wx)
  case first =>
    clear hI hE k0
    go_region_held3 (fun W => W.cell? ⟨w.heap.size, 0, none⟩ = some (.int .i64 t1) ∧ W.cell? ⟨w.heap.size, 1, none⟩ = some (.int .i64 b1) ∧ W.cell? ⟨w.heap.size + 1, 0, none⟩ = some (.int .i64 t2) ∧ W.cell? ⟨w.heap.size + 1, 1, none⟩ = some (.int .i64 b2)) (exact ⟨Box.c0 (b := b1) (ty := 33) (by repeat' (first | with_reducible exact x0 | with_reducible exact y0 | with_reducible refine Box.drew ?_ | with_reducible refine Box.alloc ?_ _ | with_reducible refine Box.under ?_ k1 | with_reducible refine Box.other ?_ _ _ (by simp <;> omega))), Box.c1 (t := t1) (ty := 33) (by repeat' (first | with_reducible exact x0 | with_reducible exact y0 | with_reducible refine Box.drew ?_ | with_reducible refine Box.alloc ?_ _ | with_reducible refine Box.under ?_ k1 | with_reducible refine Box.other ?_ _ _ (by simp <;> omega))), Box.c0 (b := b2) (ty := 33) (by repeat' (first | with_reducible exact x0 | with_reducible exact y0 | with_reducible refine Box.drew ?_ | with_reducible refine Box.alloc ?_ _ | with_reducible refine Box.under ?_ k1 | with_reducible refine Box.other ?_ _ _ (by simp <;> omega))), Box.c1 (t := t2) (ty := 33) (by repeat' (first | with_reducible exact x0 | with_reducible exact y0 | with_reducible refine Box.drew ?_ | with_reducible refine Box.alloc ?_ _ | with_reducible refine Box.under ?_ k1 | with_reducible refine Box.other ?_ _ _ (by simp <;> omega)))⟩)
      (first | (go_at_call 17; (first | (with_reducible refine (hT1 _).mono ?_) | (with_reducible refine (hT2 _).mono ?_)); rintro e w' ⟨rfl, rfl⟩) | (go_at_call 20; refine (hS _).mono ?_; rintro e w1 ⟨rfl, k1⟩; have hc := fun (b o : Nat) (h : b < _) => k1.cell (p := ⟨b, o, none⟩) h; have hf := fun (b o : Nat) (h : b < _) => k1.frozen (p := ⟨b, o, none⟩) h))
    all_goals
      clear hc hf hS hT1 hT2 x0 y0
      go_wp2_with fail
      go_meet
      first | with_reducible refine boxed_new ?_ k1 ?_ | with_reducible refine boxed_set ?_ k1 ?_ ?_ ?_
    all_goals (repeat' (first | with_reducible exact Below.refl _ _ | with_reducible refine Below.drew ?_ | with_reducible refine Below.alloc ?_ ?_ _ | with_reducible refine Box.new_at ?_ | with_reducible refine Box.drew ?_ | with_reducible refine Box.alloc ?_ _))
    all_goals (first | omega | (simp <;> omega) | trace_state)
  case rest =>
    obtain ⟨p, rfl, rfl, bx, kx⟩ := hcut
    have x1 := x0.keep kx (by omega)
    have y1 := y0.keep kx (by omega)
    replace k0 := k0.trans (kx.mono (by omega))
    have hz : w.heap.size + 2 ≤ wc.heap.size := by
      have := kx.size
      simp at this
      omega
    clear x0 y0 hS kx
    go_upto_region 2 with fail
    go_cut [7, 8] (fun s7 s8 wx => Boxed wc.heap.size wc T B O s7 s8 wx)
    case first =>
      go_region_held3 (fun W => W.cell? ⟨w.heap.size, 0, none⟩ = some (.int .i64 t1) ∧ W.cell? ⟨w.heap.size, 1, none⟩ = some (.int .i64 b1) ∧ W.cell? ⟨w.heap.size + 1, 0, none⟩ = some (.int .i64 t2) ∧ W.cell? ⟨w.heap.size + 1, 1, none⟩ = some (.int .i64 b2)) (exact ⟨Box.c0 (b := b1) (ty := 33) (by repeat' (first | with_reducible exact x1 | with_reducible exact y1 | with_reducible refine Box.drew ?_ | with_reducible refine Box.alloc ?_ _ | with_reducible refine Box.under ?_ k1 | with_reducible refine Box.other ?_ _ _ (by simp <;> omega))), Box.c1 (t := t1) (ty := 33) (by repeat' (first | with_reducible exact x1 | with_reducible exact y1 | with_reducible refine Box.drew ?_ | with_reducible refine Box.alloc ?_ _ | with_reducible refine Box.under ?_ k1 | with_reducible refine Box.other ?_ _ _ (by simp <;> omega))), Box.c0 (b := b2) (ty := 33) (by repeat' (first | with_reducible exact x1 | with_reducible exact y1 | with_reducible refine Box.drew ?_ | with_reducible refine Box.alloc ?_ _ | with_reducible refine Box.under ?_ k1 | with_reducible refine Box.other ?_ _ _ (by simp <;> omega))), Box.c1 (t := t2) (ty := 33) (by repeat' (first | with_reducible exact x1 | with_reducible exact y1 | with_reducible refine Box.drew ?_ | with_reducible refine Box.alloc ?_ _ | with_reducible refine Box.under ?_ k1 | with_reducible refine Box.other ?_ _ _ (by simp <;> omega)))⟩)
        (first | (go_at_call 17; (first | (with_reducible refine (hT1 _).mono ?_) | (with_reducible refine (hT2 _).mono ?_)); rintro e w' ⟨rfl, rfl⟩) | (go_at_call 11; refine (hI _).mono ?_; rintro e w1 ⟨rfl, k1⟩; have hc := fun (b o : Nat) (h : b < _) => k1.cell (p := ⟨b, o, none⟩) h; have hf := fun (b o : Nat) (h : b < _) => k1.frozen (p := ⟨b, o, none⟩) h))
      all_goals
        clear hc hf hI hT1 hT2 x1 y1 bx k0 hE
        go_wp2_with fail
        go_meet
        first | with_reducible refine boxed_new ?_ k1 ?_ | with_reducible refine boxed_set ?_ k1 ?_ ?_ ?_
      all_goals (repeat' (first | with_reducible exact Below.refl _ _ | with_reducible refine Below.drew ?_ | with_reducible refine Below.alloc ?_ ?_ _ | with_reducible refine Box.new_at ?_ | with_reducible refine Box.drew ?_ | with_reducible refine Box.alloc ?_ _))
      all_goals (first | omega | (simp <;> omega) | trace_state)
    case rest =>
      obtain ⟨q, rfl, rfl, bq, kq⟩ := hcut
      have bp := bx.keep kq bx.lt
      replace k0 := k0.trans (kq.mono k0.size)
      clear x1 y1 bx kq hI hT1 hT2
      have c0 := bp.c0
      have c1 := bp.c1
      have d0 := bq.c0
      have d1 := bq.c1
      go_wp2_with fail
      refine (hE _).mono ?_
      rintro e w3 ⟨rfl, k3⟩
      replace k3 := below_more k0 k0.size k3
      clear hE bp bq c0 c1 d0 d1 k0
      go_wp2_with fail
      go_ret
      exact ⟨rfl, k3⟩
set_option maxHeartbeats 4000000 in
theorem exactTimes_walk (t1 b1 t2 b2 T B : Int) (O : Bool) (w : World)
    (hS : ∀ W : World, Calls Try.prog 21 #[.agg #[.int .i64 t1, .int .i64 b1], .agg #[.int .i64 t2, .int .i64 b2]] W (SaysF T B O W))
    (hI : ∀ W : World, Calls Try.prog 12 #[.agg #[.int .i64 t1, .int .i64 b1], .agg #[.int .i64 t2, .int .i64 b2]] W (SaysF T B O W)) :
    Calls Try.prog 7 #[.agg #[.int .i64 t1, .int .i64 b1], .agg #[.int .i64 t2, .int .i64 b2]] w fun e w' => e = .returned (.bool true) ∧ Below w.heap.size w w' := by
  have hT1 := fun W => to_exact t1 b1 W
  have hT2 := fun W => to_exact t2 b2 W
  unfold Three at hT1 hT2
  obtain ⟨x0, y0, k0⟩ := two_boxes w t1 b1 t2 b2 33
  have hE := fun W => same_any T B W
  go_enter Try.func7, Try.ntmps7
  go_wp2_with fail
  go_cut [5, 6] (fun s5 s6 wx => Boxed (w.heap.size + 2) ((w.alloc (.cells #[.int .i64 t1, .int .i64 b1] 33)).alloc (.cells #[.int .i64 t2, .int .i64 b2] 33)) T B O s5 s6 wx)
  case first =>
    clear hI hE k0
    go_region_held3 (fun W => W.cell? ⟨w.heap.size, 0, none⟩ = some (.int .i64 t1) ∧ W.cell? ⟨w.heap.size, 1, none⟩ = some (.int .i64 b1) ∧ W.cell? ⟨w.heap.size + 1, 0, none⟩ = some (.int .i64 t2) ∧ W.cell? ⟨w.heap.size + 1, 1, none⟩ = some (.int .i64 b2)) (exact ⟨Box.c0 (b := b1) (ty := 33) (by repeat' (first | with_reducible exact x0 | with_reducible exact y0 | with_reducible refine Box.drew ?_ | with_reducible refine Box.alloc ?_ _ | with_reducible refine Box.under ?_ k1 | with_reducible refine Box.other ?_ _ _ (by simp <;> omega))), Box.c1 (t := t1) (ty := 33) (by repeat' (first | with_reducible exact x0 | with_reducible exact y0 | with_reducible refine Box.drew ?_ | with_reducible refine Box.alloc ?_ _ | with_reducible refine Box.under ?_ k1 | with_reducible refine Box.other ?_ _ _ (by simp <;> omega))), Box.c0 (b := b2) (ty := 33) (by repeat' (first | with_reducible exact x0 | with_reducible exact y0 | with_reducible refine Box.drew ?_ | with_reducible refine Box.alloc ?_ _ | with_reducible refine Box.under ?_ k1 | with_reducible refine Box.other ?_ _ _ (by simp <;> omega))), Box.c1 (t := t2) (ty := 33) (by repeat' (first | with_reducible exact x0 | with_reducible exact y0 | with_reducible refine Box.drew ?_ | with_reducible refine Box.alloc ?_ _ | with_reducible refine Box.under ?_ k1 | with_reducible refine Box.other ?_ _ _ (by simp <;> omega)))⟩)
      (first | (go_at_call 17; (first | (with_reducible refine (hT1 _).mono ?_) | (with_reducible refine (hT2 _).mono ?_)); rintro e w' ⟨rfl, rfl⟩) | (go_at_call 21; refine (hS _).mono ?_; rintro e w1 ⟨rfl, k1⟩; have hc := fun (b o : Nat) (h : b < _) => k1.cell (p := ⟨b, o, none⟩) h; have hf := fun (b o : Nat) (h : b < _) => k1.frozen (p := ⟨b, o, none⟩) h))
    all_goals
      clear hc hf hS hT1 hT2 x0 y0
      go_wp2_with fail
      go_meet
      first | with_reducible refine boxed_new ?_ k1 ?_ | with_reducible refine boxed_set ?_ k1 ?_ ?_ ?_
    all_goals (repeat' (first | with_reducible exact Below.refl _ _ | with_reducible refine Below.drew ?_ | with_reducible refine Below.alloc ?_ ?_ _ | with_reducible refine Box.new_at ?_ | with_reducible refine Box.drew ?_ | with_reducible refine Box.alloc ?_ _))
    all_goals (first | omega | (simp <;> omega) | trace_state)
  case rest =>
    obtain ⟨p, rfl, rfl, bx, kx⟩ := hcut
    have x1 := x0.keep kx (by omega)
    have y1 := y0.keep kx (by omega)
    replace k0 := k0.trans (kx.mono (by omega))
    have hz : w.heap.size + 2 ≤ wc.heap.size := by
      have := kx.size
      simp at this
      omega
    clear x0 y0 hS kx
    go_upto_region 2 with fail
    go_cut [7, 8] (fun s7 s8 wx => Boxed wc.heap.size wc T B O s7 s8 wx)
    case first =>
      go_region_held3 (fun W => W.cell? ⟨w.heap.size, 0, none⟩ = some (.int .i64 t1) ∧ W.cell? ⟨w.heap.size, 1, none⟩ = some (.int .i64 b1) ∧ W.cell? ⟨w.heap.size + 1, 0, none⟩ = some (.int .i64 t2) ∧ W.cell? ⟨w.heap.size + 1, 1, none⟩ = some (.int .i64 b2)) (exact ⟨Box.c0 (b := b1) (ty := 33) (by repeat' (first | with_reducible exact x1 | with_reducible exact y1 | with_reducible refine Box.drew ?_ | with_reducible refine Box.alloc ?_ _ | with_reducible refine Box.under ?_ k1 | with_reducible refine Box.other ?_ _ _ (by simp <;> omega))), Box.c1 (t := t1) (ty := 33) (by repeat' (first | with_reducible exact x1 | with_reducible exact y1 | with_reducible refine Box.drew ?_ | with_reducible refine Box.alloc ?_ _ | with_reducible refine Box.under ?_ k1 | with_reducible refine Box.other ?_ _ _ (by simp <;> omega))), Box.c0 (b := b2) (ty := 33) (by repeat' (first | with_reducible exact x1 | with_reducible exact y1 | with_reducible refine Box.drew ?_ | with_reducible refine Box.alloc ?_ _ | with_reducible refine Box.under ?_ k1 | with_reducible refine Box.other ?_ _ _ (by simp <;> omega))), Box.c1 (t := t2) (ty := 33) (by repeat' (first | with_reducible exact x1 | with_reducible exact y1 | with_reducible refine Box.drew ?_ | with_reducible refine Box.alloc ?_ _ | with_reducible refine Box.under ?_ k1 | with_reducible refine Box.other ?_ _ _ (by simp <;> omega)))⟩)
        (first | (go_at_call 17; (first | (with_reducible refine (hT1 _).mono ?_) | (with_reducible refine (hT2 _).mono ?_)); rintro e w' ⟨rfl, rfl⟩) | (go_at_call 12; refine (hI _).mono ?_; rintro e w1 ⟨rfl, k1⟩; have hc := fun (b o : Nat) (h : b < _) => k1.cell (p := ⟨b, o, none⟩) h; have hf := fun (b o : Nat) (h : b < _) => k1.frozen (p := ⟨b, o, none⟩) h))
      all_goals
        clear hc hf hI hT1 hT2 x1 y1 bx k0 hE
        go_wp2_with fail
        go_meet
        first | with_reducible refine boxed_new ?_ k1 ?_ | with_reducible refine boxed_set ?_ k1 ?_ ?_ ?_
      all_goals (repeat' (first | with_reducible exact Below.refl _ _ | with_reducible refine Below.drew ?_ | with_reducible refine Below.alloc ?_ ?_ _ | with_reducible refine Box.new_at ?_ | with_reducible refine Box.drew ?_ | with_reducible refine Box.alloc ?_ _))
      all_goals (first | omega | (simp <;> omega) | trace_state)
    case rest =>
      obtain ⟨q, rfl, rfl, bq, kq⟩ := hcut
      have bp := bx.keep kq bx.lt
      replace k0 := k0.trans (kq.mono k0.size)
      clear x1 y1 bx kq hI hT1 hT2
      have c0 := bp.c0
      have c1 := bp.c1
      have d0 := bq.c0
      have d1 := bq.c1
      go_wp2_with fail
      refine (hE _).mono ?_
      rintro e w3 ⟨rfl, k3⟩
      replace k3 := below_more k0 k0.size k3
      clear hE bp bq c0 c1 d0 d1 k0
      go_wp2_with fail
      go_ret
      exact ⟨rfl, k3⟩

theorem exactAdd_any (t1 b1 t2 b2 : Int) (w : World) : Calls Try.prog 6 #[.agg #[.int .i64 t1, .int .i64 b1], .agg #[.int .i64 t2, .int .i64 b2]] w fun e w' => e = .returned (.bool true) ∧ Below w.heap.size w w' := by
  obtain ⟨T, B, O, hS, hI⟩ := add_both t1 b1 t2 b2
  exact exactAdd_walk t1 b1 t2 b2 T B O w hS hI
theorem exactTimes_any (t1 b1 t2 b2 : Int) (w : World) : Calls Try.prog 7 #[.agg #[.int .i64 t1, .int .i64 b1], .agg #[.int .i64 t2, .int .i64 b2]] w fun e w' => e = .returned (.bool true) ∧ Below w.heap.size w w' := by
  obtain ⟨T, B, O, hS, hI⟩ := times_both t1 b1 t2 b2
  exact exactTimes_walk t1 b1 t2 b2 T B O w hS hI
end Go.Proofs.Ytdjlohhpgdegfaa
