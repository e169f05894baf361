/-
  The law that the program's LoadAt answers as the model's does. No condition.
-/
import Derived.Test.YtjgonmabmannaaaToYard
import Derived.Test.YtjgonmabmannaaaSpecYard
import Derived.Test.YtjgonmabmannaaaImplYard
import Derived.Test.YtjgonmabmannaaaFractionSaid
import Derived.Deep.RegionLaw
import Derived.Deep.DeepCutAuto
import Derived.Deep.RegionHeld3
namespace Go.Proofs.Ytjgonmabmannaaa
open Go.ChangeShapes Go.WideShapes Go.ChangeAt Go.RowKit Go.PlainAid

/-- The law's own fraction into the program's: three new blocks. -/
def Three (t b : Int) (w : World) : World := ((w.alloc (.cells #[.int .i64 t, .int .i64 b] 43)).alloc (.cells #[.int .i64 t, .int .i64 b] 29)).alloc (.cells #[.int .i64 t, .int .i64 b] 29)
theorem to_exact (t b : Int) (w : World) : Calls Try.prog 23 #[.agg #[.int .i64 t, .int .i64 b]] w fun e w' => e = .returned (.agg #[.int .i64 t, .int .i64 b]) ∧ w' = Three t b w := by
  go_enter Try.func23, Try.ntmps23
  go_wp2_with fail
  (try simp only [Exit.inBlock, Exit.then])
  refine bodyPost_ret (v := .agg #[.int .i64 t, .int .i64 b]) ?_ rfl ⟨rfl, rfl⟩
  rw [results_cell_one rfl]
  go_simp
/-- What is left of a call whose answer goes into a box of its own: the box; below the block number n nothing has turned. -/
def Boxed (n : Nat) (W0 : World) (T B : Int) (O : Bool) (s5 s6 : Value) (wx : World) : Prop :=
  ∃ p, s5 = .pointer (some ⟨p, 0, none⟩) ∧ s6 = .bool O ∧ Box wx p T B 29 ∧ Below n W0 wx
theorem boxed_new {W0 W w1 : World} {n : Nat} {T B : Int} {O : Bool} (h : Below n W0 W) (k : Below W.heap.size W w1) (hn : n ≤ W.heap.size) :
    Boxed n W0 T B O (.pointer (some ⟨w1.heap.size, 0, none⟩)) (.bool O) (w1.alloc (.cells #[.int .i64 T, .int .i64 B] 29)) :=
  ⟨_, rfl, rfl, Box.new w1 T B _, (h.trans (k.mono hn)).alloc (Nat.le_trans hn k.size) _⟩
theorem boxed_set {W0 W w1 : World} {n p : Nat} {T B : Int} {O : Bool} (h : Below n W0 W) (k : Below W.heap.size W w1) (hn : n ≤ W.heap.size) (hp : n ≤ p) (hb : Box W p 0 0 29) :
    Boxed n W0 T B O (.pointer (some ⟨p, 0, none⟩)) (.bool O) ((w1.setCell ⟨p, 0, none⟩ (.int .i64 T)).setCell ⟨p, 1, none⟩ (.int .i64 B)) :=
  ⟨_, rfl, rfl, (hb.keep k hb.lt).set, ((h.trans (k.mono hn)).setCell hp _).setCell hp _⟩
theorem tri_one (w : World) (a b c x y : Int) (t ty : TypeId) :
    Tri ((w.alloc (obj3 a b c t)).alloc (.cells #[.int .i64 x, .int .i64 y] ty)) w.heap.size a b c t ∧ Box ((w.alloc (obj3 a b c t)).alloc (.cells #[.int .i64 x, .int .i64 y] ty)) (w.heap.size + 1) x y ty ∧
    Below w.heap.size w ((w.alloc (obj3 a b c t)).alloc (.cells #[.int .i64 x, .int .i64 y] ty)) := by
  have h := Box.new (w.alloc (obj3 a b c t)) x y ty
  have e : (w.alloc (obj3 a b c t)).heap.size = w.heap.size + 1 := by simp
  rw [e] at h
  exact ⟨(Tri.new w a b c t).alloc _, h, ((Below.refl _ _).alloc (Nat.le_refl _) _).alloc (by simp) _⟩

set_option maxHeartbeats 4000000 in
theorem exactLoad_any (p s e t b : Int) (w : World) : Calls Try.prog 6 #[agg3 p s e, .agg #[.int .i64 t, .int .i64 b]] w fun e w' => e = .returned (.bool true) ∧ Below w.heap.size w w' := by
  have hT1 := fun W => toYard_exact p s e W
  have hT2 := fun W => to_exact t b W
  unfold ThreeY at hT1
  unfold Three at hT2
  have hS := fun W => specLoad_any p s e t b W
  have hI := fun W => implLoad_any p s e t b W
  generalize ldT p s e t b = T at hS hI
  generalize ldB p s e t b = B at hS hI
  generalize ldO p s e t b = O at hS hI
  have hE := fun W => eqFraction_any T B W
  obtain ⟨y0, x0, k0⟩ := tri_one w p s e t b 37 43
  go_enter Try.func6, Try.ntmps6
  go_wp2_with fail
  go_cut [5, 6] (fun s5 s6 wx => Boxed (w.heap.size + 2) ((w.alloc (obj3 p s e 37)).alloc (.cells #[.int .i64 t, .int .i64 b] 43)) T B O s5 s6 wx)
  case first =>
    clear hI hE k0
    go_region_held3 (fun W => W.cell? ⟨w.heap.size, 0, none⟩ = some (.int .i64 p) ∧ W.cell? ⟨w.heap.size, 1, none⟩ = some (.int .i64 s) ∧ W.cell? ⟨w.heap.size, 2, none⟩ = some (.int .i64 e) ∧ W.cell? ⟨w.heap.size + 1, 0, none⟩ = some (.int .i64 t) ∧ W.cell? ⟨w.heap.size + 1, 1, none⟩ = some (.int .i64 b)) (exact ⟨Tri.c0 (b := s) (c := e) (t := 37) (by repeat' (first | with_reducible exact y0 | with_reducible refine Tri.drew ?_ | with_reducible refine Tri.alloc ?_ _ | with_reducible refine Tri.under ?_ k1 | with_reducible refine Tri.other ?_ _ _ (by simp <;> omega))), Tri.c1 (a := p) (c := e) (t := 37) (by repeat' (first | with_reducible exact y0 | with_reducible refine Tri.drew ?_ | with_reducible refine Tri.alloc ?_ _ | with_reducible refine Tri.under ?_ k1 | with_reducible refine Tri.other ?_ _ _ (by simp <;> omega))), Tri.c2 (a := p) (b := s) (t := 37) (by repeat' (first | with_reducible exact y0 | with_reducible refine Tri.drew ?_ | with_reducible refine Tri.alloc ?_ _ | with_reducible refine Tri.under ?_ k1 | with_reducible refine Tri.other ?_ _ _ (by simp <;> omega))), Box.c0 (b := b) (ty := 43) (by repeat' (first | with_reducible exact x0 | with_reducible refine Box.drew ?_ | with_reducible refine Box.alloc ?_ _ | with_reducible refine Box.under ?_ k1 | with_reducible refine Box.other ?_ _ _ (by simp <;> omega))), Box.c1 (t := t) (ty := 43) (by repeat' (first | with_reducible exact x0 | with_reducible refine Box.drew ?_ | with_reducible refine Box.alloc ?_ _ | with_reducible refine Box.under ?_ k1 | with_reducible refine Box.other ?_ _ _ (by simp <;> omega)))⟩)
      (first | (go_at_call 18; with_reducible refine (hT1 _).mono ?_; rintro en w' ⟨rfl, rfl⟩) | (go_at_call 23; with_reducible refine (hT2 _).mono ?_; rintro en w' ⟨rfl, rfl⟩) | (go_at_call 22; refine (hS _).mono ?_; rintro en w1 ⟨rfl, k1⟩; have hc := fun (b o : Nat) (h : b < _) => k1.cell (p := ⟨b, o, none⟩) h; have hf := fun (b o : Nat) (h : b < _) => k1.frozen (p := ⟨b, o, none⟩) h))
    all_goals
      clear hc hf hS hT1 hT2 x0 y0
      go_wp2_with fail
      go_meet
      first | with_reducible refine boxed_new ?_ k1 ?_ | with_reducible refine boxed_set ?_ k1 ?_ ?_ ?_
    all_goals (repeat' (first | with_reducible exact Below.refl _ _ | with_reducible refine Below.drew ?_ | with_reducible refine Below.alloc ?_ ?_ _ | with_reducible refine Box.new_at ?_ | with_reducible refine Box.drew ?_ | with_reducible refine Box.alloc ?_ _))
    all_goals (first | omega | (simp <;> omega) | trace_state)
  case rest =>
    obtain ⟨g, rfl, rfl, bx, kx⟩ := hcut
    have x1 := x0.keep kx (by omega)
    have y1 := y0.keep kx (by omega)
    replace k0 := k0.trans (kx.mono (by omega))
    have hz : w.heap.size + 2 ≤ wc.heap.size := by
      have := kx.size
      simp at this
      omega
    clear x0 y0 hS kx
    go_upto_region 2 with fail
    go_cut [7, 8] (fun s7 s8 wx => Boxed wc.heap.size wc T B O s7 s8 wx)
    case first =>
      go_region_held3 (fun W => W.cell? ⟨w.heap.size, 0, none⟩ = some (.int .i64 p) ∧ W.cell? ⟨w.heap.size, 1, none⟩ = some (.int .i64 s) ∧ W.cell? ⟨w.heap.size, 2, none⟩ = some (.int .i64 e) ∧ W.cell? ⟨w.heap.size + 1, 0, none⟩ = some (.int .i64 t) ∧ W.cell? ⟨w.heap.size + 1, 1, none⟩ = some (.int .i64 b)) (exact ⟨Tri.c0 (b := s) (c := e) (t := 37) (by repeat' (first | with_reducible exact y1 | with_reducible refine Tri.drew ?_ | with_reducible refine Tri.alloc ?_ _ | with_reducible refine Tri.under ?_ k1 | with_reducible refine Tri.other ?_ _ _ (by simp <;> omega))), Tri.c1 (a := p) (c := e) (t := 37) (by repeat' (first | with_reducible exact y1 | with_reducible refine Tri.drew ?_ | with_reducible refine Tri.alloc ?_ _ | with_reducible refine Tri.under ?_ k1 | with_reducible refine Tri.other ?_ _ _ (by simp <;> omega))), Tri.c2 (a := p) (b := s) (t := 37) (by repeat' (first | with_reducible exact y1 | with_reducible refine Tri.drew ?_ | with_reducible refine Tri.alloc ?_ _ | with_reducible refine Tri.under ?_ k1 | with_reducible refine Tri.other ?_ _ _ (by simp <;> omega))), Box.c0 (b := b) (ty := 43) (by repeat' (first | with_reducible exact x1 | with_reducible refine Box.drew ?_ | with_reducible refine Box.alloc ?_ _ | with_reducible refine Box.under ?_ k1 | with_reducible refine Box.other ?_ _ _ (by simp <;> omega))), Box.c1 (t := t) (ty := 43) (by repeat' (first | with_reducible exact x1 | with_reducible refine Box.drew ?_ | with_reducible refine Box.alloc ?_ _ | with_reducible refine Box.under ?_ k1 | with_reducible refine Box.other ?_ _ _ (by simp <;> omega)))⟩)
        (first | (go_at_call 18; with_reducible refine (hT1 _).mono ?_; rintro en w' ⟨rfl, rfl⟩) | (go_at_call 23; with_reducible refine (hT2 _).mono ?_; rintro en w' ⟨rfl, rfl⟩) | (go_at_call 13; refine (hI _).mono ?_; rintro en w1 ⟨rfl, k1⟩; have hc := fun (b o : Nat) (h : b < _) => k1.cell (p := ⟨b, o, none⟩) h; have hf := fun (b o : Nat) (h : b < _) => k1.frozen (p := ⟨b, o, none⟩) h))
      all_goals
        clear hc hf hI hT1 hT2 x1 y1 bx k0 hE
        go_wp2_with fail
        go_meet
        first | with_reducible refine boxed_new ?_ k1 ?_ | with_reducible refine boxed_set ?_ k1 ?_ ?_ ?_
      all_goals (repeat' (first | with_reducible exact Below.refl _ _ | with_reducible refine Below.drew ?_ | with_reducible refine Below.alloc ?_ ?_ _ | with_reducible refine Box.new_at ?_ | with_reducible refine Box.drew ?_ | with_reducible refine Box.alloc ?_ _))
      all_goals (first | omega | (simp <;> omega) | trace_state)
    case rest =>
      obtain ⟨q, rfl, rfl, bq, kq⟩ := hcut
      have bp := bx.keep kq bx.lt
      replace k0 := k0.trans (kq.mono k0.size)
      clear x1 y1 bx kq hI hT1 hT2
      have c0 := bp.c0
      have c1 := bp.c1
      have d0 := bq.c0
      have d1 := bq.c1
      go_wp2_with fail
      refine (hE _).mono ?_
      rintro en w3 ⟨rfl, k3⟩
      replace k3 := below_more k0 k0.size k3
      clear hE bp bq c0 c1 d0 d1 k0
      go_wp2_with fail
      go_ret
      exact ⟨rfl, k3⟩
end Go.Proofs.Ytjgonmabmannaaa
