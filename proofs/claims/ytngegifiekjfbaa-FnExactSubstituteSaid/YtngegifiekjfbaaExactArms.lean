/-
  The laws that the program's functions on unequal arms answer as the model's do. No condition.
-/
import Derived.Test.YtngegifiekjfbaaSpecArms
import Derived.Test.YtngegifiekjfbaaImplArms
import Derived.Test.YtngegifiekjfbaaSameF
import Derived.Test.YtngegifiekjfbaaToThree
import Derived.Deep.RegionLaw
import Derived.Deep.DeepCutAuto
import Derived.Deep.RegionHeld3
namespace Go.Proofs.Ytngegifiekjfbaa
open Go.ChangeShapes Go.WideShapes Go.ChangeAt Go.RowKit Go.PlainAid

theorem exactAok_any (a b : Int) (w : World) : Calls Try.prog 4 #[.int .i64 a, .int .i64 b] w fun e w' => e = .returned (.bool true) ∧ Below w.heap.size w w' := by
  have hS := fun W => specAok_any a b W
  have hI := fun W => implAok_any a b W
  generalize okA a b = z at hS hI
  go_enter Try.func4, Try.ntmps4
  go_wp2_with fail
  refine (hS _).mono ?_
  rintro en w1 ⟨rfl, rfl⟩
  go_wp2_with fail
  refine (hI _).mono ?_
  rintro en w2 ⟨rfl, rfl⟩
  go_wp2_with fail
  go_ret
  exact ⟨rfl, Below.refl _ _⟩

theorem exactLeft_any (a b n : Int) (w : World) : Calls Try.prog 5 #[.int .i64 a, .int .i64 b, .int .i64 n] w fun e w' => e = .returned (.bool true) ∧ Below w.heap.size w w' := by
  have hS := fun W => specLeft_any a b n W
  have hI := fun W => implLeft_any a b n W
  generalize rdT a b n = T at hS hI
  generalize rdB a b n = B at hS hI
  generalize rdO a b n = O at hS hI
  have hE := fun W => same_any T B W
  have kb := Below.refl w.heap.size w
  go_enter Try.func5, Try.ntmps5
  go_wp2_with fail
  refine (hS _).mono ?_
  rintro en w1 ⟨rfl, b⟩
  have x := Box.new w1 T B 27
  replace kb := below_more kb kb.size (b.alloc b.size (.cells #[.int .i64 T, .int .i64 B] 27))
  clear b hS
  go_upto_region 2 with fail
  generalize w1.heap.size = q at x ⊢
  generalize w1.alloc (.cells #[.int .i64 T, .int .i64 B] 27) = w2 at x kb ⊢
  go_wp2_with fail
  refine (hI _).mono ?_
  rintro en w3 ⟨rfl, b⟩
  replace x := x.under (b.alloc b.size (.cells #[.int .i64 T, .int .i64 B] 27))
  have z := Box.new w3 T B 27
  replace kb := below_more kb kb.size (b.alloc b.size (.cells #[.int .i64 T, .int .i64 B] 27))
  clear b hI
  go_upto_region 3 with fail
  generalize w3.heap.size = q2 at z ⊢
  generalize w3.alloc (.cells #[.int .i64 T, .int .i64 B] 27) = w4 at x z kb ⊢
  obtain ⟨c0, c1, d0, d1⟩ := And.intro x.c0 (And.intro x.c1 (And.intro z.c0 z.c1))
  clear x z
  go_wp2_with fail
  refine (hE _).mono ?_
  rintro en w5 ⟨rfl, b⟩
  replace kb := below_more kb kb.size b
  clear b hE c0 c1 d0 d1
  go_wp2_with fail
  go_ret
  exact ⟨rfl, kb⟩

theorem exactRight_any (a b n : Int) (w : World) : Calls Try.prog 6 #[.int .i64 a, .int .i64 b, .int .i64 n] w fun e w' => e = .returned (.bool true) ∧ Below w.heap.size w w' := by
  have hS := fun W => specRight_any a b n W
  have hI := fun W => implRight_any a b n W
  generalize rdT b a n = T at hS hI
  generalize rdB b a n = B at hS hI
  generalize rdO b a n = O at hS hI
  have hE := fun W => same_any T B W
  have kb := Below.refl w.heap.size w
  go_enter Try.func6, Try.ntmps6
  go_wp2_with fail
  refine (hS _).mono ?_
  rintro en w1 ⟨rfl, b⟩
  have x := Box.new w1 T B 27
  replace kb := below_more kb kb.size (b.alloc b.size (.cells #[.int .i64 T, .int .i64 B] 27))
  clear b hS
  go_upto_region 2 with fail
  generalize w1.heap.size = q at x ⊢
  generalize w1.alloc (.cells #[.int .i64 T, .int .i64 B] 27) = w2 at x kb ⊢
  go_wp2_with fail
  refine (hI _).mono ?_
  rintro en w3 ⟨rfl, b⟩
  replace x := x.under (b.alloc b.size (.cells #[.int .i64 T, .int .i64 B] 27))
  have z := Box.new w3 T B 27
  replace kb := below_more kb kb.size (b.alloc b.size (.cells #[.int .i64 T, .int .i64 B] 27))
  clear b hI
  go_upto_region 3 with fail
  generalize w3.heap.size = q2 at z ⊢
  generalize w3.alloc (.cells #[.int .i64 T, .int .i64 B] 27) = w4 at x z kb ⊢
  obtain ⟨c0, c1, d0, d1⟩ := And.intro x.c0 (And.intro x.c1 (And.intro z.c0 z.c1))
  clear x z
  go_wp2_with fail
  refine (hE _).mono ?_
  rintro en w5 ⟨rfl, b⟩
  replace kb := below_more kb kb.size b
  clear b hE c0 c1 d0 d1
  go_wp2_with fail
  go_ret
  exact ⟨rfl, kb⟩

set_option maxHeartbeats 4000000 in
theorem exactSquare_walk (t1 b1 t2 b2 T B : Int) (O : Bool) (w : World)
    (hS : ∀ W : World, Calls Try.prog 22 #[.agg #[.int .i64 t1, .int .i64 b1], .agg #[.int .i64 t2, .int .i64 b2]] W (SaysF T B O W))
    (hI : ∀ W : World, Calls Try.prog 14 #[.agg #[.int .i64 t1, .int .i64 b1], .agg #[.int .i64 t2, .int .i64 b2]] W (SaysF T B O W)) :
    Calls Try.prog 7 #[.agg #[.int .i64 t1, .int .i64 b1], .agg #[.int .i64 t2, .int .i64 b2]] w fun e w' => e = .returned (.bool true) ∧ Below w.heap.size w w' := by
  have hT1 := fun W => to_exact t1 b1 W
  have hT2 := fun W => to_exact t2 b2 W
  unfold Three at hT1 hT2
  obtain ⟨x0, y0, k0⟩ := two_boxes w t1 b1 t2 b2 35
  have hE := fun W => same_any T B W
  go_enter Try.func7, Try.ntmps7
  go_wp2_with fail
  go_cut [5, 6] (fun s5 s6 wx => Boxed (w.heap.size + 2) ((w.alloc (.cells #[.int .i64 t1, .int .i64 b1] 35)).alloc (.cells #[.int .i64 t2, .int .i64 b2] 35)) T B O s5 s6 wx)
  case first =>
    clear hI hE k0
    go_region_held3 (fun W => W.cell? ⟨w.heap.size, 0, none⟩ = some (.int .i64 t1) ∧ W.cell? ⟨w.heap.size, 1, none⟩ = some (.int .i64 b1) ∧ W.cell? ⟨w.heap.size + 1, 0, none⟩ = some (.int .i64 t2) ∧ W.cell? ⟨w.heap.size + 1, 1, none⟩ = some (.int .i64 b2)) (exact ⟨Box.c0 (b := b1) (ty := 35) (by repeat' (first | with_reducible exact x0 | with_reducible exact y0 | with_reducible refine Box.drew ?_ | with_reducible refine Box.alloc ?_ _ | with_reducible refine Box.under ?_ k1 | with_reducible refine Box.other ?_ _ _ (by simp <;> omega))), Box.c1 (t := t1) (ty := 35) (by repeat' (first | with_reducible exact x0 | with_reducible exact y0 | with_reducible refine Box.drew ?_ | with_reducible refine Box.alloc ?_ _ | with_reducible refine Box.under ?_ k1 | with_reducible refine Box.other ?_ _ _ (by simp <;> omega))), Box.c0 (b := b2) (ty := 35) (by repeat' (first | with_reducible exact x0 | with_reducible exact y0 | with_reducible refine Box.drew ?_ | with_reducible refine Box.alloc ?_ _ | with_reducible refine Box.under ?_ k1 | with_reducible refine Box.other ?_ _ _ (by simp <;> omega))), Box.c1 (t := t2) (ty := 35) (by repeat' (first | with_reducible exact x0 | with_reducible exact y0 | with_reducible refine Box.drew ?_ | with_reducible refine Box.alloc ?_ _ | with_reducible refine Box.under ?_ k1 | with_reducible refine Box.other ?_ _ _ (by simp <;> omega)))⟩)
      (first | (go_at_call 23; (first | (with_reducible refine (hT1 _).mono ?_) | (with_reducible refine (hT2 _).mono ?_)); rintro e w' ⟨rfl, rfl⟩) | (go_at_call 22; refine (hS _).mono ?_; rintro e w1 ⟨rfl, k1⟩; have hc := fun (b o : Nat) (h : b < _) => k1.cell (p := ⟨b, o, none⟩) h; have hf := fun (b o : Nat) (h : b < _) => k1.frozen (p := ⟨b, o, none⟩) h))
    all_goals
      clear hc hf hS hT1 hT2 x0 y0
      go_wp2_with fail
      go_meet
      first | with_reducible refine boxed_new ?_ k1 ?_ | with_reducible refine boxed_set ?_ k1 ?_ ?_ ?_
    all_goals (repeat' (first | with_reducible exact Below.refl _ _ | with_reducible refine Below.drew ?_ | with_reducible refine Below.alloc ?_ ?_ _ | with_reducible refine Box.new_at ?_ | with_reducible refine Box.drew ?_ | with_reducible refine Box.alloc ?_ _))
    all_goals (first | omega | (simp <;> omega) | trace_state)
  case rest =>
    obtain ⟨p, rfl, rfl, bx, kx⟩ := hcut
    have x1 := x0.keep kx (by omega)
    have y1 := y0.keep kx (by omega)
    replace k0 := k0.trans (kx.mono (by omega))
    have hz : w.heap.size + 2 ≤ wc.heap.size := by
      have := kx.size
      simp at this
      omega
    clear x0 y0 hS kx
    go_upto_region 2 with fail
    go_cut [7, 8] (fun s7 s8 wx => Boxed wc.heap.size wc T B O s7 s8 wx)
    case first =>
      go_region_held3 (fun W => W.cell? ⟨w.heap.size, 0, none⟩ = some (.int .i64 t1) ∧ W.cell? ⟨w.heap.size, 1, none⟩ = some (.int .i64 b1) ∧ W.cell? ⟨w.heap.size + 1, 0, none⟩ = some (.int .i64 t2) ∧ W.cell? ⟨w.heap.size + 1, 1, none⟩ = some (.int .i64 b2)) (exact ⟨Box.c0 (b := b1) (ty := 35) (by repeat' (first | with_reducible exact x1 | with_reducible exact y1 | with_reducible refine Box.drew ?_ | with_reducible refine Box.alloc ?_ _ | with_reducible refine Box.under ?_ k1 | with_reducible refine Box.other ?_ _ _ (by simp <;> omega))), Box.c1 (t := t1) (ty := 35) (by repeat' (first | with_reducible exact x1 | with_reducible exact y1 | with_reducible refine Box.drew ?_ | with_reducible refine Box.alloc ?_ _ | with_reducible refine Box.under ?_ k1 | with_reducible refine Box.other ?_ _ _ (by simp <;> omega))), Box.c0 (b := b2) (ty := 35) (by repeat' (first | with_reducible exact x1 | with_reducible exact y1 | with_reducible refine Box.drew ?_ | with_reducible refine Box.alloc ?_ _ | with_reducible refine Box.under ?_ k1 | with_reducible refine Box.other ?_ _ _ (by simp <;> omega))), Box.c1 (t := t2) (ty := 35) (by repeat' (first | with_reducible exact x1 | with_reducible exact y1 | with_reducible refine Box.drew ?_ | with_reducible refine Box.alloc ?_ _ | with_reducible refine Box.under ?_ k1 | with_reducible refine Box.other ?_ _ _ (by simp <;> omega)))⟩)
        (first | (go_at_call 23; (first | (with_reducible refine (hT1 _).mono ?_) | (with_reducible refine (hT2 _).mono ?_)); rintro e w' ⟨rfl, rfl⟩) | (go_at_call 14; refine (hI _).mono ?_; rintro e w1 ⟨rfl, k1⟩; have hc := fun (b o : Nat) (h : b < _) => k1.cell (p := ⟨b, o, none⟩) h; have hf := fun (b o : Nat) (h : b < _) => k1.frozen (p := ⟨b, o, none⟩) h))
      all_goals
        clear hc hf hI hT1 hT2 x1 y1 bx k0 hE
        go_wp2_with fail
        go_meet
        first | with_reducible refine boxed_new ?_ k1 ?_ | with_reducible refine boxed_set ?_ k1 ?_ ?_ ?_
      all_goals (repeat' (first | with_reducible exact Below.refl _ _ | with_reducible refine Below.drew ?_ | with_reducible refine Below.alloc ?_ ?_ _ | with_reducible refine Box.new_at ?_ | with_reducible refine Box.drew ?_ | with_reducible refine Box.alloc ?_ _))
      all_goals (first | omega | (simp <;> omega) | trace_state)
    case rest =>
      obtain ⟨q, rfl, rfl, bq, kq⟩ := hcut
      have bp := bx.keep kq bx.lt
      replace k0 := k0.trans (kq.mono k0.size)
      clear x1 y1 bx kq hI hT1 hT2
      have c0 := bp.c0
      have c1 := bp.c1
      have d0 := bq.c0
      have d1 := bq.c1
      go_wp2_with fail
      refine (hE _).mono ?_
      rintro e w3 ⟨rfl, k3⟩
      replace k3 := below_more k0 k0.size k3
      clear hE bp bq c0 c1 d0 d1 k0
      go_wp2_with fail
      go_ret
      exact ⟨rfl, k3⟩


set_option maxHeartbeats 4000000 in
theorem exactRatio_walk (t1 b1 t2 b2 T B : Int) (O : Bool) (w : World)
    (hS : ∀ W : World, Calls Try.prog 24 #[.agg #[.int .i64 t1, .int .i64 b1], .agg #[.int .i64 t2, .int .i64 b2]] W (SaysF T B O W))
    (hI : ∀ W : World, Calls Try.prog 17 #[.agg #[.int .i64 t1, .int .i64 b1], .agg #[.int .i64 t2, .int .i64 b2]] W (SaysF T B O W)) :
    Calls Try.prog 8 #[.agg #[.int .i64 t1, .int .i64 b1], .agg #[.int .i64 t2, .int .i64 b2]] w fun e w' => e = .returned (.bool true) ∧ Below w.heap.size w w' := by
  have hT1 := fun W => to_exact t1 b1 W
  have hT2 := fun W => to_exact t2 b2 W
  unfold Three at hT1 hT2
  obtain ⟨x0, y0, k0⟩ := two_boxes w t1 b1 t2 b2 35
  have hE := fun W => same_any T B W
  go_enter Try.func8, Try.ntmps8
  go_wp2_with fail
  go_cut [5, 6] (fun s5 s6 wx => Boxed (w.heap.size + 2) ((w.alloc (.cells #[.int .i64 t1, .int .i64 b1] 35)).alloc (.cells #[.int .i64 t2, .int .i64 b2] 35)) T B O s5 s6 wx)
  case first =>
    clear hI hE k0
    go_region_held3 (fun W => W.cell? ⟨w.heap.size, 0, none⟩ = some (.int .i64 t1) ∧ W.cell? ⟨w.heap.size, 1, none⟩ = some (.int .i64 b1) ∧ W.cell? ⟨w.heap.size + 1, 0, none⟩ = some (.int .i64 t2) ∧ W.cell? ⟨w.heap.size + 1, 1, none⟩ = some (.int .i64 b2)) (exact ⟨Box.c0 (b := b1) (ty := 35) (by repeat' (first | with_reducible exact x0 | with_reducible exact y0 | with_reducible refine Box.drew ?_ | with_reducible refine Box.alloc ?_ _ | with_reducible refine Box.under ?_ k1 | with_reducible refine Box.other ?_ _ _ (by simp <;> omega))), Box.c1 (t := t1) (ty := 35) (by repeat' (first | with_reducible exact x0 | with_reducible exact y0 | with_reducible refine Box.drew ?_ | with_reducible refine Box.alloc ?_ _ | with_reducible refine Box.under ?_ k1 | with_reducible refine Box.other ?_ _ _ (by simp <;> omega))), Box.c0 (b := b2) (ty := 35) (by repeat' (first | with_reducible exact x0 | with_reducible exact y0 | with_reducible refine Box.drew ?_ | with_reducible refine Box.alloc ?_ _ | with_reducible refine Box.under ?_ k1 | with_reducible refine Box.other ?_ _ _ (by simp <;> omega))), Box.c1 (t := t2) (ty := 35) (by repeat' (first | with_reducible exact x0 | with_reducible exact y0 | with_reducible refine Box.drew ?_ | with_reducible refine Box.alloc ?_ _ | with_reducible refine Box.under ?_ k1 | with_reducible refine Box.other ?_ _ _ (by simp <;> omega)))⟩)
      (first | (go_at_call 23; (first | (with_reducible refine (hT1 _).mono ?_) | (with_reducible refine (hT2 _).mono ?_)); rintro e w' ⟨rfl, rfl⟩) | (go_at_call 24; refine (hS _).mono ?_; rintro e w1 ⟨rfl, k1⟩; have hc := fun (b o : Nat) (h : b < _) => k1.cell (p := ⟨b, o, none⟩) h; have hf := fun (b o : Nat) (h : b < _) => k1.frozen (p := ⟨b, o, none⟩) h))
    all_goals
      clear hc hf hS hT1 hT2 x0 y0
      go_wp2_with fail
      go_meet
      first | with_reducible refine boxed_new ?_ k1 ?_ | with_reducible refine boxed_set ?_ k1 ?_ ?_ ?_
    all_goals (repeat' (first | with_reducible exact Below.refl _ _ | with_reducible refine Below.drew ?_ | with_reducible refine Below.alloc ?_ ?_ _ | with_reducible refine Box.new_at ?_ | with_reducible refine Box.drew ?_ | with_reducible refine Box.alloc ?_ _))
    all_goals (first | omega | (simp <;> omega) | trace_state)
  case rest =>
    obtain ⟨p, rfl, rfl, bx, kx⟩ := hcut
    have x1 := x0.keep kx (by omega)
    have y1 := y0.keep kx (by omega)
    replace k0 := k0.trans (kx.mono (by omega))
    have hz : w.heap.size + 2 ≤ wc.heap.size := by
      have := kx.size
      simp at this
      omega
    clear x0 y0 hS kx
    go_upto_region 2 with fail
    go_cut [7, 8] (fun s7 s8 wx => Boxed wc.heap.size wc T B O s7 s8 wx)
    case first =>
      go_region_held3 (fun W => W.cell? ⟨w.heap.size, 0, none⟩ = some (.int .i64 t1) ∧ W.cell? ⟨w.heap.size, 1, none⟩ = some (.int .i64 b1) ∧ W.cell? ⟨w.heap.size + 1, 0, none⟩ = some (.int .i64 t2) ∧ W.cell? ⟨w.heap.size + 1, 1, none⟩ = some (.int .i64 b2)) (exact ⟨Box.c0 (b := b1) (ty := 35) (by repeat' (first | with_reducible exact x1 | with_reducible exact y1 | with_reducible refine Box.drew ?_ | with_reducible refine Box.alloc ?_ _ | with_reducible refine Box.under ?_ k1 | with_reducible refine Box.other ?_ _ _ (by simp <;> omega))), Box.c1 (t := t1) (ty := 35) (by repeat' (first | with_reducible exact x1 | with_reducible exact y1 | with_reducible refine Box.drew ?_ | with_reducible refine Box.alloc ?_ _ | with_reducible refine Box.under ?_ k1 | with_reducible refine Box.other ?_ _ _ (by simp <;> omega))), Box.c0 (b := b2) (ty := 35) (by repeat' (first | with_reducible exact x1 | with_reducible exact y1 | with_reducible refine Box.drew ?_ | with_reducible refine Box.alloc ?_ _ | with_reducible refine Box.under ?_ k1 | with_reducible refine Box.other ?_ _ _ (by simp <;> omega))), Box.c1 (t := t2) (ty := 35) (by repeat' (first | with_reducible exact x1 | with_reducible exact y1 | with_reducible refine Box.drew ?_ | with_reducible refine Box.alloc ?_ _ | with_reducible refine Box.under ?_ k1 | with_reducible refine Box.other ?_ _ _ (by simp <;> omega)))⟩)
        (first | (go_at_call 23; (first | (with_reducible refine (hT1 _).mono ?_) | (with_reducible refine (hT2 _).mono ?_)); rintro e w' ⟨rfl, rfl⟩) | (go_at_call 17; refine (hI _).mono ?_; rintro e w1 ⟨rfl, k1⟩; have hc := fun (b o : Nat) (h : b < _) => k1.cell (p := ⟨b, o, none⟩) h; have hf := fun (b o : Nat) (h : b < _) => k1.frozen (p := ⟨b, o, none⟩) h))
      all_goals
        clear hc hf hI hT1 hT2 x1 y1 bx k0 hE
        go_wp2_with fail
        go_meet
        first | with_reducible refine boxed_new ?_ k1 ?_ | with_reducible refine boxed_set ?_ k1 ?_ ?_ ?_
      all_goals (repeat' (first | with_reducible exact Below.refl _ _ | with_reducible refine Below.drew ?_ | with_reducible refine Below.alloc ?_ ?_ _ | with_reducible refine Box.new_at ?_ | with_reducible refine Box.drew ?_ | with_reducible refine Box.alloc ?_ _))
      all_goals (first | omega | (simp <;> omega) | trace_state)
    case rest =>
      obtain ⟨q, rfl, rfl, bq, kq⟩ := hcut
      have bp := bx.keep kq bx.lt
      replace k0 := k0.trans (kq.mono k0.size)
      clear x1 y1 bx kq hI hT1 hT2
      have c0 := bp.c0
      have c1 := bp.c1
      have d0 := bq.c0
      have d1 := bq.c1
      go_wp2_with fail
      refine (hE _).mono ?_
      rintro e w3 ⟨rfl, k3⟩
      replace k3 := below_more k0 k0.size k3
      clear hE bp bq c0 c1 d0 d1 k0
      go_wp2_with fail
      go_ret
      exact ⟨rfl, k3⟩


theorem exactSquare_any (t1 b1 t2 b2 : Int) (w : World) : Calls Try.prog 7 #[.agg #[.int .i64 t1, .int .i64 b1], .agg #[.int .i64 t2, .int .i64 b2]] w fun e w' => e = .returned (.bool true) ∧ Below w.heap.size w w' := by
  cases h1 : okF t1 b1
  · exact exactSquare_walk t1 b1 t2 b2 _ _ _ w (fun W => specSquare_walk _ _ _ _ _ _ _ W fun W => specTimes_no1 _ _ _ _ W h1) (fun W => implSquare_walk _ _ _ _ _ _ _ W fun W => implTimes_no1 _ _ _ _ W h1)
  · cases h2 : okF t2 b2
    · exact exactSquare_walk t1 b1 t2 b2 _ _ _ w (fun W => specSquare_walk _ _ _ _ _ _ _ W fun W => specTimes_no2 _ _ _ _ W h1 h2) (fun W => implSquare_walk _ _ _ _ _ _ _ W fun W => implTimes_no2 _ _ _ _ W h1 h2)
    · exact exactSquare_walk t1 b1 t2 b2 _ _ _ w (fun W => specSquare_walk _ _ _ _ _ _ _ W fun W => specTimes_any _ _ _ _ W h1 h2) (fun W => implSquare_walk _ _ _ _ _ _ _ W fun W => implTimes_any _ _ _ _ W h1 h2)
theorem exactRatio_any (t1 b1 t2 b2 : Int) (w : World) : Calls Try.prog 8 #[.agg #[.int .i64 t1, .int .i64 b1], .agg #[.int .i64 t2, .int .i64 b2]] w fun e w' => e = .returned (.bool true) ∧ Below w.heap.size w w' :=
  exactRatio_walk t1 b1 t2 b2 _ _ _ w (fun W => specRatio_any t1 b1 t2 b2 W) (fun W => implRatio_any t1 b1 t2 b2 W)

theorem exactSubst_any (a b n t u : Int) (w : World) : Calls Try.prog 9 #[.int .i64 a, .int .i64 b, .int .i64 n, .agg #[.int .i64 t, .int .i64 u]] w fun e w' => e = .returned (.bool true) ∧ Below w.heap.size w w' := by
  have hT := fun W => to_below t u W
  have hS := fun W => specSubst_any a b n t u W
  have hI := fun W => implSubst_any a b n t u W
  generalize suT a b n t u = T at hS hI
  generalize suB a b n t u = B at hS hI
  generalize suO a b n t u = O at hS hI
  have hE := fun W => same_any T B W
  have y := Box.new w t u 35
  have kb := below_new w (.cells #[.int .i64 t, .int .i64 u] 35)
  go_enter Try.func9, Try.ntmps9
  obtain ⟨a0, a1⟩ := And.intro y.c0 y.c1
  go_wp2_with fail
  refine (hT _).mono ?_
  rintro en w1 ⟨rfl, b⟩
  replace y := y.under b
  replace kb := below_more kb kb.size b
  clear b a0 a1
  go_wp2_with fail
  refine (hS _).mono ?_
  rintro en w2 ⟨rfl, b⟩
  replace y := y.under (b.alloc b.size (.cells #[.int .i64 T, .int .i64 B] 27))
  have x := Box.new w2 T B 27
  replace kb := below_more kb kb.size (b.alloc b.size (.cells #[.int .i64 T, .int .i64 B] 27))
  clear b hS
  go_upto_region 2 with fail
  generalize w2.heap.size = q at x ⊢
  generalize w2.alloc (.cells #[.int .i64 T, .int .i64 B] 27) = w3 at x y kb ⊢
  obtain ⟨a0, a1⟩ := And.intro y.c0 y.c1
  go_wp2_with fail
  refine (hT _).mono ?_
  rintro en w1 ⟨rfl, b⟩
  replace y := y.under b
  replace x := x.under b
  replace kb := below_more kb kb.size b
  clear b a0 a1
  go_wp2_with fail
  refine (hI _).mono ?_
  rintro en w4 ⟨rfl, b⟩
  replace x := x.under (b.alloc b.size (.cells #[.int .i64 T, .int .i64 B] 27))
  have z := Box.new w4 T B 27
  replace kb := below_more kb kb.size (b.alloc b.size (.cells #[.int .i64 T, .int .i64 B] 27))
  clear b hI y hT
  go_upto_region 3 with fail
  generalize w4.heap.size = q2 at z ⊢
  generalize w4.alloc (.cells #[.int .i64 T, .int .i64 B] 27) = w5 at x z kb ⊢
  obtain ⟨c0, c1, d0, d1⟩ := And.intro x.c0 (And.intro x.c1 (And.intro z.c0 z.c1))
  clear x z
  go_wp2_with fail
  refine (hE _).mono ?_
  rintro en w6 ⟨rfl, b⟩
  replace kb := below_more kb kb.size b
  clear b hE c0 c1 d0 d1
  go_wp2_with fail
  go_ret
  exact ⟨rfl, kb⟩

end Go.Proofs.Ytngegifiekjfbaa
