/-
  The contracts of the model's functions on lines. Only new memory is written.
-/
import Derived.Test.YtploanbnbkhciaaLine
import Derived.Test.YtploanbnbkhciaaBxLine
import Derived.Test.YtploanbnbkhciaaSpecLine
import Derived.Test.YtploanbnbkhciaaTimesS
import Derived.Test.YtploanbnbkhciaaAddS
import Derived.Deep.RegionLaw
import Derived.Deep.DeepCutAuto
import Derived.Deep.RegionHeld3
namespace Go.Proofs.Ytploanbnbkhciaa
open Go.ChangeShapes Go.WideShapes Go.ChangeAt Go.RowKit Go.PlainAid

set_option maxHeartbeats 4000000 in
set_option maxRecDepth 100000 in
theorem specThr_mid2 (a b c d f g h T1 B1 T2 B2 T3 B3 T4 B4 T5 B5 : Int) (w : World) (O1 O2 O3 O4 O5 O6 : Bool) (k1 : okF a b = true) (k2 : okF c d = true) (k3 : okF a f = true) (k4 : okF g h = true) (hd : ¬ b = f) (l0 : -1000000 ≤ a) (l1 : a ≤ 1000000) (l2 : -1000000 ≤ c) (l3 : c ≤ 1000000) (l4 : O1 = true → O2 = true → -1000000 ≤ T4 ∧ T4 ≤ 1000000)
    (hA : ∀ W : World, Calls Try.prog 40 #[.agg #[.int .i64 a, .int .i64 f], .agg #[.int .i64 (-a), .int .i64 b]] W (SaysF T1 B1 O1 W))
    (hB : ∀ W : World, Calls Try.prog 40 #[.agg #[.int .i64 g, .int .i64 h], .agg #[.int .i64 (-c), .int .i64 d]] W (SaysF T2 B2 O2 W))
    (hO : O1 = true → O2 = true → ∀ W : World, Calls Try.prog 42 #[.agg #[.int .i64 T2, .int .i64 B2], .agg #[.int .i64 T1, .int .i64 B1]] W (SaysF T3 B3 O3 W))
    (hM : O1 = true → O2 = true → ∀ W : World, Calls Try.prog 39 #[.agg #[.int .i64 T3, .int .i64 B3], .agg #[.int .i64 a, .int .i64 b]] W (SaysF T4 B4 O4 W))
    (hZ : O1 = true → O2 = true → ∀ W : World, Calls Try.prog 40 #[.agg #[.int .i64 c, .int .i64 d], .agg #[.int .i64 (-T4), .int .i64 B4]] W (SaysF T5 B5 O5 W))
    (hL : O1 = true → O2 = true → ∀ W : World, Calls Try.prog 17 #[.agg #[.int .i64 T5, .int .i64 B5, .int .i64 T3, .int .i64 B3]] W (SaysB O6 W)) :
    Calls Try.prog 23 #[.agg #[.int .i64 a, .int .i64 b], .agg #[.int .i64 c, .int .i64 d], .agg #[.int .i64 a, .int .i64 f], .agg #[.int .i64 g, .int .i64 h]] w (SaysL (pk (O1 && (O2 && (O3 && (O4 && (O5 && O6))))) T5) (pk (O1 && (O2 && (O3 && (O4 && (O5 && O6))))) B5) (pk (O1 && (O2 && (O3 && (O4 && (O5 && O6))))) T3) (pk (O1 && (O2 && (O3 && (O4 && (O5 && O6))))) B3) (O1 && (O2 && (O3 && (O4 && (O5 && O6))))) w) := by
  have hV1 := fun W => specOk_any a b W
  rw [k1] at hV1
  have hV2 := fun W => specOk_any c d W
  rw [k2] at hV2
  have hV3 := fun W => specOk_any a f W
  rw [k3] at hV3
  have hV4 := fun W => specOk_any g h W
  rw [k4] at hV4
  clear k1 k2 k3 k4
  have hN1 := fun W => minus_exact a b W l0 l1
  have hN2 := fun W => minus_exact c d W l2 l3
  clear l0 l1 l2 l3
  obtain ⟨x, y, u, v, z, kb⟩ := bx_22224 w a b 25 c d 25 a f 25 g h 25 0 0 0 0 27
  obtain ⟨xc0, xc1⟩ := x.cells
  obtain ⟨yc0, yc1⟩ := y.cells
  obtain ⟨uc0, uc1⟩ := u.cells
  obtain ⟨vc0, vc1⟩ := v.cells
  obtain ⟨zc0, zc1, zc2, zc3⟩ := z.cells
  go_enter Try.func23, Try.ntmps23
  go_wp2_with fail
  refine (hV1 _).mono ?_
  rintro en w1 ⟨rfl, b⟩
  replace x := x.under b
  replace y := y.under b
  replace u := u.under b
  replace v := v.under b
  replace z := z.under b
  replace kb := below_more kb kb.size b
  clear b xc0 xc1 yc0 yc1 uc0 uc1 vc0 vc1 zc0 zc1 zc2 zc3 hV1
  generalize hp4 : w.heap.size + 1 + 1 + 1 + 1 = p4 at z ⊢
  generalize hp3 : w.heap.size + 1 + 1 + 1 = p3 at v ⊢
  generalize hp2 : w.heap.size + 1 + 1 = p2 at u ⊢
  generalize hp1 : w.heap.size + 1 = p1 at y ⊢
  have hz : w.heap.size < p1 ∧ p1 < p2 ∧ p2 < p3 ∧ p3 < p4 := by omega
  clear hp1 hp2 hp3 hp4
  obtain ⟨xc0, xc1⟩ := x.cells
  obtain ⟨yc0, yc1⟩ := y.cells
  obtain ⟨uc0, uc1⟩ := u.cells
  obtain ⟨vc0, vc1⟩ := v.cells
  obtain ⟨zc0, zc1, zc2, zc3⟩ := z.cells
  go_wp2_with fail
  refine (hV2 _).mono ?_
  rintro en w2 ⟨rfl, b⟩
  replace x := x.under b
  replace y := y.under b
  replace u := u.under b
  replace v := v.under b
  replace z := z.under b
  replace kb := below_more kb kb.size b
  clear b xc0 xc1 yc0 yc1 uc0 uc1 vc0 vc1 zc0 zc1 zc2 zc3 hV2
  obtain ⟨xc0, xc1⟩ := x.cells
  obtain ⟨yc0, yc1⟩ := y.cells
  obtain ⟨uc0, uc1⟩ := u.cells
  obtain ⟨vc0, vc1⟩ := v.cells
  obtain ⟨zc0, zc1, zc2, zc3⟩ := z.cells
  go_wp2_with fail
  refine (hV3 _).mono ?_
  rintro en w3 ⟨rfl, b⟩
  replace x := x.under b
  replace y := y.under b
  replace u := u.under b
  replace v := v.under b
  replace z := z.under b
  replace kb := below_more kb kb.size b
  clear b xc0 xc1 yc0 yc1 uc0 uc1 vc0 vc1 zc0 zc1 zc2 zc3 hV3
  obtain ⟨xc0, xc1⟩ := x.cells
  obtain ⟨yc0, yc1⟩ := y.cells
  obtain ⟨uc0, uc1⟩ := u.cells
  obtain ⟨vc0, vc1⟩ := v.cells
  obtain ⟨zc0, zc1, zc2, zc3⟩ := z.cells
  go_wp2_with fail
  refine (hV4 _).mono ?_
  rintro en w4 ⟨rfl, b⟩
  replace x := x.under b
  replace y := y.under b
  replace u := u.under b
  replace v := v.under b
  replace z := z.under b
  replace kb := below_more kb kb.size b
  clear b xc0 xc1 yc0 yc1 uc0 uc1 vc0 vc1 zc0 zc1 zc2 zc3 hV4
  obtain ⟨xc0, xc1⟩ := x.cells
  obtain ⟨yc0, yc1⟩ := y.cells
  obtain ⟨uc0, uc1⟩ := u.cells
  obtain ⟨vc0, vc1⟩ := v.cells
  obtain ⟨zc0, zc1, zc2, zc3⟩ := z.cells
  go_wp2_with fail
  clear xc0 xc1 yc0 yc1 uc0 uc1 vc0 vc1 zc0 zc1 zc2 zc3
  go_cut [10, 11] (fun s1 s2 wx => Boxed w4.heap.size w4 T1 B1 O1 s1 s2 wx)
  case first =>
    clear kb
    have ltu := u.lt
    have ltx := x.lt
    go_region_held3 (fun W => (W.cell? ⟨p2, 0, none⟩ = some (.int .i64 a) ∧ W.cell? ⟨p2, 1, none⟩ = some (.int .i64 f)) ∧ (W.cell? ⟨w.heap.size, 0, none⟩ = some (.int .i64 a) ∧ W.cell? ⟨w.heap.size, 1, none⟩ = some (.int .i64 b))) (exact ⟨Box.cells (t := 25) (by repeat' (first | with_reducible exact x | with_reducible exact y | with_reducible exact u | with_reducible exact v | with_reducible exact z | with_reducible refine Box.drew ?_ | with_reducible refine Quad.drew ?_ | with_reducible refine Box.alloc ?_ _ | with_reducible refine Quad.alloc ?_ _ | with_reducible refine Box.under ?_ k1 | with_reducible refine Quad.under ?_ k1 | with_reducible refine Box.other ?_ _ _ (by simp <;> omega) | with_reducible refine Quad.other ?_ _ _ (by simp <;> omega))), Box.cells (t := 25) (by repeat' (first | with_reducible exact x | with_reducible exact y | with_reducible exact u | with_reducible exact v | with_reducible exact z | with_reducible refine Box.drew ?_ | with_reducible refine Quad.drew ?_ | with_reducible refine Box.alloc ?_ _ | with_reducible refine Quad.alloc ?_ _ | with_reducible refine Box.under ?_ k1 | with_reducible refine Quad.under ?_ k1 | with_reducible refine Box.other ?_ _ _ (by simp <;> omega) | with_reducible refine Quad.other ?_ _ _ (by simp <;> omega)))⟩)
      (first | (go_at_call 41; (first | (with_reducible refine (hN1 _).mono ?_)); rintro e w' ⟨rfl, rfl⟩) | (go_at_call 40; refine (hA _).mono ?_; rintro e w1 ⟨rfl, k1⟩; have hc := fun (b o : Nat) (h : b < _) => k1.cell (p := ⟨b, o, none⟩) h; have hf := fun (b o : Nat) (h : b < _) => k1.frozen (p := ⟨b, o, none⟩) h))
    all_goals
      clear hc hf x y u v z
      go_wp2_with fail
      go_meet
      first | with_reducible refine boxed_new ?_ k1 ?_ | with_reducible refine boxed_set ?_ k1 ?_ ?_ ?_
    all_goals (repeat' (first | with_reducible exact Below.refl _ _ | with_reducible refine Below.drew ?_ | with_reducible refine Below.alloc ?_ ?_ _ | with_reducible refine Box.new_at ?_ | with_reducible refine Box.drew ?_ | with_reducible refine Box.alloc ?_ _))
    all_goals (first | omega | (simp <;> omega) | trace_state)
  case rest =>
    obtain ⟨q1, rfl, rfl, p, kx⟩ := hcut
    replace x := x.keep kx x.lt
    replace y := y.keep kx y.lt
    replace u := u.keep kx u.lt
    replace v := v.keep kx v.lt
    replace z := z.keep kx z.lt
    replace kb := kb.trans (kx.mono kb.size)
    clear kx hN1 hA
    go_upto_region 4 with fail
    go_cut [12, 13] (fun s1 s2 wx => Boxed wc.heap.size wc T2 B2 O2 s1 s2 wx)
    case first =>
      clear kb
      have ltv := v.lt
      have lty := y.lt
      go_region_held3 (fun W => (W.cell? ⟨p3, 0, none⟩ = some (.int .i64 g) ∧ W.cell? ⟨p3, 1, none⟩ = some (.int .i64 h)) ∧ (W.cell? ⟨p1, 0, none⟩ = some (.int .i64 c) ∧ W.cell? ⟨p1, 1, none⟩ = some (.int .i64 d))) (exact ⟨Box.cells (t := 25) (by repeat' (first | with_reducible exact x | with_reducible exact y | with_reducible exact u | with_reducible exact v | with_reducible exact z | with_reducible exact p | with_reducible refine Box.drew ?_ | with_reducible refine Quad.drew ?_ | with_reducible refine Box.alloc ?_ _ | with_reducible refine Quad.alloc ?_ _ | with_reducible refine Box.under ?_ k1 | with_reducible refine Quad.under ?_ k1 | with_reducible refine Box.other ?_ _ _ (by simp <;> omega) | with_reducible refine Quad.other ?_ _ _ (by simp <;> omega))), Box.cells (t := 25) (by repeat' (first | with_reducible exact x | with_reducible exact y | with_reducible exact u | with_reducible exact v | with_reducible exact z | with_reducible exact p | with_reducible refine Box.drew ?_ | with_reducible refine Quad.drew ?_ | with_reducible refine Box.alloc ?_ _ | with_reducible refine Quad.alloc ?_ _ | with_reducible refine Box.under ?_ k1 | with_reducible refine Quad.under ?_ k1 | with_reducible refine Box.other ?_ _ _ (by simp <;> omega) | with_reducible refine Quad.other ?_ _ _ (by simp <;> omega)))⟩)
        (first | (go_at_call 41; (first | (with_reducible refine (hN2 _).mono ?_)); rintro e w' ⟨rfl, rfl⟩) | (go_at_call 40; refine (hB _).mono ?_; rintro e w1 ⟨rfl, k1⟩; have hc := fun (b o : Nat) (h : b < _) => k1.cell (p := ⟨b, o, none⟩) h; have hf := fun (b o : Nat) (h : b < _) => k1.frozen (p := ⟨b, o, none⟩) h))
      all_goals
        clear hc hf x y u v z p
        go_wp2_with fail
        go_meet
        first | with_reducible refine boxed_new ?_ k1 ?_ | with_reducible refine boxed_set ?_ k1 ?_ ?_ ?_
      all_goals (repeat' (first | with_reducible exact Below.refl _ _ | with_reducible refine Below.drew ?_ | with_reducible refine Below.alloc ?_ ?_ _ | with_reducible refine Box.new_at ?_ | with_reducible refine Box.drew ?_ | with_reducible refine Box.alloc ?_ _))
      all_goals (first | omega | (simp <;> omega) | trace_state)
    case rest =>
      obtain ⟨q2, rfl, rfl, q, kx⟩ := hcut
      replace x := x.keep kx x.lt
      replace y := y.keep kx y.lt
      replace u := u.keep kx u.lt
      replace v := v.keep kx v.lt
      replace z := z.keep kx z.lt
      replace p := p.keep kx p.lt
      replace kb := kb.trans (kx.mono kb.size)
      clear kx hN2 hB
      go_upto_region 5 with fail
      cases O1
      case false =>
        obtain ⟨xc0, xc1⟩ := x.cells
        obtain ⟨yc0, yc1⟩ := y.cells
        obtain ⟨uc0, uc1⟩ := u.cells
        obtain ⟨vc0, vc1⟩ := v.cells
        obtain ⟨zc0, zc1, zc2, zc3⟩ := z.cells
        obtain ⟨pc0, pc1⟩ := p.cells
        obtain ⟨qc0, qc1⟩ := q.cells
        obtain ⟨zf0, zf1, zf2, zf3⟩ := z.free
        go_wp2_with fail
        (try simp only [Exit.inBlock, Exit.then])
        refine bodyPost_ret (v := .tuple #[.agg #[.int .i64 0, .int .i64 0, .int .i64 0, .int .i64 0], .bool false]) ?_ rfl ⟨rfl, ?_⟩
        · rw [results_cell_tmp rfl]
          go_simp
        · repeat' (first | exact kb | refine Below.setCell ?_ (by simp <;> omega) _)
      case true =>
        cases O2
        case false =>
          obtain ⟨xc0, xc1⟩ := x.cells
          obtain ⟨yc0, yc1⟩ := y.cells
          obtain ⟨uc0, uc1⟩ := u.cells
          obtain ⟨vc0, vc1⟩ := v.cells
          obtain ⟨zc0, zc1, zc2, zc3⟩ := z.cells
          obtain ⟨pc0, pc1⟩ := p.cells
          obtain ⟨qc0, qc1⟩ := q.cells
          obtain ⟨zf0, zf1, zf2, zf3⟩ := z.free
          go_wp2_with fail
          (try simp only [Exit.inBlock, Exit.then])
          refine bodyPost_ret (v := .tuple #[.agg #[.int .i64 0, .int .i64 0, .int .i64 0, .int .i64 0], .bool false]) ?_ rfl ⟨rfl, ?_⟩
          · rw [results_cell_tmp rfl]
            go_simp
          · repeat' (first | exact kb | refine Below.setCell ?_ (by simp <;> omega) _)
        case true =>
          replace l4 := l4 rfl rfl
          replace hO := hO rfl rfl
          replace hM := hM rfl rfl
          replace hZ := hZ rfl rfl
          replace hL := hL rfl rfl
          have hN3 := fun W => minus_exact T4 B4 W l4.1 l4.2
          clear l4
          clear u v
          obtain ⟨xc0, xc1⟩ := x.cells
          obtain ⟨yc0, yc1⟩ := y.cells
          obtain ⟨zc0, zc1, zc2, zc3⟩ := z.cells
          obtain ⟨pc0, pc1⟩ := p.cells
          obtain ⟨qc0, qc1⟩ := q.cells
          go_wp2_with fail
          refine (hO _).mono ?_
          rintro en w7 ⟨rfl, b⟩
          replace x := x.under (b.alloc b.size (.cells #[.int .i64 T3, .int .i64 B3] 25))
          replace y := y.under (b.alloc b.size (.cells #[.int .i64 T3, .int .i64 B3] 25))
          replace z := z.under (b.alloc b.size (.cells #[.int .i64 T3, .int .i64 B3] 25))
          replace p := p.under (b.alloc b.size (.cells #[.int .i64 T3, .int .i64 B3] 25))
          replace q := q.under (b.alloc b.size (.cells #[.int .i64 T3, .int .i64 B3] 25))
          have r := Box.new w7 T3 B3 25
          replace kb := below_more kb kb.size (b.alloc b.size (.cells #[.int .i64 T3, .int .i64 B3] 25))
          clear b xc0 xc1 yc0 yc1 zc0 zc1 zc2 zc3 pc0 pc1 qc0 qc1 hO
          go_upto_region 8 with fail
          generalize w7.heap.size = q3 at r ⊢
          generalize w7.alloc (.cells #[.int .i64 T3, .int .i64 B3] 25) = w8 at r x y z p q kb ⊢
          obtain ⟨xc0, xc1⟩ := x.cells
          obtain ⟨yc0, yc1⟩ := y.cells
          obtain ⟨zc0, zc1, zc2, zc3⟩ := z.cells
          obtain ⟨pc0, pc1⟩ := p.cells
          obtain ⟨qc0, qc1⟩ := q.cells
          obtain ⟨rc0, rc1⟩ := r.cells
          go_wp2_with fail
          refine (hM _).mono ?_
          rintro en w9 ⟨rfl, b⟩
          replace x := x.under (b.alloc b.size (.cells #[.int .i64 T4, .int .i64 B4] 25))
          replace y := y.under (b.alloc b.size (.cells #[.int .i64 T4, .int .i64 B4] 25))
          replace z := z.under (b.alloc b.size (.cells #[.int .i64 T4, .int .i64 B4] 25))
          replace p := p.under (b.alloc b.size (.cells #[.int .i64 T4, .int .i64 B4] 25))
          replace q := q.under (b.alloc b.size (.cells #[.int .i64 T4, .int .i64 B4] 25))
          replace r := r.under (b.alloc b.size (.cells #[.int .i64 T4, .int .i64 B4] 25))
          have s := Box.new w9 T4 B4 25
          replace kb := below_more kb kb.size (b.alloc b.size (.cells #[.int .i64 T4, .int .i64 B4] 25))
          clear b xc0 xc1 yc0 yc1 zc0 zc1 zc2 zc3 pc0 pc1 qc0 qc1 rc0 rc1 hM
          go_upto_region 9 with fail
          generalize w9.heap.size = q4 at s ⊢
          generalize w9.alloc (.cells #[.int .i64 T4, .int .i64 B4] 25) = w10 at s x y z p q r kb ⊢
          clear p q x
          go_cut [18, 19] (fun s1 s2 wx => Boxed w10.heap.size w10 T5 B5 O5 s1 s2 wx)
          case first =>
            clear kb
            have lty := y.lt
            have lts := s.lt
            go_region_held3 (fun W => (W.cell? ⟨p1, 0, none⟩ = some (.int .i64 c) ∧ W.cell? ⟨p1, 1, none⟩ = some (.int .i64 d)) ∧ (W.cell? ⟨q4, 0, none⟩ = some (.int .i64 T4) ∧ W.cell? ⟨q4, 1, none⟩ = some (.int .i64 B4))) (exact ⟨Box.cells (t := 25) (by repeat' (first | with_reducible exact y | with_reducible exact z | with_reducible exact r | with_reducible exact s | with_reducible refine Box.drew ?_ | with_reducible refine Quad.drew ?_ | with_reducible refine Box.alloc ?_ _ | with_reducible refine Quad.alloc ?_ _ | with_reducible refine Box.under ?_ k1 | with_reducible refine Quad.under ?_ k1 | with_reducible refine Box.other ?_ _ _ (by simp <;> omega) | with_reducible refine Quad.other ?_ _ _ (by simp <;> omega))), Box.cells (t := 25) (by repeat' (first | with_reducible exact y | with_reducible exact z | with_reducible exact r | with_reducible exact s | with_reducible refine Box.drew ?_ | with_reducible refine Quad.drew ?_ | with_reducible refine Box.alloc ?_ _ | with_reducible refine Quad.alloc ?_ _ | with_reducible refine Box.under ?_ k1 | with_reducible refine Quad.under ?_ k1 | with_reducible refine Box.other ?_ _ _ (by simp <;> omega) | with_reducible refine Quad.other ?_ _ _ (by simp <;> omega)))⟩)
              (first | (go_at_call 41; (first | (with_reducible refine (hN3 _).mono ?_)); rintro e w' ⟨rfl, rfl⟩) | (go_at_call 40; refine (hZ _).mono ?_; rintro e w1 ⟨rfl, k1⟩; have hc := fun (b o : Nat) (h : b < _) => k1.cell (p := ⟨b, o, none⟩) h; have hf := fun (b o : Nat) (h : b < _) => k1.frozen (p := ⟨b, o, none⟩) h))
            all_goals
              clear hc hf y z r s
              go_wp2_with fail
              go_meet
              first | with_reducible refine boxed_new ?_ k1 ?_ | with_reducible refine boxed_set ?_ k1 ?_ ?_ ?_
            all_goals (repeat' (first | with_reducible exact Below.refl _ _ | with_reducible refine Below.drew ?_ | with_reducible refine Below.alloc ?_ ?_ _ | with_reducible refine Box.new_at ?_ | with_reducible refine Box.drew ?_ | with_reducible refine Box.alloc ?_ _))
            all_goals (first | omega | (simp <;> omega) | trace_state)
          case rest =>
            obtain ⟨q5, rfl, rfl, o, kx⟩ := hcut
            replace y := y.keep kx y.lt
            replace z := z.keep kx z.lt
            replace r := r.keep kx r.lt
            replace s := s.keep kx s.lt
            replace kb := kb.trans (kx.mono kb.size)
            clear kx hN3 hZ
            go_upto_region 10 with fail
            clear y s
            obtain ⟨zc0, zc1, zc2, zc3⟩ := z.cells
            obtain ⟨rc0, rc1⟩ := r.cells
            obtain ⟨oc0, oc1⟩ := o.cells
            go_upto_region 11 with fail
            clear zc0 zc1 zc2 zc3 rc0 rc1 oc0 oc1
            replace z := z.alloc (.cells #[.int .i64 T5, .int .i64 B5, .int .i64 T3, .int .i64 B3] 27)
            replace r := r.alloc (.cells #[.int .i64 T5, .int .i64 B5, .int .i64 T3, .int .i64 B3] 27)
            replace o := o.alloc (.cells #[.int .i64 T5, .int .i64 B5, .int .i64 T3, .int .i64 B3] 27)
            have l := Quad.new wc T5 B5 T3 B3 27
            replace kb := kb.alloc kb.size (.cells #[.int .i64 T5, .int .i64 B5, .int .i64 T3, .int .i64 B3] 27)
            generalize wc.heap.size = q6 at l ⊢
            generalize wc.alloc (.cells #[.int .i64 T5, .int .i64 B5, .int .i64 T3, .int .i64 B3] 27) = w12 at l z r o kb ⊢
            clear o r
            cases O3
            case false =>
              obtain ⟨zc0, zc1, zc2, zc3⟩ := z.cells
              obtain ⟨lc0, lc1, lc2, lc3⟩ := l.cells
              obtain ⟨zf0, zf1, zf2, zf3⟩ := z.free
              go_wp2_with fail
              (try simp only [Exit.inBlock, Exit.then])
              refine bodyPost_ret (v := .tuple #[.agg #[.int .i64 0, .int .i64 0, .int .i64 0, .int .i64 0], .bool false]) ?_ rfl ⟨rfl, ?_⟩
              · rw [results_cell_tmp rfl]
                go_simp
              · repeat' (first | exact kb | refine Below.setCell ?_ (by simp <;> omega) _)
            case true =>
              cases O4
              case false =>
                obtain ⟨zc0, zc1, zc2, zc3⟩ := z.cells
                obtain ⟨lc0, lc1, lc2, lc3⟩ := l.cells
                obtain ⟨zf0, zf1, zf2, zf3⟩ := z.free
                go_wp2_with fail
                (try simp only [Exit.inBlock, Exit.then])
                refine bodyPost_ret (v := .tuple #[.agg #[.int .i64 0, .int .i64 0, .int .i64 0, .int .i64 0], .bool false]) ?_ rfl ⟨rfl, ?_⟩
                · rw [results_cell_tmp rfl]
                  go_simp
                · repeat' (first | exact kb | refine Below.setCell ?_ (by simp <;> omega) _)
              case true =>
                cases O5
                case false =>
                  obtain ⟨zc0, zc1, zc2, zc3⟩ := z.cells
                  obtain ⟨lc0, lc1, lc2, lc3⟩ := l.cells
                  obtain ⟨zf0, zf1, zf2, zf3⟩ := z.free
                  go_wp2_with fail
                  (try simp only [Exit.inBlock, Exit.then])
                  refine bodyPost_ret (v := .tuple #[.agg #[.int .i64 0, .int .i64 0, .int .i64 0, .int .i64 0], .bool false]) ?_ rfl ⟨rfl, ?_⟩
                  · rw [results_cell_tmp rfl]
                    go_simp
                  · repeat' (first | exact kb | refine Below.setCell ?_ (by simp <;> omega) _)
                case true =>
                  obtain ⟨zc0, zc1, zc2, zc3⟩ := z.cells
                  obtain ⟨lc0, lc1, lc2, lc3⟩ := l.cells
                  go_wp2_with fail
                  refine (hL _).mono ?_
                  rintro en w13 ⟨rfl, b⟩
                  replace z := z.under b
                  replace l := l.under b
                  replace kb := below_more kb kb.size b
                  clear b zc0 zc1 zc2 zc3 lc0 lc1 lc2 lc3 hL
                  cases O6
                  case false =>
                    obtain ⟨zc0, zc1, zc2, zc3⟩ := z.cells
                    obtain ⟨lc0, lc1, lc2, lc3⟩ := l.cells
                    obtain ⟨zf0, zf1, zf2, zf3⟩ := z.free
                    go_wp2_with fail
                    (try simp only [Exit.inBlock, Exit.then])
                    refine bodyPost_ret (v := .tuple #[.agg #[.int .i64 0, .int .i64 0, .int .i64 0, .int .i64 0], .bool false]) ?_ rfl ⟨rfl, ?_⟩
                    · rw [results_cell_tmp rfl]
                      go_simp
                    · repeat' (first | exact kb | refine Below.setCell ?_ (by simp <;> omega) _)
                  case true =>
                    obtain ⟨zc0, zc1, zc2, zc3⟩ := z.cells
                    obtain ⟨lc0, lc1, lc2, lc3⟩ := l.cells
                    obtain ⟨zf0, zf1, zf2, zf3⟩ := z.free
                    go_wp2_with fail
                    (try simp only [Exit.inBlock, Exit.then])
                    refine bodyPost_ret (v := .tuple #[.agg #[.int .i64 T5, .int .i64 B5, .int .i64 T3, .int .i64 B3], .bool true]) ?_ rfl ⟨rfl, ?_⟩
                    · rw [results_cell_tmp rfl]
                      go_simp
                    · repeat' (first | exact kb | refine Below.setCell ?_ (by simp <;> omega) _)

end Go.Proofs.Ytploanbnbkhciaa
