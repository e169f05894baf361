/-
  The contract of the program's pouring of a list of acts. Only new memory is written.
-/
import Derived.Test.YtmoncfplcmdpcaaImplPour
import Derived.Test.YtmoncfplcmdpcaaPourAll
import Derived.Lib.Hide
import Derived.Deep.Cut
namespace Go.Proofs.Ytmoncfplcmdpcaa
open Go.ChangeShapes Go.WideShapes Go.ChangeAt Go.RowKit Go.PlainAid

set_option maxHeartbeats 1600000 in
theorem implAll_any (a b x y : Int) (A : Option Addr) (c n : Nat) (L : List Int) (w : World) (hn : L.length = n) (hm : n ≤ 1000000000) (h : IntRow w A L) :
    Calls Try.prog 13 #[jagg a b x y, .slice A n c] w (GivesJB a b (paS a b x y L).1 (paS a b x y L).2 (paO a b x y L) w) := by
  have hP := fun X Y act W => implPour_any a b X Y act W
  have hO := fun W => implJugsOk_any a b x y W
  have b0 : Below w.heap.size w ((w.alloc (jobj a b x y 30)).alloc (jobj 0 0 0 0 30)) := ((Below.refl _ _).alloc (Nat.le_refl _) _).alloc (by simp) _
  have p1 := (JBox.new w a b x y).alloc (jobj 0 0 0 0 30)
  have p2 := JBox.new (w.alloc (jobj a b x y 30)) 0 0 0 0
  rw [show (w.alloc (jobj a b x y 30)).heap.size = w.heap.size + 1 by simp] at p2
  obtain ⟨Z, hZ⟩ : ∃ Z, paS a b x y L = Z := ⟨_, rfl⟩
  obtain ⟨z, hz⟩ : ∃ z, paO a b x y L = z := ⟨_, rfl⟩
  rw [hZ, hz]
  replace hZ := Lib.hid hZ
  replace hz := Lib.hid hz
  by_cases hg : okJ a b x y = true ∧ L.length ≤ 100
  · obtain ⟨hok, h100⟩ := hg
    rw [hok] at hO
    have hni : (n : Int) ≤ 100 := by omega
    have hok2 := Lib.hid hok
    have h1002 := Lib.hid h100
    clear hok h100
    go_enter Try.func13, Try.ntmps13
    go_wp2_with fail
    refine (hO _).mono ?_
    clear hO
    rintro e w1 ⟨rfl, b1⟩
    replace p1 := p1.keep b1 p1.lt
    replace p2 := p2.keep b1 p2.lt
    replace b0 := below_more b0 b0.size b1
    clear b1
    obtain ⟨c10, c11, c12, c13⟩ := p1.cells
    have p3 := JBox.new w1 a b x y
    have l1 := p1.lt
    have l2 := p2.lt
    go_wp2_with fail
    clear c10 c11 c12 c13
    replace p1 := p1.alloc (jobj a b x y 30)
    replace p2 := p2.alloc (jobj a b x y 30)
    replace b0 := b0.alloc b0.size (jobj a b x y 30)
    generalize hg3 : w1.heap.size = g3 at l1 l2 p3 ⊢
    generalize w1.alloc (jobj a b x y 30) = w2 at p1 p2 p3 b0 ⊢
    clear hg3
    go_loopw [23] (fun i wr => ∃ (k : Nat) (X Y : Int), k ≤ n ∧ i = .int .i64 k ∧ run (stp a b) (x, y) (L.take k) = some (X, Y) ∧ JBox wr w.heap.size a b x y ∧ JBox wr (w.heap.size + 1) 0 0 0 0 ∧ JBox wr g3 a b X Y ∧ Below w.heap.size w wr) (fun i _ => n - (intOf i).toNat)
    case atStart => exact ⟨0, x, y, by omega, rfl, rfl, p1, p2, p3, b0⟩
    case round =>
      clear p1 p2 p3 b0
      obtain ⟨k, X, Y, hk, rfl, hr, p1, p2, p3, b0⟩ := hrel
      have l3 := p3.lt
      by_cases hlt : k < n
      · obtain ⟨xa, rfl, hxb, hx⟩ := h k (by omega)
        replace hx : wr.cell? (xa.add k) = some (.int .i64 (L.getD k 0)) := (b0.cell (by rw [addr_add_block]; exact hxb)).trans hx
        have hs := pour_stp (a := a) (b := b) (s := (X, Y)) (act := L.getD k 0)
        have hr2 := run_take (by omega) hr
        dsimp only at hs
        replace hP := hP X Y (L.getD k 0)
        generalize L.getD k 0 = act at hx hs hr2 hP
        generalize pS a b X Y act = T at hs hP
        generalize pO a b X Y act = o at hs hP
        obtain ⟨X', Y'⟩ := T
        dsimp only at hP
        have hki : (k : Int) < n := by omega
        replace hs := Lib.hid hs
        replace hr2 := Lib.hid hr2
        replace hr := Lib.hid hr
        obtain ⟨c30, c31, c32, c33⟩ := p3.cells
        clear h
        go_wp2_with fail
        refine (hP _).mono ?_
        clear hP c30 c31 c32 c33 hx
        rintro e w3 ⟨rfl, b1⟩
        replace p1 := p1.keep b1 p1.lt
        replace p2 := p2.keep b1 p2.lt
        replace p3 := p3.keep b1 p3.lt
        replace b0 := below_more b0 b0.size b1
        clear b1
        have pg := JBox.new w3 a b X' Y'
        have m1 := p1.lt
        have m2 := p2.lt
        have m3 := p3.lt
        replace p1 := p1.alloc (jobj a b X' Y' 30)
        replace p2 := p2.alloc (jobj a b X' Y' 30)
        replace p3 := p3.alloc (jobj a b X' Y' 30)
        replace b0 := b0.alloc b0.size (jobj a b X' Y' 30)
        go_upto_region 8 with fail
        generalize hg4 : w3.heap.size = g4 at m1 m2 m3 pg ⊢
        generalize w3.alloc (jobj a b X' Y' 30) = w4 at p1 p2 p3 pg b0 ⊢
        clear hg4
        rcases o with _ | _
        · have hno : run (stp a b) (x, y) L = none := by
            rcases hs.out with ⟨e, -⟩ | ⟨-, e⟩
            · cases e
            · exact run_stuck (hr2.out.trans e)
          obtain ⟨e1, e2⟩ := pa_no (a := a) (b := b) (x := x) (y := y) (L := L) fun _ _ => hno
          obtain rfl : (x, y) = Z := e1.symm.trans hZ.out
          obtain rfl : false = z := e2.symm.trans hz.out
          obtain ⟨c10, c11, c12, c13⟩ := p1.cells
          obtain ⟨c20, c21, c22, c23⟩ := p2.cells
          obtain ⟨f20, f21, f22, f23⟩ := p2.free
          have k2 := JBox.set p2 a b x y
          have k3 := below_jset b0 (Nat.le_add_right w.heap.size 1) a b x y
          clear hno e1 e2 hs hr2 hr p1 p2 p3 pg b0 hxb hZ hz
          go_wp2_with fail
          (try simp only [Exit.inBlock, Exit.then])
          refine bodyPost_ret (v := .tuple #[jagg a b x y, .bool false]) ?_ rfl ⟨rfl, k3⟩
          obtain ⟨c30, c31, c32, c33⟩ := k2.cells
          rw [results_cell_tmp rfl]
          go_simp
        · have hst : stp a b (X, Y) act = some (X', Y') := by
            rcases hs.out with ⟨-, e⟩ | ⟨e, -⟩
            · exact e
            · cases e
          have hr3 : run (stp a b) (x, y) (L.take (k + 1)) = some (X', Y') := hr2.out.trans hst
          obtain ⟨c30, c31, c32, c33⟩ := p3.cells
          obtain ⟨f30, f31, f32, f33⟩ := p3.free
          obtain ⟨cg0, cg1, cg2, cg3⟩ := pg.cells
          have q1 := jset_other (p := g3) (by omega) a b X' Y' p1
          have q2 := jset_other (p := g3) (by omega) a b X' Y' p2
          have q3 := p3.set a b X' Y'
          have k3 := below_jset b0 (by omega : w.heap.size ≤ g3) a b X' Y'
          clear hs hr2 hr p1 p2 p3 pg b0 hxb hZ hz hst
          go_wp2_with fail
          go_roundw
          case rel => exact ⟨k + 1, X', Y', by omega, by go_num, hr3, q1, q2, q3, k3⟩
          case measure => simp [intOf]; omega
      · obtain rfl : k = n := by omega
        rw [show L.take k = L by rw [← hn, List.take_length]] at hr
        obtain ⟨e1, e2⟩ := pa_yes (L := L) hok2.out h1002.out hr
        obtain rfl : (X, Y) = Z := e1.symm.trans hZ.out
        obtain rfl : true = z := e2.symm.trans hz.out
        obtain ⟨c20, c21, c22, c23⟩ := p2.cells
        obtain ⟨f20, f21, f22, f23⟩ := p2.free
        obtain ⟨c30, c31, c32, c33⟩ := p3.cells
        have k2 := JBox.set p2 a b X Y
        have k3 := below_jset b0 (Nat.le_add_right w.heap.size 1) a b X Y
        clear hZ hz hr h hP e1 e2 p1 p2 p3 b0
        go_wp2_with fail
        (try simp only [Exit.inBlock, Exit.then])
        refine bodyPost_ret (v := .tuple #[jagg a b X Y, .bool true]) ?_ rfl ⟨rfl, k3⟩
        obtain ⟨d30, d31, d32, d33⟩ := k2.cells
        rw [results_cell_tmp rfl]
        go_simp
  · obtain ⟨e1, e2⟩ := pa_no (a := a) (b := b) (x := x) (y := y) (L := L) fun e1 e2 => absurd ⟨e1, e2⟩ hg
    obtain rfl : (x, y) = Z := e1.symm.trans hZ.out
    obtain rfl : false = z := e2.symm.trans hz.out
    clear e1 e2 hZ hz h hP
    rcases hb : okJ a b x y with _ | _
    · rw [hb] at hO
      clear hg
      go_enter Try.func13, Try.ntmps13
      go_wp2_with fail
      refine (hO _).mono ?_
      clear hO
      rintro e w2 ⟨rfl, b2⟩
      replace p1 := p1.keep b2 p1.lt
      replace p2 := p2.keep b2 p2.lt
      replace b0 := below_more b0 b0.size b2
      clear b2
      obtain ⟨c10, c11, c12, c13⟩ := p1.cells
      obtain ⟨c20, c21, c22, c23⟩ := p2.cells
      obtain ⟨f20, f21, f22, f23⟩ := p2.free
      have k2 := JBox.set p2 a b x y
      have k3 := below_jset b0 (Nat.le_add_right w.heap.size 1) a b x y
      clear b0 p1 p2
      go_wp2_with fail
      (try simp only [Exit.inBlock, Exit.then])
      refine bodyPost_ret (v := .tuple #[jagg a b x y, .bool false]) ?_ rfl ⟨rfl, k3⟩
      obtain ⟨c30, c31, c32, c33⟩ := k2.cells
      rw [results_cell_tmp rfl]
      go_simp
    · rw [hb] at hO
      have hni : ¬ (n : Int) ≤ 100 := fun e => hg ⟨hb, by omega⟩
      clear hg
      go_enter Try.func13, Try.ntmps13
      go_wp2_with fail
      refine (hO _).mono ?_
      clear hO
      rintro e w2 ⟨rfl, b2⟩
      replace p1 := p1.keep b2 p1.lt
      replace p2 := p2.keep b2 p2.lt
      replace b0 := below_more b0 b0.size b2
      clear b2
      obtain ⟨c10, c11, c12, c13⟩ := p1.cells
      obtain ⟨c20, c21, c22, c23⟩ := p2.cells
      obtain ⟨f20, f21, f22, f23⟩ := p2.free
      have k2 := JBox.set p2 a b x y
      have k3 := below_jset b0 (Nat.le_add_right w.heap.size 1) a b x y
      clear b0 p1 p2
      go_wp2_with fail
      (try simp only [Exit.inBlock, Exit.then])
      refine bodyPost_ret (v := .tuple #[jagg a b x y, .bool false]) ?_ rfl ⟨rfl, k3⟩
      obtain ⟨c30, c31, c32, c33⟩ := k2.cells
      rw [results_cell_tmp rfl]
      go_simp
end Go.Proofs.Ytmoncfplcmdpcaa
