/-
  The contract of the model's pouring of a list of acts. Only new memory is written.
-/
import Derived.Test.YtmoncfplcmdpcaaSpecPour
import Derived.Test.YtmoncfplcmdpcaaPourAll
import Derived.Deep.RegionLaw
namespace Go.Proofs.Ytmoncfplcmdpcaa
open Go.ChangeShapes Go.WideShapes Go.ChangeAt Go.RowKit Go.PlainAid

/-- Behind 'next, ok := Pour(x, acts[k])'. -/
def Poured (wr : World) (a b X Y : Int) (z : Bool) (s8 s9 : Value) (wx : World) : Prop := ∃ g, s8 = .pointer (some ⟨g, 0, none⟩) ∧ s9 = .bool z ∧ wr.heap.size ≤ g ∧ JBox wx g a b X Y ∧ Below wr.heap.size wr wx

theorem poured_new {wr w' : World} {a b X Y : Int} {z : Bool} (b1 : Below wr.drew.heap.size wr.drew w') : Poured wr a b X Y z (.pointer (some ⟨w'.heap.size, 0, none⟩)) (.bool z) (w'.alloc (jobj a b X Y 30)) := by
  have k : Below wr.heap.size wr w' := ⟨b1.os, b1.tape, b1.output, b1.size, b1.block⟩
  exact ⟨_, rfl, rfl, k.size, JBox.new _ _ _ _ _, k.alloc k.size _⟩
theorem poured_set {wr w' : World} {a b X Y : Int} {z : Bool} (b1 : Below (wr.alloc (jobj 0 0 0 0 30)).drew.heap.size (wr.alloc (jobj 0 0 0 0 30)).drew w') : Poured wr a b X Y z (.pointer (some ⟨wr.heap.size, 0, none⟩)) (.bool z) (jset w' wr.heap.size a b X Y) := by
  have k : Below (wr.alloc (jobj 0 0 0 0 30)).heap.size (wr.alloc (jobj 0 0 0 0 30)) w' := ⟨b1.os, b1.tape, b1.output, b1.size, b1.block⟩
  have p := (JBox.new wr 0 0 0 0).keep k (by simp)
  have k2 : Below wr.heap.size wr w' := ((Below.refl wr.heap.size wr).alloc (Nat.le_refl _) _).trans (k.mono (by simp))
  exact ⟨_, rfl, rfl, Nat.le_refl _, p.set a b X Y, below_jset k2 (Nat.le_refl _) a b X Y⟩

/-- Behind 'return x, JugsOk(j)'. -/
def Ended (w : World) (p : Nat) (a b X Y : Int) (z : Bool) (s5 : Value) (wx : World) : Prop := s5 = .bool z ∧ JBox wx p a b X Y ∧ Below w.heap.size w wx
theorem ended_call {w wr w' : World} {p : Nat} {a b X Y x' y' a' b' : Int} {z : Bool} (b0 : Below w.heap.size w wr) (h : JBox wr p a' b' x' y') (hp : w.heap.size ≤ p) (b1 : Below wr.drew.heap.size wr.drew w') : Ended w p a b X Y z (.bool z) (jset w' p a b X Y) := by
  have k : Below wr.heap.size wr w' := ⟨b1.os, b1.tape, b1.output, b1.size, b1.block⟩
  exact ⟨rfl, (h.keep k h.lt).set a b X Y, below_jset (below_more b0 b0.size k) hp a b X Y⟩
theorem ended_store {w wr w' : World} {p : Nat} {a b X Y x' y' a' b' : Int} {z : Bool} (b0 : Below w.heap.size w wr) (h : JBox wr p a' b' x' y') (hp : w.heap.size ≤ p) (b1 : Below (jset wr p a b X Y).drew.heap.size (jset wr p a b X Y).drew w') : Ended w p a b X Y z (.bool z) w' := by
  have k : Below (jset wr p a b X Y).heap.size (jset wr p a b X Y) w' := ⟨b1.os, b1.tape, b1.output, b1.size, b1.block⟩
  have k0 := below_jset b0 hp a b X Y
  have k1 := h.set a b X Y
  exact ⟨rfl, k1.keep k k1.lt, below_more k0 k0.size k⟩

set_option maxHeartbeats 1600000 in
theorem specAll_any (a b x y : Int) (A : Option Addr) (c n : Nat) (L : List Int) (w : World) (hn : L.length = n) (hm : n ≤ 1000000000) (h : IntRow w A L) :
    Calls Try.prog 20 #[jagg a b x y, .slice A n c] w (GivesJB a b (paS a b x y L).1 (paS a b x y L).2 (paO a b x y L) w) := by
  have hP := fun X Y act W => specPour_any a b X Y act W
  have hO := fun W => specJugsOk_any a b x y W
  have b0 : Below w.heap.size w (((w.alloc (jobj a b x y 30)).alloc (jobj 0 0 0 0 30)).alloc (jobj a b x y 30)) := (((Below.refl _ _).alloc (Nat.le_refl _) _).alloc (by simp) _).alloc (by simp <;> omega) _
  have p1 := ((JBox.new w a b x y).alloc (jobj 0 0 0 0 30)).alloc (jobj a b x y 30)
  have p2 := (JBox.new (w.alloc (jobj a b x y 30)) 0 0 0 0).alloc (jobj a b x y 30)
  have p3 := JBox.new ((w.alloc (jobj a b x y 30)).alloc (jobj 0 0 0 0 30)) a b x y
  rw [show (w.alloc (jobj a b x y 30)).heap.size = w.heap.size + 1 by simp] at p2
  rw [show ((w.alloc (jobj a b x y 30)).alloc (jobj 0 0 0 0 30)).heap.size = w.heap.size + 1 + 1 by simp] at p3
  obtain ⟨Z, hZ⟩ : ∃ Z, paS a b x y L = Z := ⟨_, rfl⟩
  obtain ⟨z, hz⟩ : ∃ z, paO a b x y L = z := ⟨_, rfl⟩
  rw [hZ, hz]
  replace hZ := Lib.hid hZ
  replace hz := Lib.hid hz
  go_enter Try.func20, Try.ntmps20
  go_wp2_with fail
  go_loopw [7] (fun i wr => ∃ (k : Nat) (X Y : Int), k ≤ n ∧ i = .int .i64 k ∧ run (stp a b) (x, y) (L.take k) = some (X, Y) ∧ (0 < k → okJ a b x y = true ∧ n ≤ 100) ∧ JBox wr w.heap.size a b x y ∧ JBox wr (w.heap.size + 1) 0 0 0 0 ∧ JBox wr (w.heap.size + 1 + 1) a b X Y ∧ Below w.heap.size w wr) (fun i _ => n - (intOf i).toNat)
  case atStart => exact ⟨0, x, y, by omega, rfl, rfl, fun e => by omega, p1, p2, p3, b0⟩
  case round =>
    clear p1 p2 p3 b0
    obtain ⟨k, X, Y, hk, rfl, hr, hk0, p1, p2, p3, b0⟩ := hrel
    have l3 := p3.lt
    by_cases hlt : k < n
    · obtain ⟨xa, rfl, hxb, hx⟩ := h k (by omega)
      replace hx : wr.cell? (xa.add k) = some (.int .i64 (L.getD k 0)) := (b0.cell (by rw [addr_add_block]; exact hxb)).trans hx
      have hxl := lt_of_cell hx
      have hs := pour_stp (a := a) (b := b) (s := (X, Y)) (act := L.getD k 0)
      have hr2 := run_take (by omega) hr
      dsimp only at hs
      replace hP := hP X Y (L.getD k 0)
      generalize L.getD k 0 = act at hx hs hr2 hP
      generalize pS a b X Y act = T at hs hP
      generalize pO a b X Y act = o at hs hP
      obtain ⟨X', Y'⟩ := T
      dsimp only at hP
      have hki : (k : Int) < n := by omega
      replace hs := Lib.hid hs
      replace hr2 := Lib.hid hr2
      replace hr := Lib.hid hr
      replace hk0 := Lib.hid hk0
      clear h
      go_upto_region 5 with fail
      go_cut [8, 9] (fun s8 s9 wx => Poured wr a b X' Y' o s8 s9 wx)
      case first =>
        have c30 := p3.cells.1
        have c31 := p3.cells.2.1
        have c32 := p3.cells.2.2.1
        have c33 := p3.cells.2.2.2
        have d30 : ∀ ob, (wr.alloc ob).drew.cell? ⟨w.heap.size + 1 + 1, 0, none⟩ = some (.int .i64 a) := fun ob => (p3.alloc ob).cells.1
        have d31 : ∀ ob, (wr.alloc ob).drew.cell? ⟨w.heap.size + 1 + 1, 1, none⟩ = some (.int .i64 b) := fun ob => (p3.alloc ob).cells.2.1
        have d32 : ∀ ob, (wr.alloc ob).drew.cell? ⟨w.heap.size + 1 + 1, 2, none⟩ = some (.int .i64 X) := fun ob => (p3.alloc ob).cells.2.2.1
        have d33 : ∀ ob, (wr.alloc ob).drew.cell? ⟨w.heap.size + 1 + 1, 3, none⟩ = some (.int .i64 Y) := fun ob => (p3.alloc ob).cells.2.2.2
        have dx : ∀ ob, (wr.alloc ob).drew.cell? (xa.add k) = some (.int .i64 act) := fun ob => (World.cell?_alloc_lt _ _ _ hxl).trans hx
        clear p1 p2 p3 b0 hk0 hr hr2 hs hO
        go_region_law (go_simp; go_at_call 17; refine (hP _).mono ?_; rintro e w' ⟨rfl, b1⟩; have hc := fun (b o : Nat) (h : b < _) => b1.cell (p := ⟨b, o, none⟩) h; have hf := fun (b o : Nat) (h : b < _) => b1.frozen (p := ⟨b, o, none⟩) h)
        all_goals
          clear hc hf
          go_wp2_with fail
          go_meet
          first | with_reducible exact poured_new b1 | with_reducible exact poured_set b1 | trace_state
      case rest =>
        obtain ⟨g, rfl, rfl, hg, pg, bg⟩ := hcut
        replace p1 := p1.keep bg p1.lt
        replace p2 := p2.keep bg p2.lt
        replace p3 := p3.keep bg l3
        replace b0 := below_more b0 b0.size bg
        clear bg hP
        rcases o with _ | _
        · have hno : run (stp a b) (x, y) L = none := by
            rcases hs.out with ⟨e, -⟩ | ⟨-, e⟩
            · cases e
            · exact run_stuck (hr2.out.trans e)
          obtain ⟨e1, e2⟩ := pa_no (a := a) (b := b) (x := x) (y := y) (L := L) fun _ _ => hno
          obtain rfl : (x, y) = Z := e1.symm.trans hZ.out
          obtain rfl : false = z := e2.symm.trans hz.out
          obtain ⟨c10, c11, c12, c13⟩ := p1.cells
          obtain ⟨c20, c21, c22, c23⟩ := p2.cells
          obtain ⟨f20, f21, f22, f23⟩ := p2.free
          have k2 := JBox.set p2 a b x y
          have k3 := below_jset b0 (Nat.le_add_right w.heap.size 1) a b x y
          clear hno e1 e2 hs hr2 hr hk0 hO p1 p2 p3 pg hg b0 hx hxb hxl hZ hz
          go_wp2_with fail
          (try simp only [Exit.inBlock, Exit.then])
          refine bodyPost_ret (v := .tuple #[jagg a b x y, .bool false]) ?_ rfl ⟨rfl, k3⟩
          obtain ⟨c30, c31, c32, c33⟩ := k2.cells
          rw [results_cell_tmp rfl]
          go_simp
        · have hst : stp a b (X, Y) act = some (X', Y') ∧ okJ a b X Y = true := by
            rcases hs.out with ⟨-, e⟩ | ⟨e, -⟩
            · exact ⟨e, (stp_some e).1⟩
            · cases e
          by_cases h100 : n ≤ 100
          · have hok : okJ a b x y = true := by
              rcases Nat.eq_zero_or_pos k with e | e
              · subst e
                have := hr.out
                injection this with this
                injection this with this1 this2
                subst this1 this2
                exact hst.2
              · exact (hk0.out e).1
            have hr3 : run (stp a b) (x, y) (L.take (k + 1)) = some (X', Y') := hr2.out.trans hst.1
            have hni : (n : Int) ≤ 100 := by omega
            obtain ⟨c30, c31, c32, c33⟩ := p3.cells
            obtain ⟨f30, f31, f32, f33⟩ := p3.free
            obtain ⟨cg0, cg1, cg2, cg3⟩ := pg.cells
            have q1 := jset_other (p := w.heap.size + 1 + 1) (by omega) a b X' Y' p1
            have q2 := jset_other (p := w.heap.size + 1 + 1) (by omega) a b X' Y' p2
            have q3 := p3.set a b X' Y'
            have k3 := below_jset b0 (by omega : w.heap.size ≤ w.heap.size + 1 + 1) a b X' Y'
            clear hs hr2 hr hk0 hO p1 p2 p3 pg hg b0 hx hxb hxl hZ hz hst
            go_wp2_with fail
            go_roundw
            case rel => exact ⟨k + 1, X', Y', by omega, by go_num, hr3, fun _ => ⟨hok, h100⟩, q1, q2, q3, k3⟩
            case measure => simp [intOf]; omega
          · obtain ⟨e1, e2⟩ := pa_no (a := a) (b := b) (x := x) (y := y) (L := L) fun _ g => by omega
            obtain rfl : (x, y) = Z := e1.symm.trans hZ.out
            obtain rfl : false = z := e2.symm.trans hz.out
            have hni : ¬ (n : Int) ≤ 100 := by omega
            obtain ⟨c10, c11, c12, c13⟩ := p1.cells
            obtain ⟨c20, c21, c22, c23⟩ := p2.cells
            obtain ⟨f20, f21, f22, f23⟩ := p2.free
            have k2 := JBox.set p2 a b x y
            have k3 := below_jset b0 (Nat.le_add_right w.heap.size 1) a b x y
            clear e1 e2 hs hr2 hr hk0 hO p1 p2 p3 pg hg b0 hx hxb hxl hZ hz hst
            go_wp2_with fail
            (try simp only [Exit.inBlock, Exit.then])
            refine bodyPost_ret (v := .tuple #[jagg a b x y, .bool false]) ?_ rfl ⟨rfl, k3⟩
            obtain ⟨c30, c31, c32, c33⟩ := k2.cells
            rw [results_cell_tmp rfl]
            go_simp
    · obtain rfl : k = n := by omega
      rw [show L.take k = L by rw [← hn, List.take_length]] at hr
      have hZz : (X, Y) = Z ∧ okJ a b x y = z := by
        rcases hb : okJ a b x y with _ | _
        · obtain ⟨e1, e2⟩ := pa_no (a := a) (b := b) (x := x) (y := y) (L := L) fun e => by rw [hb] at e; cases e
          have hk1 : k = 0 := by
            rcases Nat.eq_zero_or_pos k with e | e
            · exact e
            · have := (hk0 e).1
              rw [hb] at this
              cases this
          have hL : L = [] := List.eq_nil_of_length_eq_zero (by omega)
          rw [hL] at hr
          injection hr with hr
          rw [← hr]
          exact ⟨e1.symm.trans hZ.out, e2.symm.trans hz.out⟩
        · have hl : L.length ≤ 100 := by
            rcases Nat.eq_zero_or_pos k with e | e
            · omega
            · have := (hk0 e).2
              omega
          obtain ⟨e1, e2⟩ := pa_yes (L := L) hb hl hr
          exact ⟨e1.symm.trans hZ.out, e2.symm.trans hz.out⟩
      obtain ⟨rfl, hz2⟩ := hZz
      rw [hz2] at hO
      clear hZ hz hr hk0 h hP hz2
      go_upto_region 9 with fail
      go_cut [5] (fun s5 wx => Ended w (w.heap.size + 1) a b X Y z s5 wx)
      case first =>
        have c10 := p1.cells.1
        have c11 := p1.cells.2.1
        have c12 := p1.cells.2.2.1
        have c13 := p1.cells.2.2.2
        obtain ⟨c20, c21, c22, c23⟩ := p2.cells
        obtain ⟨f20, f21, f22, f23⟩ := p2.free
        obtain ⟨c30, c31, c32, c33⟩ := p3.cells
        clear p1
        go_region_law (go_simp; go_at_call 15; refine (hO _).mono ?_; rintro e w' ⟨rfl, b1⟩; (try (have q2 := p2.keepd b1; obtain ⟨e20, e21, e22, e23⟩ := q2.cells; obtain ⟨g20, g21, g22, g23⟩ := q2.free; have q3 := p3.keepd b1; obtain ⟨e30, e31, e32, e33⟩ := q3.cells)))
        all_goals
          go_wp2_with fail
          go_meet
          first | with_reducible exact ended_call b0 p2 (Nat.le_add_right _ _) b1 | with_reducible exact ended_store b0 p2 (Nat.le_add_right _ _) b1 | trace_state
      case rest =>
        obtain ⟨rfl, k2, k3⟩ := hcut
        clear p1 p2 p3 b0 hO
        go_wp2_with fail
        (try simp only [Exit.inBlock, Exit.then])
        refine bodyPost_ret (v := .tuple #[jagg a b X Y, .bool z]) ?_ rfl ⟨rfl, k3⟩
        obtain ⟨c30, c31, c32, c33⟩ := k2.cells
        rw [results_cell_tmp rfl]
        go_simp
end Go.Proofs.Ytmoncfplcmdpcaa
