/-
  The contracts of the program's fewest pours and of its question whether an amount can be measured. Only new memory is written.
-/
import Derived.Test.YtmoncfplcmdpcaaImplFirst
import Derived.Test.YtmoncfplcmdpcaaSays
namespace Go.Proofs.Ytmoncfplcmdpcaa
open Go.ChangeShapes Go.WideShapes Go.ChangeAt Go.RowKit Go.PlainAid

theorem gives_more {X : List Int} {z : Bool} {w w1 : World} {e : Ending} {w' : World} (b : Below w.heap.size w w1) (h : GivesSB X z w1 e w') : GivesSB X z w e w' := by
  obtain ⟨A, c, rfl, O⟩ := h
  exact ⟨A, c, rfl, by have := ((Own.none w).keep b).join O; rw [List.append_nil] at this; exact this⟩

set_option maxHeartbeats 1600000 in
theorem implFew_any (a b g : Int) (l : List Int) (ok : Bool) (w : World) (hr : Ans a b g l ok) : Calls Try.prog 11 #[.int .i64 a, .int .i64 b, .int .i64 g] w (GivesSB l ok w) := by
  have hO := implJugsOk_any a b 0 0 (w.alloc (jobj a b 0 0 30))
  have b1 : Below w.heap.size w (w.alloc (jobj a b 0 0 30)) := (Below.refl _ _).alloc (Nat.le_refl _) _
  have p1 := JBox.new w a b 0 0
  rcases hb : okJ a b 0 0 with _ | _
  · obtain ⟨rfl, rfl⟩ := ans_no hr (by rw [hb]; exact fun e => by cases e.1)
    rw [hb] at hO
    clear hr p1
    go_enter Try.func11, Try.ntmps11
    go_wp2_with fail
    refine hO.mono ?_
    clear hO
    rintro e w2 ⟨rfl, b2⟩
    have hend : GivesSB [] false w (.returned (.tuple #[.slice none 0 0, .bool false])) w2 := row_gives (row_nil w w2) (below_more b1 b1.size b2) false
    clear b1 b2
    go_wp2_with fail
    go_ret2
    exact hend
  · rw [hb] at hO
    have hend0 : ∀ w2, Below (w.alloc (jobj a b 0 0 30)).heap.size (w.alloc (jobj a b 0 0 30)) w2 → GivesSB [] false w (.returned (.tuple #[.slice none 0 0, .bool false])) w2 := fun w2 b2 => row_gives (row_nil w w2) (below_more b1 b1.size b2) false
    by_cases h1 : g < 0
    · obtain ⟨rfl, rfl⟩ := ans_no hr fun e => by omega
      have hd : decide (g < 0) = true := decide_eq_true h1
      clear hr p1 hb
      go_enter Try.func11, Try.ntmps11
      go_wp2_with fail
      refine hO.mono ?_
      clear hO
      rintro e w2 ⟨rfl, b2⟩
      have hend := hend0 w2 b2
      clear hend0 b1 b2
      go_wp2_with fail
      go_ret2
      exact hend
    · have hd : decide (g < 0) = false := decide_eq_false h1
      by_cases h2 : 20 < g
      · obtain ⟨rfl, rfl⟩ := ans_no hr fun e => by omega
        have hd2 : decide (20 < g) = true := decide_eq_true h2
        clear hr p1 hb
        go_enter Try.func11, Try.ntmps11
        go_wp2_with fail
        refine hO.mono ?_
        clear hO
        rintro e w2 ⟨rfl, b2⟩
        have hend := hend0 w2 b2
        clear hend0 b1 b2
        go_wp2_with fail
        go_ret2
        exact hend
      · have hd2 : decide (20 < g) = false := decide_eq_false h2
        have hbest := ans_yes hr ⟨hb, by omega, by omega⟩
        have hb2 := okJ_iff.1 hb
        obtain ⟨A, rfl⟩ := Int.eq_ofNat_of_zero_le (a := a) (by omega)
        obtain ⟨B, rfl⟩ := Int.eq_ofNat_of_zero_le (a := b) (by omega)
        have hF := fun W => implFirst_any A B g l ok W (by omega) (by omega) hbest
        clear hr hb hb2 hbest hend0
        go_enter Try.func11, Try.ntmps11
        go_wp2_with fail
        refine hO.mono ?_
        clear hO
        rintro e w2 ⟨rfl, b2⟩
        obtain ⟨c0, c1, c2, c3⟩ := (p1.keep b2 p1.lt).cells
        replace b1 := below_more b1 b1.size b2
        clear b2 p1
        go_wp2_with fail
        refine (hF _).mono ?_
        clear hF c0 c1 c2 c3
        rintro e w3 h3
        have h4 := gives_more b1 h3
        obtain ⟨A3, c3, rfl, O⟩ := h4
        have hend : GivesSB l ok w (.returned (.tuple #[.slice A3 l.length c3, .bool ok])) w3 := ⟨A3, c3, rfl, O⟩
        clear h3 O b1
        go_wp2_with fail
        go_ret2
        exact hend

theorem implCan_any (a b g : Int) (l : List Int) (ok : Bool) (w : World) (hr : Ans a b g l ok) : Calls Try.prog 12 #[.int .i64 a, .int .i64 b, .int .i64 g] w (SaysB ok w) := by
  have hF := implFew_any a b g l ok w hr
  clear hr
  go_enter Try.func12, Try.ntmps12
  go_wp2_with fail
  refine hF.mono ?_
  clear hF
  rintro e w1 ⟨A, c, rfl, O⟩
  have b := O.bel
  clear O
  go_wp2_with fail
  go_ret
  exact ⟨rfl, b⟩
end Go.Proofs.Ytmoncfplcmdpcaa
