/-
  The contracts of the model's balance of a mobile and numbers of its parts. Only new memory is written.
-/
import Derived.Test.YthefcbninpkncaaSpecVals
namespace Go.Proofs.Ythefcbninpkncaa
open Go.ChangeShapes Go.WideShapes Go.ChangeAt Go.RowKit Go.PlainAid

theorem specBal (A : Option Addr) (n c : Nat) (L : List PartT) (w : World) (hn : L.length = n) (hm : n ≤ 1048576) (r : PartRow w A L) :
    Calls Try.prog 23 #[.slice A n c] w (SaysB (mok L && decide (ft L < 0)) w) := by
  have hB := fun W (r : PartRow W A L) => specMok A n c L W hn hm r
  have hT := fun W (r : PartRow W A L) => specTilt A n c L W hn hm r
  generalize ft L = t at hT ⊢
  cases h : mok L
  · rw [h] at hB
    go_enter Try.func23, Try.ntmps23
    go_wp2_with fail
    refine (hB _ r).mono ?_
    rintro e w1 ⟨rfl, b⟩
    clear hB r hT
    go_wp2_with fail
    go_ret
    exact ⟨rfl, b⟩
  · rw [h] at hB
    go_enter Try.func23, Try.ntmps23
    go_wp2_with fail
    refine (hB _ r).mono ?_
    rintro e w1 ⟨rfl, b⟩
    replace r := r.keep b
    clear hB
    go_wp2_with fail
    refine (hT _ r).mono ?_
    rintro e w2 ⟨rfl, b2⟩
    clear hT r
    replace b2 := below_more b b.size b2
    by_cases ht : t < 0
    · go_wp2_with fail
      go_ret
      exact ⟨by simp [ht], b2⟩
    · go_wp2_with fail
      go_ret
      exact ⟨by simp, b2⟩
/-- Two ints are answered. -/
def SaysTwo (x y : Int) (w : World) (e : Ending) (w' : World) : Prop := e = .returned (.tuple #[.int .i64 x, .int .i64 y]) ∧ Below w.heap.size w w'
def cpA (L : List PartT) : Int := if MOk L then (cw L L.length : Int) else 0
def cpB (L : List PartT) : Int := if MOk L then (cb L L.length : Int) else 0
set_option maxHeartbeats 2000000 in
theorem specCount (A : Option Addr) (n c : Nat) (L : List PartT) (w : World) (hn : L.length = n) (hm : n ≤ 1048576) (r : PartRow w A L) :
    Calls Try.prog 28 #[.slice A n c] w (SaysTwo (cpA L) (cpB L) w) := by
  have hB := fun W (r : PartRow W A L) => specMok A n c L W hn hm r
  by_cases hb : MOk L
  · rw [mok_yes hb] at hB
    have e1 : cpA L = (cw L n : Int) := by unfold cpA; rw [if_pos hb, hn]
    have e2 : cpB L = (cb L n : Int) := by unfold cpB; rw [if_pos hb, hn]
    have n15 : n ≤ 15 := by have := hb.len; omega
    rw [e1, e2]
    go_enter Try.func28, Try.ntmps28
    go_wp2_with fail
    go_loopw [6, 4, 5] (fun i x y wr => ∃ k : Nat, k ≤ n ∧ i = .int .i64 k ∧ x = .int .i64 (cw L k : Nat) ∧ y = .int .i64 (cb L k : Nat) ∧ Below w.heap.size w wr) (fun i _ _ _ => n - (intOf i).toNat)
    case atStart => exact ⟨0, by omega, rfl, rfl, rfl, Below.refl _ _⟩
    case round =>
      obtain ⟨k, hk, rfl, rfl, rfl, b⟩ := hrel
      by_cases hlt : k < n
      · have hcb := cw_cb L k
        go_wp2_with fail
        refine (hB _ (r.keep b)).mono ?_
        rintro e w1 ⟨rfl, b1⟩
        replace b := below_more b b.size b1
        obtain ⟨x, rfl, hx, c0, d1, d2, d3, d4⟩ := (r.keep b).at (j := k) (by omega)
        replace c0 := c0.1
        have s1 : cw L (k + 1) = if (ptget L k).left = -1 then cw L k + 1 else cw L k := rfl
        have s2 : cb L (k + 1) = if (ptget L k).left = -1 then cb L k else cb L k + 1 := rfl
        generalize cw L k = p at s1 hcb ⊢
        generalize cb L k = q at s2 hcb ⊢
        generalize (ptget L k).left = t at c0 s1 s2
        clear d1 d2 d3 d4 e1 e2 r hB b1 hb
        by_cases ht : t = -1
        · rw [if_pos ht] at s1 s2
          subst ht
          go_wp2_with fail
          go_roundw
          case rel => exact ⟨k + 1, by omega, by go_num, congrArg (Value.int .i64) (by omega), congrArg (Value.int .i64) (by omega), b⟩
          case measure => simp [intOf]; omega
        · rw [if_neg ht] at s1 s2
          go_wp2_with fail
          go_roundw
          case rel => exact ⟨k + 1, by omega, by go_num, congrArg (Value.int .i64) (by omega), congrArg (Value.int .i64) (by omega), b⟩
          case measure => simp [intOf]; omega
      · obtain rfl : k = n := by omega
        clear hB e1 e2 hb
        go_wp2_with fail
        go_ret2
        exact ⟨rfl, b⟩
  · rw [mok_no hb] at hB
    have e1 : cpA L = 0 := if_neg hb
    have e2 : cpB L = 0 := if_neg hb
    rw [e1, e2]
    clear e1 e2
    go_enter Try.func28, Try.ntmps28
    go_wp2_with fail
    refine wp_loop_rounds 1 ?_
    rw [rounds_succ]
    by_cases h0 : 0 < n
    · go_wp2_with fail
      refine (hB _ r).mono ?_
      rintro e w1 ⟨rfl, b⟩
      clear hB r
      go_wp2_with fail
      go_ret2
      exact ⟨rfl, b⟩
    · obtain rfl : n = 0 := by omega
      clear hB r
      go_wp2_with fail
      go_ret2
      exact ⟨rfl, Below.refl _ _⟩
end Go.Proofs.Ythefcbninpkncaa
