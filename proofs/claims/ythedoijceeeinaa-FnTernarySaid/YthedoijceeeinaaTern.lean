/-
  Ternary digits with signs, as lists; the contract of the model's digits of a number. Nothing but new memory is written.
-/
import Derived.Test.YthedoijceeeinaaTurn
namespace Go.Proofs.Ythedoijceeeinaa
open Go.ChangeShapes Go.WideShapes Go.ChangeAt Go.RowKit Go.PlainAid

/-- The greatest number with f digits. -/
def top3 : Nat → Int
  | 0 => 0
  | f + 1 => 3 * top3 f + 1
/-- The digit of 1, and the rest divided by 3. -/
def dig (n : Int) : Int := (n.tmod 3 + 4).tmod 3 - 1
def nxt (n : Int) : Int := (n - dig n).tdiv 3
theorem tmod3 (n : Int) : -2 ≤ n.tmod 3 ∧ n.tmod 3 ≤ 2 ∧ n = 3 * n.tdiv 3 + n.tmod 3 ∧ (0 ≤ n → 0 ≤ n.tmod 3) ∧ (n ≤ 0 → n.tmod 3 ≤ 0) := by
  have e := Int.mul_tdiv_add_tmod n 3
  rcases Int.le_total 0 n with h | h
  · have h0 := Int.tmod_nonneg 3 h
    have h1 := Int.tmod_lt_of_pos n (b := 3) (by decide)
    omega
  · obtain ⟨m, rfl⟩ : ∃ m, n = -m := ⟨-n, by omega⟩
    rw [Int.neg_tmod] at e ⊢
    have h0 := Int.tmod_nonneg 3 (show 0 ≤ m by omega)
    have h1 := Int.tmod_lt_of_pos m (b := 3) (by decide)
    omega
theorem tdiv3 (k : Int) : (3 * k).tdiv 3 = k := Int.mul_tdiv_cancel_left k (by decide)
theorem dig_nxt (n : Int) : -1 ≤ dig n ∧ dig n ≤ 1 ∧ n = 3 * nxt n + dig n := by
  have a := tmod3 n
  have b := tmod3 (n.tmod 3 + 4)
  have h : ∃ k, n - dig n = 3 * k := ⟨n.tdiv 3 + (n.tmod 3 + 4).tdiv 3 - 1, by unfold dig; omega⟩
  obtain ⟨k, hk⟩ := h
  have e : nxt n = k := by unfold nxt; rw [hk, tdiv3]
  rw [e]
  unfold dig at hk ⊢
  omega
theorem nxt_le {n : Int} {f : Nat} (h0 : -(top3 (f + 1)) ≤ n) (h1 : n ≤ top3 (f + 1)) : -(top3 f) ≤ nxt n ∧ nxt n ≤ top3 f := by
  have h := dig_nxt n
  have e : top3 (f + 1) = 3 * top3 f + 1 := rfl
  omega
theorem top3_le : ∀ {f : Nat}, f ≤ 10 → 0 ≤ top3 f ∧ top3 f ≤ 29524 := by
  intro f hf
  have : f = 0 ∨ f = 1 ∨ f = 2 ∨ f = 3 ∨ f = 4 ∨ f = 5 ∨ f = 6 ∨ f = 7 ∨ f = 8 ∨ f = 9 ∨ f = 10 := by omega
  rcases this with rfl | rfl | rfl | rfl | rfl | rfl | rfl | rfl | rfl | rfl | rfl <;> decide
/-- At most f digits of a number. -/
def digs : Nat → Int → List Int
  | 0, _ => []
  | f + 1, n => if n = 0 then [] else dig n :: digs f (nxt n)
theorem digs_zero (f : Nat) : digs f 0 = [] := by cases f <;> rfl
theorem digs_step {n : Int} (f : Nat) (h : ¬ n = 0) : digs (f + 1) n = dig n :: digs f (nxt n) := by
  show (if n = 0 then [] else dig n :: digs f (nxt n)) = _
  rw [if_neg h]

def digsL (n : Int) : List Int := if -29524 ≤ n ∧ n ≤ 29524 then digs 10 n else []

theorem digs_length : ∀ (f : Nat) (n : Int), (digs f n).length ≤ f
  | 0, _ => Nat.le_refl _
  | f + 1, n => by
    by_cases h : n = 0
    · rw [h, digs_zero]; exact Nat.zero_le _
    · rw [digs_step f h]; have := digs_length f (nxt n); simp; omega
theorem digsL_length (n : Int) : (digsL n).length ≤ 10 := by
  unfold digsL
  split
  · exact digs_length 10 n
  · exact Nat.zero_le _

theorem specDigits_any (n : Int) (w : World) :
    Calls Try.prog 18 #[.int .i64 n] w (Copied (digsL n) w) := by
  obtain ⟨i0, hi, hz0, hz1, hz2⟩ := info_parts Try.infoIntT
  have hown0 : (w.alloc (.cells #[] 3)).ownsRow w.heap.size 3 1 (.slice (some ⟨w.heap.size, 0, none⟩) 0 0) 0 (ints []) := World.ownsRow_made w #[] 0 (Nat.le_refl _) (by decide) rfl
  have hb0 : Below w.heap.size w (w.alloc (.cells #[] 3)) := (Below.refl _ _).alloc (Nat.le_refl _) _
  by_cases hin : -29524 ≤ n ∧ n ≤ 29524
  · have hI := in_to true n (-29524) 29524 (w.alloc (.cells #[] 3)) (decide_eq_true hin)
    have e : digsL n = digs 10 n := by unfold digsL; rw [if_pos hin]
    rw [e]
    clear e
    generalize hD : digs 10 n = D
    have ht : -(top3 10) ≤ n ∧ n ≤ top3 10 := hin
    go_enter Try.func18, Try.ntmps18
    go_wp2_with fail
    refine hI.mono ?_
    rintro e w1 ⟨rfl, rfl⟩
    clear hI
    go_wp2_with fail
    go_loopw [0, 3] (fun m v wr => ∃ (x : Int) (f : Nat) (P : List Int), P.length + f = 10 ∧ -(top3 f) ≤ x ∧ x ≤ top3 f ∧ P ++ digs f x = D ∧ m = .int .i64 x ∧ wr.ownsRow w.heap.size 3 1 v P.length (ints P) ∧ Below w.heap.size w wr) (fun m _ _ => (intOf m).natAbs)
    case atStart => exact ⟨n, 10, [], rfl, ht.1, ht.2, hD, rfl, hown0, hb0⟩
    case round =>
      clear hown0 hb0 hD ht hin
      obtain ⟨x, f, P, hf, h0, h1, hP, rfl, hown, hbel⟩ := hrel
      by_cases hx : x = 0
      · subst hx
        rw [digs_zero, List.append_nil] at hP
        subst hP
        have hend := own_copied rfl hown hbel
        clear hown hbel h0 h1 hf
        go_wp2
        go_ret
        exact hend
      · obtain ⟨f, rfl⟩ : ∃ g, f = g + 1 := by
          rcases f with _ | g
          · exact absurd (show x = 0 by have : top3 0 = 0 := rfl; omega) hx
          · exact ⟨g, rfl⟩
        have hb := nxt_le h0 h1
        rw [digs_step f hx] at hP
        have d := dig_nxt x
        have hx0 : -29524 ≤ x ∧ x ≤ 29524 := by
          have := top3_le (f := f + 1) (by omega)
          omega
        have hna : (nxt x).natAbs < x.natAbs := by omega
        have a := tmod3 x
        have b := tmod3 (x.tmod 3 + 4)
        have hd : dig x = (x.tmod 3 + 4).tmod 3 - 1 := rfl
        have hn : nxt x = (x - ((x.tmod 3 + 4).tmod 3 - 1)).tdiv 3 := rfl
        have hsz := hbel.size
        have hP2 : (P ++ [dig x]) ++ digs f (nxt x) = D := by rw [List.append_assoc]; exact hP
        have hap : ints P ++ [.int .i64 (dig x)] = ints (P ++ [dig x]) := (ints_append P _).symm
        rw [hd] at d hap hP2
        rw [hn] at d hb hna hP2
        clear hd hn hP h0 h1
        obtain ⟨hb1, hb2⟩ := hb
        have hfi : Hid (P.length + f + 1 = 10) := by show P.length + f + 1 = 10; omega
        have hpl : (P.length : Int) ≤ 9 := by omega
        have hna2 : Hid (((x - ((x.tmod 3 + 4).tmod 3 - 1)).tdiv 3).natAbs < x.natAbs) := hna
        clear hna
        have hf3 := top3_le (f := f) (by omega)
        have q1 : -29524 ≤ (x - ((x.tmod 3 + 4).tmod 3 - 1)).tdiv 3 := by omega
        have q2 : (x - ((x.tmod 3 + 4).tmod 3 - 1)).tdiv 3 ≤ 29524 := by omega
        clear hf3
        have a1 : -2 ≤ x.tmod 3 := a.1
        have a2 : x.tmod 3 ≤ 2 := a.2.1
        have b1 : 0 ≤ (x.tmod 3 + 4).tmod 3 := by omega
        have b2 : (x.tmod 3 + 4).tmod 3 ≤ 2 := by omega
        clear a b d hf
        generalize hr : (x.tmod 3 + 4).tmod 3 = r at b1 b2 hap hP2 hb1 hb2 q1 q2 hna2
        generalize hs : x.tmod 3 = s at a1 a2 hr
        generalize hq : (x - (r - 1)).tdiv 3 = q at hP2 hb1 hb2 q1 q2 hna2
        go_wp2_with (at_builtin; refine wpList_append_own _ rfl (.tmp 17) (.tmp 19) 25 rfl w.heap.size 3 i0 (.int .i64 0) 1 8 Try.underlying25 hi hz0 hz1 hz2 rfl (by decide) u3 P.length _ rfl (hown.alloc _) ⟨wr.heap.size, 0, none⟩ 1 1 [_] rfl rfl (news_new _ [_] _) (by simp [Value.oneCell']) (by unfold maxLen; omega) (by omega) (by simp; omega) ?_; intro v' w2 hown1 hgrow1 _)
        have R := app_rel (w := w) (Nat.le_refl _) hown hbel hown1 hgrow1
        clear hown1 hgrow1 hown hbel hap
        obtain ⟨R1, R2⟩ := R
        go_wp2
        go_roundw
        case rel => exact ⟨q, f, P ++ [r - 1], by have := hfi.out; rw [List.length_append]; simp; omega, hb1, hb2, hP2, rfl, by rw [List.length_append]; exact R1, R2⟩
        case measure => have := hna2.out; simp only [intOf]; omega
  · have hI := in_to false n (-29524) 29524 (w.alloc (.cells #[] 3)) (decide_eq_false hin)
    have e : digsL n = [] := by unfold digsL; rw [if_neg hin]
    rw [e]
    have hend := own_copied (L := []) (n := 0) rfl hown0 hb0
    clear e hin hown0 hb0
    go_enter Try.func18, Try.ntmps18
    go_wp2_with fail
    refine hI.mono ?_
    rintro e w1 ⟨rfl, rfl⟩
    clear hI
    go_wp2_with fail
    go_ret
    exact hend
end Go.Proofs.Ythedoijceeeinaa
