/-
  The program's table of signed ternary digits: all ten places of a number, the ones behind the last digit 0, and all 0 for a number out of the range. Only new memory is written.
-/
import Derived.Test.YthedoijceeeinaaTernFacts
namespace Go.Proofs.Ythedoijceeeinaa
open Go.ChangeShapes Go.WideShapes Go.ChangeAt Go.RowKit Go.PlainAid

/-- What is left of a number behind k divisions by 3. -/
def rst (r : Int) : Nat → Int
  | 0 => r
  | k + 1 => (rst r k).tdiv 3
theorem rst_first (r : Int) : ∀ k, rst r (k + 1) = rst (r.tdiv 3) k
  | 0 => rfl
  | k + 1 => by
    show (rst r (k + 1)).tdiv 3 = (rst (r.tdiv 3) k).tdiv 3
    rw [rst_first r k]
theorem rst_le {r : Int} (h0 : 0 ≤ r) (h1 : r ≤ 59048) : ∀ k, 0 ≤ rst r k ∧ rst r k ≤ 59048
  | 0 => ⟨h0, h1⟩
  | k + 1 => by
    have ih := rst_le h0 h1 k
    have t := tmod3 (rst r k)
    show 0 ≤ (rst r k).tdiv 3 ∧ (rst r k).tdiv 3 ≤ 59048
    omega
/-- All ten places. -/
def sgn (n : Int) : List Int := digsL n ++ List.replicate (10 - (digsL n).length) 0
theorem sgn_length (n : Int) : (sgn n).length = 10 := by
  have := digsL_length n
  unfold sgn
  rw [List.length_append, List.length_replicate]; omega
theorem repl_get (m k : Nat) : (List.replicate m (0 : Int)).getD k 0 = 0 := by
  rw [List.getD_eq_getElem?_getD, List.getElem?_replicate]
  split <;> rfl
theorem sgn_get (n : Int) (k : Nat) : (sgn n).getD k 0 = (digsL n).getD k 0 := by
  unfold sgn
  rcases Nat.lt_or_ge k (digsL n).length with h | h
  · rw [List.getD_eq_getElem?_getD, List.getElem?_append_left h, ← List.getD_eq_getElem?_getD]
  · rw [List.getD_eq_getElem?_getD, List.getElem?_append_right h, ← List.getD_eq_getElem?_getD, repl_get, List.getD_eq_getElem?_getD, List.getElem?_eq_none h]; rfl
theorem digs_rst : ∀ (f : Nat) (x : Int) (k : Nat), -(top3 f) ≤ x → x ≤ top3 f → k < f → (digs f x).getD k 0 = (rst (x + top3 f) k).tmod 3 - 1
  | 0, _, _, _, _, h => by omega
  | f + 1, x, k, h0, h1, hk => by
    have d := dig_nxt x
    have b := nxt_le h0 h1
    have t := tmod3 (x + top3 (f + 1))
    have e : top3 (f + 1) = 3 * top3 f + 1 := rfl
    have t0 : 0 ≤ top3 f := by
      have : ∀ g, 0 ≤ top3 g := fun g => by
        induction g with
        | zero => decide
        | succ g ih => show 0 ≤ 3 * top3 g + 1; omega
      exact this f
    have q : (x + top3 (f + 1)).tdiv 3 = nxt x + top3 f := by omega
    have m : (x + top3 (f + 1)).tmod 3 = dig x + 1 := by omega
    have hdig : (digs (f + 1) x).getD k 0 = if k = 0 then dig x else (digs f (nxt x)).getD (k - 1) 0 := by
      by_cases hx : x = 0
      · have e1 : dig x = 0 := by omega
        have e2 : nxt x = 0 := by omega
        rw [e1, e2, hx, digs_zero, digs_zero]
        simp
      · rw [digs_step f hx]
        rcases k with _ | k
        · rfl
        · rw [getD_cons_succ', if_neg (by omega)]; rfl
    rw [hdig]
    rcases k with _ | k
    · rw [if_pos rfl]
      show dig x = (x + top3 (f + 1)).tmod 3 - 1
      omega
    · rw [if_neg (by omega), rst_first, q]
      exact digs_rst f (nxt x) k b.1 b.2 (by omega)
theorem sgn_rst {n : Int} (h : -29524 ≤ n ∧ n ≤ 29524) {k : Nat} (hk : k < 10) : (sgn n).getD k 0 = (rst (n + 29524) k).tmod 3 - 1 := by
  rw [sgn_get]
  unfold digsL
  rw [if_pos h]
  exact digs_rst 10 n k h.1 h.2 hk
theorem sgn_out {n : Int} (h : ¬ (-29524 ≤ n ∧ n ≤ 29524)) : sgn n = [0, 0, 0, 0, 0, 0, 0, 0, 0, 0] := by
  unfold sgn digsL
  rw [if_neg h]; rfl

/-- The first k places, the others 0. -/
def sgnTo (n : Int) (k : Nat) : List Value := ints ((sgn n).take k) ++ List.replicate (10 - k) (.int .i64 0)
theorem sgnTo_len {n : Int} {k : Nat} (hk : k ≤ 10) : (sgnTo n k).length = 10 := by
  unfold sgnTo
  rw [List.length_append, ints_length, List.length_take, List.length_replicate, sgn_length]; omega
theorem sgnTo_set {n : Int} {k : Nat} (hk : k < 10) : (sgnTo n k).toArray.setIfInBounds k (.int .i64 ((sgn n).getD k 0)) = (sgnTo n (k + 1)).toArray := by
  rw [List.setIfInBounds_toArray]
  congr 1
  unfold sgnTo
  have hl : (ints ((sgn n).take k)).length = k := by rw [ints_length, List.length_take, sgn_length]; omega
  rw [List.set_append_right _ _ (by omega), hl, Nat.sub_self]
  obtain ⟨m, hm⟩ : ∃ m, 10 - k = m + 1 := ⟨10 - k - 1, by omega⟩
  have hm2 : 10 - (k + 1) = m := by omega
  rw [hm, hm2, List.replicate_succ, List.set_cons_zero, List.take_succ_eq_append_getElem (by rw [sgn_length]; exact hk), ints_append, List.append_assoc, List.getD_eq_getElem?_getD, List.getElem?_eq_getElem (by rw [sgn_length]; exact hk)]; rfl
theorem sgnTo_all (n : Int) : sgnTo n 10 = ints (sgn n) := by
  unfold sgnTo
  rw [List.take_of_length_le (by rw [sgn_length]; exact Nat.le_refl _)]; simp

/-- The ten places are answered as an array; only new memory is written. -/
def SaysA (L : List Int) (w : World) (e : Ending) (w' : World) : Prop := e = .returned (.agg (ints L).toArray) ∧ Below w.heap.size w w'

theorem ten_of {L : List Int} (h : L.length = 10) : ∃ a b c d e f g i j k, L = [a, b, c, d, e, f, g, i, j, k] := by
  rcases L with _ | ⟨a, _ | ⟨b, _ | ⟨c, _ | ⟨d, _ | ⟨e, _ | ⟨f, _ | ⟨g, _ | ⟨i, _ | ⟨j, _ | ⟨k, _ | ⟨l, r⟩⟩⟩⟩⟩⟩⟩⟩⟩⟩⟩ <;> simp at h
  exact ⟨_, _, _, _, _, _, _, _, _, _, rfl⟩

theorem results_cell_one {fn : Func} {p : Tmp} {ty : TypeId} (h : fn.results = #[.cell p ty]) (tmps : Array Value) (P : Program) (w : World) :
    (results fn tmps).run P w = ((asAddr (tmps.getD p undef)).run P w).andThen fun a w₁ => (loadVar ty a).run P w₁ := by
  simp only [results, h]
  simp [Sem.run_bind, Result.andThen]

/-- Two new blocks of ten cells. -/
theorem two_new (w : World) (a b : Array Value) (t : TypeId) : Below w.heap.size w ((w.alloc (.cells a t)).alloc (.cells b t)) :=
  ((Below.refl _ _).alloc (Nat.le_refl _) _).alloc (by simp) _

theorem signed_any (n : Int) (w : World) : Calls Try.prog 27 #[.int .i64 n] w (SaysA (sgn n) w) := by
  by_cases h1 : n < -29524
  · rw [sgn_out (by omega)]
    go_enter Try.func27, Try.ntmps27
    go_wp2
    refine bodyPost_ret (v := .agg (ints [0, 0, 0, 0, 0, 0, 0, 0, 0, 0]).toArray) ?_ rfl ⟨rfl, two_new _ _ _ _⟩
    rw [results_cell_one rfl]
    go_simp
    rfl
  · by_cases h2 : 29524 < n
    · rw [sgn_out (by omega)]
      go_enter Try.func27, Try.ntmps27
      go_wp2
      refine bodyPost_ret (v := .agg (ints [0, 0, 0, 0, 0, 0, 0, 0, 0, 0]).toArray) ?_ rfl ⟨rfl, two_new _ _ _ _⟩
      rw [results_cell_one rfl]
      go_simp
      rfl
    · have hin : -29524 ≤ n ∧ n ≤ 29524 := by omega
      have hend : ∀ a b, SaysA (sgn n) w (.returned (.agg (ints (sgn n)).toArray)) ((w.alloc (.cells a 37)).alloc (.cells b 37)) := fun a b => ⟨rfl, two_new w a b _⟩
      have hs : ∀ k, k < 10 → (sgn n).getD k 0 = (rst (n + 29524) k).tmod 3 - 1 := fun k hk => sgn_rst hin hk
      have hr := rst_le (r := n + 29524) (by omega) (by omega)
      have hL := sgn_length n
      have ht : ∀ k, k < 10 → (sgnTo n k).toArray.setIfInBounds k (.int .i64 ((sgn n).getD k 0)) = (sgnTo n (k + 1)).toArray := fun k hk => sgnTo_set hk
      have hq : ∀ k, k ≤ 10 → (sgnTo n k).length = 10 := fun k hk => sgnTo_len hk
      have ha := sgnTo_all n
      have h0 : sgnTo n 0 = [.int .i64 0, .int .i64 0, .int .i64 0, .int .i64 0, .int .i64 0, .int .i64 0, .int .i64 0, .int .i64 0, .int .i64 0, .int .i64 0] := rfl
      generalize sgn n = L at hs hL ht ha hend
      generalize sgnTo n = S at ht hq ha h0
      go_enter Try.func27, Try.ntmps27
      go_wp2_with fail
      generalize n + 29524 = r at hs hr
      go_loopw [4, 15] (fun m i wr => ∃ k : Nat, k ≤ 10 ∧ i = .int .i64 k ∧ m = .int .i64 (rst r k) ∧ wr = (w.alloc (.cells #[.int .i64 0, .int .i64 0, .int .i64 0, .int .i64 0, .int .i64 0, .int .i64 0, .int .i64 0, .int .i64 0, .int .i64 0, .int .i64 0] 37)).alloc (.cells (S k).toArray 37)) (fun _ i _ => 10 - (intOf i).toNat)
      case atStart => exact ⟨0, by omega, rfl, rfl, by rw [h0]⟩
      case round =>
        obtain ⟨k, hk, rfl, rfl, rfl⟩ := hrel
        by_cases hlt : k < 10
        · have e := hs k hlt
          have b := hr k
          have t := tmod3 (rst r k)
          have hset := ht k hlt
          have hsz := hq k hk
          have hn : rst r (k + 1) = (rst r k).tdiv 3 := rfl
          clear hs hr ht ha h0 hq hend hL
          rw [e] at hset
          generalize rst r k = x at b t hset hn
          rw [List.setIfInBounds_toArray] at hset
          have hset2 : (S k).set k (.int .i64 (x % 3 - 1)) = S (k + 1) := by
            rw [Int.tmod_eq_emod_of_nonneg b.1] at hset
            exact congrArg Array.toList hset
          rw [Int.tdiv_eq_ediv_of_nonneg b.1] at hn
          clear t e hset
          go_wp2
          go_roundw
          case rel => exact ⟨k + 1, by omega, by go_num, by rw [hn], by with_reducible rfl⟩
          case measure => simp [intOf]; omega
        · obtain rfl : k = 10 := by omega
          rw [ha]
          clear hs hr ht hq h0 hk hlt ha
          obtain ⟨c0, c1, c2, c3, c4, c5, c6, c7, c8, c9, rfl⟩ := ten_of hL
          simp only [ints, List.map_cons, List.map_nil] at hend ⊢
          clear hL
          go_wp2
          refine bodyPost_ret (v := .agg #[.int .i64 c0, .int .i64 c1, .int .i64 c2, .int .i64 c3, .int .i64 c4, .int .i64 c5, .int .i64 c6, .int .i64 c7, .int .i64 c8, .int .i64 c9]) ?_ rfl (hend _ _)
          rw [results_cell_one rfl]
          clear hend
          go_simp
end Go.Proofs.Ythedoijceeeinaa
