/-
  A list of the sums of all choices of weights, equal ones not told apart: it counts the ways; when a set reaches its own sum, and when in one way each. Ints and lists only, no program's walk.
-/
import Derived.Test.YtdnjpekclmiliaaUCalls
import Derived.Test.YtdnjpekclmiliaaPans
namespace Go.Proofs.Ytdnjpekclmiliaa

/-- A further weight: taken by all sums, or (same) only by those that took the one before. -/
def cstep (p : List Int × Nat) (same : Bool) (x : Int) : List Int × Nat := (p.1 ++ (p.1.drop (if same then p.2 else 0)).map fun s => s + x, p.1.length)
def sameAt (L : List Int) (k : Nat) : Bool := decide (0 < k ∧ L.getD k 0 = L.getD (k - 1) 0)
def cst (L : List Int) : Nat → List Int × Nat
  | 0 => ([0], 0)
  | k + 1 => cstep (cst L k) (sameAt L k) (L.getD k 0)
def chS (L : List Int) : List Int := if setB L then (cst L L.length).1 else []
theorem cst_succ (L : List Int) (k : Nat) : cst L (k + 1) = cstep (cst L k) (sameAt L k) (L.getD k 0) := rfl
theorem cst_two (L : List Int) : ∀ k, (cst L k).2 ≤ (cst L k).1.length
  | 0 => Nat.zero_le _
  | k + 1 => by
    rw [cst_succ]
    show (cst L k).1.length ≤ ((cst L k).1 ++ _).length
    rw [List.length_append]
    exact Nat.le_add_right _ _
theorem cst_lt (L : List Int) : ∀ k, (cst L k).2 < (cst L k).1.length
  | 0 => Nat.zero_lt_one
  | k + 1 => by
    have ih := cst_lt L k
    rw [cst_succ]
    show (cst L k).1.length < ((cst L k).1 ++ _).length
    rw [List.length_append, List.length_map, List.length_drop]
    split <;> omega
theorem cst_len (L : List Int) : ∀ k, 1 ≤ (cst L k).1.length ∧ (cst L k).1.length ≤ 2 ^ k
  | 0 => ⟨Nat.le_refl 1, Nat.le_refl 1⟩
  | k + 1 => by
    have ih := cst_len L k
    rw [cst_succ]
    show 1 ≤ ((cst L k).1 ++ _).length ∧ ((cst L k).1 ++ _).length ≤ _
    rw [List.length_append, List.length_map, List.length_drop, Nat.pow_succ]
    omega
theorem cst_mem {L : List Int} (hL : ∀ j, j < L.length → 0 ≤ L.getD j 0) : ∀ k, k ≤ L.length → ∀ s ∈ (cst L k).1, 0 ≤ s ∧ s ≤ sumL (L.take k)
  | 0, _, s, hs => by
    obtain rfl : s = 0 := by simpa [cst] using hs
    exact ⟨Int.le_refl _, Int.le_refl _⟩
  | k + 1, hk, s, hs => by
    have ih := cst_mem hL k (by omega)
    have e := sumL_take (L := L) (k := k) (by omega)
    have hx := hL k (by omega)
    rw [cst_succ] at hs
    rw [e]
    rcases List.mem_append.1 (show s ∈ (cst L k).1 ++ _ from hs) with h | h
    · have := ih s h
      omega
    · obtain ⟨t, ht, rfl⟩ := List.mem_map.1 h
      have := ih t (List.mem_of_mem_drop ht)
      omega
theorem cnt_map (x : Int) : ∀ (S : List Int) (n : Int), cnt (S.map fun s => s + x) n = cnt S (n - x)
  | [], n => rfl
  | s :: r, n => by
    have ih := cnt_map x r n
    show cnt ((s + x) :: r.map fun s => s + x) n = cnt (s :: r) (n - x)
    rw [cnt_cons, cnt_cons, ih]
    split <;> split <;> omega
theorem cnt_zero {S : List Int} {n : Int} (h : ¬ n ∈ S) : cnt S n = 0 := by
  unfold cnt
  rw [List.count_eq_zero.2 h]; rfl

/-- Inside a run of equal weights behind k. -/
theorem run_cnt {L : List Int} {k : Nat} {f : Int → Int} (hb : k = 0 ∨ L.getD k 0 ≠ L.getD (k - 1) 0) (hf : ∀ n, cnt (cst L k).1 n = f n) : ∀ j, j ≤ runAt L k →
    (∀ n, cnt (cst L (k + j)).1 n = conv f (L.getD k 0) j n) ∧ (0 < j → ∀ n, cnt ((cst L (k + j)).1.drop (cst L (k + j)).2) n = f (n - j * L.getD k 0))
  | 0, _ => by
    refine ⟨fun n => ?_, fun h => absurd h (Nat.lt_irrefl 0)⟩
    show cnt (cst L k).1 n = sumN (fun i => f (n - i * L.getD k 0)) 0 + f (n - ((0 : Nat) : Int) * L.getD k 0)
    rw [hf]
    show f n = 0 + f (n - ((0 : Nat) : Int) * L.getD k 0)
    rw [show n - ((0 : Nat) : Int) * L.getD k 0 = n by simp]; omega
  | j + 1, hj => by
    obtain ⟨ih1, ih2⟩ := run_cnt hb hf j (by omega)
    have hx : L.getD (k + j) 0 = L.getD k 0 := runAt_at (by omega)
    have e : cst L (k + (j + 1)) = cstep (cst L (k + j)) (sameAt L (k + j)) (L.getD k 0) := by rw [← hx]; rfl
    have hd : ∀ n, cnt ((cst L (k + j)).1.drop (if sameAt L (k + j) then (cst L (k + j)).2 else 0)) n = f (n - j * L.getD k 0) := fun n => by
      rcases Nat.eq_zero_or_pos j with h0 | h0
      · subst h0
        have hs : sameAt L (k + 0) = false := decide_eq_false (by
          rintro ⟨h1, h2⟩
          rcases hb with hb | hb
          · omega
          · exact hb h2)
        rw [hs]
        show cnt ((cst L k).1.drop 0) n = _
        rw [List.drop_zero, hf]
        congr 1
        simp
      · have hs : sameAt L (k + j) = true := decide_eq_true ⟨by omega, by
          have := runAt_at (L := L) (k := k) (j := j - 1) (by omega)
          rw [show k + (j - 1) = k + j - 1 by omega] at this
          rw [hx, this]⟩
        rw [hs]
        exact ih2 h0 n
    have hn : ∀ n : Int, n - ((j + 1 : Nat) : Int) * L.getD k 0 = n - L.getD k 0 - j * L.getD k 0 := fun n => by
      have : ((j + 1 : Nat) : Int) * L.getD k 0 = j * L.getD k 0 + L.getD k 0 := by rw [Int.natCast_add, Int.add_mul]; simp
      omega
    have hm : ∀ n, cnt (((cst L (k + j)).1.drop (if sameAt L (k + j) then (cst L (k + j)).2 else 0)).map fun s => s + L.getD k 0) n = f (n - ((j + 1 : Nat) : Int) * L.getD k 0) := fun n => by
      rw [cnt_map, hd, hn]
    refine ⟨fun n => ?_, fun _ n => ?_⟩
    · rw [e]
      show cnt ((cst L (k + j)).1 ++ _) n = _
      rw [cnt_append, hm, ih1]
      rfl
    · rw [e]
      show cnt (List.drop (cst L (k + j)).1.length ((cst L (k + j)).1 ++ _)) n = _
      rw [List.drop_left, hm]
theorem conv_pos {f : Int → Int} (h : ∀ n, 0 ≤ f n) (x : Int) : ∀ (j : Nat) (n : Int), 0 ≤ conv f x j n ∧ (0 < conv f x j n ↔ ∃ i : Nat, i ≤ j ∧ 0 < f (n - i * x))
  | 0, n => by
    have e : conv f x 0 n = 0 + f (n - ((0 : Nat) : Int) * x) := rfl
    have := h (n - ((0 : Nat) : Int) * x)
    rw [e]
    refine ⟨by omega, fun hp => ⟨0, Nat.le_refl 0, by omega⟩, ?_⟩
    rintro ⟨i, hi, hp⟩
    obtain rfl : i = 0 := by omega
    omega
  | j + 1, n => by
    have e : conv f x (j + 1) n = conv f x j n + f (n - ((j + 1 : Nat) : Int) * x) := rfl
    obtain ⟨h0, ih⟩ := conv_pos h x j n
    have h1 := h (n - ((j + 1 : Nat) : Int) * x)
    rw [e]
    refine ⟨by omega, fun hp => ?_, ?_⟩
    · by_cases hq : 0 < conv f x j n
      · obtain ⟨i, hi, hp⟩ := ih.1 hq
        exact ⟨i, by omega, hp⟩
      · exact ⟨j + 1, Nat.le_refl _, by omega⟩
    · rintro ⟨i, hi, hp⟩
      rcases Nat.lt_or_ge j i with h2 | h2
      · obtain rfl : i = j + 1 := by omega
        omega
      · have := ih.2 ⟨i, h2, hp⟩
        omega
/-- Told apart or not: the same sums. -/
theorem run_wys {L : List Int} {k : Nat} {f : Int → Int} (hf : ∀ n, 0 < f n ↔ 0 < wys false L k n) : ∀ j, j ≤ runAt L k → ∀ n, 0 < wys false L (k + j) n ↔ ∃ i : Nat, i ≤ j ∧ 0 < f (n - i * L.getD k 0)
  | 0, _, n => by
    constructor
    · intro h
      exact ⟨0, Nat.le_refl 0, (hf _).2 (by simpa using h)⟩
    · rintro ⟨i, hi, h⟩
      obtain rfl : i = 0 := by omega
      simpa using (hf _).1 h
  | j + 1, hj, n => by
    have ih := run_wys hf j (by omega)
    have hx : L.getD (k + j) 0 = L.getD k 0 := runAt_at (by omega)
    have h1 := wys_nonneg false L (k + j) n
    have h2 := wys_nonneg false L (k + j) (n - L.getD k 0)
    have e : wys false L (k + (j + 1)) n = wys false L (k + j) n + wys false L (k + j) (n - L.getD k 0) := by
      show wys false L (k + j + 1) n = _
      rw [wys_succ, hx]; simp
    have hn : ∀ i : Nat, n - ((i + 1 : Nat) : Int) * L.getD k 0 = n - L.getD k 0 - i * L.getD k 0 := fun i => by
      have : ((i + 1 : Nat) : Int) * L.getD k 0 = i * L.getD k 0 + L.getD k 0 := by rw [Int.natCast_add, Int.add_mul]; simp
      omega
    rw [e]
    constructor
    · intro h
      by_cases h3 : 0 < wys false L (k + j) n
      · obtain ⟨i, hi, hp⟩ := (ih n).1 h3
        exact ⟨i, by omega, hp⟩
      · obtain ⟨i, hi, hp⟩ := (ih (n - L.getD k 0)).1 (by omega)
        exact ⟨i + 1, by omega, by rw [hn]; exact hp⟩
    · rintro ⟨i, hi, hp⟩
      rcases i with _ | i
      · have := (ih n).2 ⟨0, by omega, hp⟩
        omega
      · have := (ih (n - L.getD k 0)).2 ⟨i, by omega, by rw [← hn]; exact hp⟩
        omega
/-- What is so at the start of a run. -/
structure CState (L : List Int) (k : Nat) (f : Int → Int) : Prop where
  us : UState L k f
  new : k < L.length → k = 0 ∨ L.getD k 0 ≠ L.getD (k - 1) 0
  cn : ∀ n, cnt (cst L k).1 n = f n
  wy : ∀ n, 0 < f n ↔ 0 < wys false L k n
theorem cstate_start (L : List Int) : CState L 0 dlt where
  us := ustate_start L
  new _ := .inl rfl
  cn n := by
    show cnt [0] n = dlt n
    rw [cnt_cons, cnt_nil]
    unfold dlt
    split <;> split <;> omega
  wy n := Iff.rfl
theorem cstate_next {L : List Int} {k : Nat} {f : Int → Int} (h : CState L k f) (hk : k < L.length) (hx : 0 ≤ L.getD k 0) : CState L (k + runAt L k) (conv f (L.getD k 0) (runAt L k)) where
  us := ustate_next h.us hk hx
  new h2 := .inr (by
    have h3 := runAt_end h2
    have h4 := runAt_eq hk
    have h5 := runAt_at (L := L) (k := k) (j := runAt L k - 1) (by omega)
    rw [show k + (runAt L k - 1) = k + runAt L k - 1 by omega] at h5
    rw [h5]
    exact h3)
  cn := (run_cnt (h.new hk) h.cn _ (Nat.le_refl _)).1
  wy n := by
    rw [run_wys h.wy _ (Nat.le_refl _)]
    exact (conv_pos (fun n => (h.us.bd n).1) _ _ n).2
theorem cstate_end {L : List Int} (hL : ∀ j, j < L.length → 0 ≤ L.getD j 0) : CState L L.length (uw L) := by
  have key : ∀ (d k : Nat) (f : Int → Int), L.length - k ≤ d → k ≤ L.length → CState L k f → CState L L.length (uw L) := fun d => by
    induction d with
    | zero =>
      intro k f h1 h2 hU
      obtain rfl : k = L.length := by omega
      have e := ustate_end hU.us
      rw [e] at hU
      exact hU
    | succ d ih =>
      intro k f h1 h2 hU
      rcases Nat.lt_or_ge k L.length with h3 | h3
      · have h5 := runAt_eq h3
        exact ih _ _ (by omega) (runAt_le h2) (cstate_next hU h3 (hL k h3))
      · obtain rfl : k = L.length := by omega
        have e := ustate_end hU.us
        rw [e] at hU
        exact hU
  exact key L.length 0 dlt (by omega) (by omega) (cstate_start L)

/-! ### What the calls answer -/
theorem set_nonneg {L : List Int} (h : SetP L) : ∀ j, j < L.length → 0 ≤ L.getD j 0 := fun j hj => by have := set_pos h j hj; omega
theorem chS_set {L : List Int} (h : SetP L) : chS L = (cst L L.length).1 := by
  unfold chS
  rw [show setB L = true from decide_eq_true h]; rfl
theorem chS_cnt {L : List Int} (h : SetP L) (n : Int) : cnt (chS L) n = uw L n := by
  rw [chS_set h]
  exact (cstate_end (set_nonneg h)).cn n
theorem chS_mem {L : List Int} (h : SetP L) : ∀ s ∈ chS L, 0 ≤ s ∧ s ≤ sumL L := fun s hs => by
  rw [chS_set h] at hs
  have := cst_mem (set_nonneg h) L.length (Nat.le_refl _) s hs
  rw [sumL_all] at this
  exact this
theorem chS_ways (L : List Int) (m : Int) : cnt (chS L) m = waysU L m := by
  unfold waysU
  cases hs : setB L
  · have e : chS L = [] := by unfold chS; rw [hs]; rfl
    rw [e]; rfl
  · have h := setB_P hs
    rw [if_pos rfl]
    split
    · exact chS_cnt h m
    · refine cnt_zero fun hm => ?_
      have := chS_mem h m hm
      omega
theorem chS_len (L : List Int) : (chS L).length ≤ 256 := by
  unfold chS
  cases hs : setB L
  · exact Nat.zero_le _
  · have h1 := (cst_len L L.length).2
    have h2 : (2 : Nat) ^ L.length ≤ 2 ^ 8 := Nat.pow_le_pow_right (by decide) (setB_P hs).1.2
    have h3 : (2 : Nat) ^ 8 = 256 := by decide
    show (cst L L.length).1.length ≤ 256
    omega
theorem total_of {L : List Int} (h : SetP L) : ∃ T : Nat, sumL L = T ∧ T ≤ 8000 := set_total h
theorem complete_iff {L : List Int} (h : SetP L) : completeB L = decide (reachI L 1 = sumL L) := by
  have hs : setB L = true := decide_eq_true h
  obtain ⟨T, hT, -⟩ := set_total h
  have C := cstate_end (set_nonneg h)
  have R := reachOf_reach h false
  rw [(reachI_of h).1]
  by_cases e : reachOf false L = sumL L
  · rw [decide_eq_true e]
    unfold completeB
    rw [hs, Bool.true_and]
    refine allU_yes hT fun n hn => decide_eq_true ?_
    have : 0 < uw L n := (C.wy n).2 (by
      rcases Nat.eq_zero_or_pos n with h0 | h0
      · subst h0
        have := wys_zero false L L.length
        rw [show ((0 : Nat) : Int) = 0 from rfl]
        omega
      · exact R.pos n (by omega) (by omega))
    omega
  · rw [decide_eq_false e]
    unfold completeB
    rw [hs, Bool.true_and]
    cases ha : allU (fun v => decide (1 ≤ v)) L
    · rfl
    · exfalso
      have hall : ∀ n : Nat, n ≤ T → 1 ≤ uw L n := fun n hn => by
        unfold allU at ha
        rw [List.all_eq_true] at ha
        exact of_decide_eq_true (ha n (List.mem_range.2 (by omega)))
      refine e (R.uniq ⟨by omega, fun i i1 i2 => ?_, wysL_far h false _ (.inr (by omega))⟩)
      obtain ⟨n, rfl⟩ : ∃ n : Nat, i = n := ⟨i.toNat, by omega⟩
      have := hall n (by omega)
      exact (C.wy n).1 (by omega)
theorem sumR_one (s : Int) (lo : Int) : ∀ c : Nat, sumR (fun n => if s = n then (1 : Int) else 0) lo c = if lo ≤ s ∧ s < lo + c then 1 else 0
  | 0 => by
    show (0 : Int) = _
    rw [if_neg (by omega)]
  | c + 1 => by
    have ih := sumR_one s lo c
    show sumR (fun n => if s = n then (1 : Int) else 0) lo c + (if s = lo + c then (1 : Int) else 0) = _
    rw [ih]
    split <;> split <;> split <;> omega
theorem sumR_cnt {T : Nat} : ∀ {S : List Int}, (∀ s ∈ S, 0 ≤ s ∧ s ≤ T) → sumR (cnt S) 0 (T + 1) = S.length
  | [], _ => by
    have : ∀ c : Nat, sumR (cnt []) 0 c = 0 := fun c => by
      induction c with
      | zero => rfl
      | succ c ih =>
        show sumR (cnt []) 0 c + cnt [] (0 + (c : Int)) = 0
        rw [ih]; rfl
    exact this _
  | s :: r, h => by
    have ih := sumR_cnt (S := r) fun t ht => h t (List.mem_cons_of_mem _ ht)
    have hs := h s List.mem_cons_self
    have e : cnt (s :: r) = fun n => (if s = n then (1 : Int) else 0) + cnt r n := by
      funext n
      exact cnt_cons s r n
    rw [e, sumR_add, sumR_one, ih, if_pos (by omega)]
    simp only [List.length_cons]
    omega
theorem sumR_ones {f : Int → Int} {lo : Int} : ∀ {c : Nat}, (∀ j : Nat, j < c → 1 ≤ f (lo + j)) → sumR f lo c = c → ∀ j : Nat, j < c → f (lo + j) = 1
  | 0, _, _, j, hj => by omega
  | c + 1, h, e, j, hj => by
    have h1 := sumR_ge (f := f) (lo := lo) (c := c) fun j hj => h j (by omega)
    have h2 := h c (by omega)
    have e2 : sumR f lo c + f (lo + c) = ((c + 1 : Nat) : Int) := e
    rcases Nat.lt_or_ge j c with h3 | h3
    · exact sumR_ones (fun j hj => h j (by omega)) (by omega) j h3
    · obtain rfl : j = c := by omega
      omega
theorem sumR_all {f : Int → Int} {lo : Int} : ∀ {c : Nat}, (∀ j : Nat, j < c → f (lo + j) = 1) → sumR f lo c = c
  | 0, _ => rfl
  | c + 1, h => by
    have ih := sumR_all (c := c) fun j hj => h j (by omega)
    have h2 := h c (by omega)
    show sumR f lo c + f (lo + c) = ((c + 1 : Nat) : Int)
    omega
theorem perfect_iff {L : List Int} (h : SetP L) : perfectB L = (completeB L && decide (((chS L).length : Int) = sumL L + 1)) := by
  have hs : setB L = true := decide_eq_true h
  obtain ⟨T, hT, -⟩ := set_total h
  have hsum := sumR_cnt (T := T) (S := chS L) fun s hm => by have := chS_mem h s hm; omega
  have ec : cnt (chS L) = uw L := funext fun n => chS_cnt h n
  rw [ec] at hsum
  have e0 : ∀ j : Nat, (0 : Int) + (j : Int) = j := fun j => by omega
  unfold perfectB completeB oneWay
  rw [hs, Bool.true_and, Bool.true_and]
  by_cases ho : ∀ n : Nat, n ≤ T → uw L n = 1
  · rw [allU_yes hT fun n hn => decide_eq_true (ho n hn), allU_yes hT fun n hn => decide_eq_true (by rw [ho n hn]; decide), Bool.true_and, decide_eq_true]
    have := sumR_all (f := uw L) (lo := 0) (c := T + 1) fun j hj => by rw [e0]; exact ho j (by omega)
    omega
  · have hno : allU (fun v => decide (v = 1)) L = false := by
      cases ha : allU (fun v => decide (v = 1)) L
      · rfl
      · exfalso
        refine ho fun n hn => ?_
        unfold allU at ha
        rw [List.all_eq_true] at ha
        exact of_decide_eq_true (ha n (List.mem_range.2 (by omega)))
    rw [hno]
    cases ha : allU (fun v => decide (1 ≤ v)) L
    · rfl
    · rw [Bool.true_and]
      refine (decide_eq_false fun e => ho fun n hn => ?_).symm
      have hall : ∀ j : Nat, j < T + 1 → 1 ≤ uw L (0 + (j : Int)) := fun j hj => by
        unfold allU at ha
        rw [List.all_eq_true] at ha
        rw [e0]
        exact of_decide_eq_true (ha j (List.mem_range.2 (by omega)))
      have := sumR_ones hall (by omega) n (by omega)
      rw [e0] at this
      exact this
end Go.Proofs.Ytdnjpekclmiliaa
