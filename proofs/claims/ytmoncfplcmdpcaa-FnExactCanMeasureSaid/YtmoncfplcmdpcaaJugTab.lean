/-
  The model's table of distances as a list of 441 ints: what a loop over its cells has made of it so far; that a round that changes something leaves fewer cells without a distance. No program's walk.
-/
import Derived.Test.YtmoncfplcmdpcaaJugDist
namespace Go.Proofs.Ytmoncfplcmdpcaa

def tab (f : Nat → Int) : List Int := (List.range 441).map f
theorem tab_length (f : Nat → Int) : (tab f).length = 441 := by unfold tab; rw [List.length_map, List.length_range]
theorem tab_get {f : Nat → Int} {j : Nat} (h : j < 441) : (tab f).getD j 0 = f j := by
  unfold tab
  rw [List.getD_eq_getElem?_getD, List.getElem?_map, List.getElem?_range h]; rfl
theorem tab_congr {f f' : Nat → Int} (h : ∀ j, j < 441 → f j = f' j) : tab f = tab f' := by
  unfold tab
  exact List.map_congr_left fun j hj => h j (List.mem_range.1 hj)
theorem tab_el {f : Nat → Int} {i : Nat} (h : i < (tab f).length) : (tab f)[i] = f i := by simp [tab]
theorem tab_zero : tab (fun _ => 0) = List.replicate 441 0 := by unfold tab; rw [List.map_const', List.length_range]
/-- P below k, Q from k on. -/
def mix (P Q : Nat → Int) (k : Nat) : Nat → Int := fun j => if j < k then P j else Q j
theorem mix_lo {P Q : Nat → Int} {k j : Nat} (h : j < k) : mix P Q k j = P j := if_pos h
theorem mix_hi {P Q : Nat → Int} {k j : Nat} (h : k ≤ j) : mix P Q k j = Q j := if_neg (by omega)
theorem mix_set {P Q : Nat → Int} {k : Nat} {z : Int} (h : z = P k) : (tab (mix P Q k)).set k z = tab (mix P Q (k + 1)) := by
  refine List.ext_getElem (by rw [List.length_set, tab_length, tab_length]) fun i h1 h2 => ?_
  rw [List.getElem_set, tab_el, tab_el]
  by_cases e : k = i
  · subst e
    rw [if_pos rfl, mix_lo (by omega), h]
  · rw [if_neg e]
    by_cases e2 : i < k
    · rw [mix_lo e2, mix_lo (by omega)]
    · rw [mix_hi (by omega), mix_hi (by omega)]
theorem mix_on {P Q : Nat → Int} {k k' : Nat} (hk : k ≤ k') (h : ∀ j, k ≤ j → j < k' → P j = Q j) : tab (mix P Q k) = tab (mix P Q k') := tab_congr fun j _ => by
  by_cases e : j < k
  · rw [mix_lo e, mix_lo (by omega)]
  · rw [mix_hi (by omega)]
    by_cases e2 : j < k'
    · rw [mix_lo e2, h j (by omega) e2]
    · rw [mix_hi (by omega)]
theorem mix_none (P Q : Nat → Int) : tab (mix P Q 0) = tab Q := tab_congr fun _ _ => mix_hi (Nat.zero_le _)
theorem mix_all (P Q : Nat → Int) : tab (mix P Q 441) = tab P := tab_congr fun _ hj => mix_lo hj

/-- The cells of jugs of a and b: F of the state; -1 outside. -/
def cellF (a b : Nat) (F : Int × Int → Int) (j : Nat) : Int := if j / 21 ≤ a ∧ j % 21 ≤ b then F (((j / 21 : Nat) : Int), ((j % 21 : Nat) : Int)) else -1
theorem key_div {x y : Nat} (hy : y ≤ 20) : (x * 21 + y) / 21 = x ∧ (x * 21 + y) % 21 = y := by omega
theorem cellF_at {a b x y : Nat} (F : Int × Int → Int) (hx : x ≤ a) (hy : y ≤ b) (hb : b ≤ 20) : cellF a b F (x * 21 + y) = F ((x : Int), (y : Int)) := by
  unfold cellF
  obtain ⟨e1, e2⟩ := key_div (x := x) (y := y) (by omega)
  rw [e1, e2, if_pos ⟨hx, hy⟩]
theorem cellF_out {a b j : Nat} (F : Int × Int → Int) (h : ¬ (j / 21 ≤ a ∧ j % 21 ≤ b)) : cellF a b F j = -1 := if_neg h
/-- Behind a row's last cell nothing is left of it. -/
theorem cellF_row {a b x : Nat} (F F' : Int × Int → Int) (hb : b ≤ 20) (j : Nat) (h1 : x * 21 + (b + 1) ≤ j) (h2 : j < (x + 1) * 21) : cellF a b F j = cellF a b F' j := by
  rw [cellF_out, cellF_out] <;> omega
theorem cellF_end {a b : Nat} (F F' : Int × Int → Int) (j : Nat) (h1 : (a + 1) * 21 ≤ j) : cellF a b F j = cellF a b F' j := by
  rw [cellF_out, cellF_out] <;> omega

section
variable {a b : Nat} {g : Int}
theorem dd_succ_ne {n : Nat} {s : Int × Int} (h : dd a b g (n + 1) s ≠ dd a b g n s) : dd a b g n s = -1 ∧ 0 ≤ dd a b g (n + 1) s := by
  by_cases h0 : 0 ≤ dd a b g n s
  · exact absurd (dd_old h0) h
  · have e := dd_neg h0
    have := dd_range (a := a) (b := b) (g := g) (n + 1) s
    exact ⟨e, by omega⟩
theorem cellF_pos {n j : Nat} (h : 0 ≤ cellF a b (dd a b g n) j) : cellF a b (dd a b g (n + 1)) j = cellF a b (dd a b g n) j := by
  unfold cellF at h ⊢
  split
  · rename_i e
    rw [if_pos e] at h
    exact dd_old h
  · rfl
/-- A cell tells n in the mixed table just if it did before. -/
theorem mix_tells {n k j : Nat} : mix (cellF a b (dd a b g (n + 1))) (cellF a b (dd a b g n)) k j = (n : Int) ↔ cellF a b (dd a b g n) j = (n : Int) := by
  by_cases e : j < k
  · rw [mix_lo e]
    by_cases h0 : 0 ≤ cellF a b (dd a b g n) j
    · rw [cellF_pos h0]
    · unfold cellF at h0 ⊢
      split
      · rename_i e
        rw [if_pos e] at h0
        have e1 := dd_neg h0
        by_cases h2 : acts6.any (toward a b (dd a b g n) n (((j / 21 : Nat) : Int), ((j % 21 : Nat) : Int))) = true
        · rw [dd_new h0 h2, e1]; omega
        · rw [dd_not h0 (by simpa using h2), e1]
      · rfl
  · rw [mix_hi (by omega)]

theorem countP_le_of {α : Type} {p q : α → Bool} : ∀ (l : List α), (∀ x ∈ l, p x = true → q x = true) → l.countP p ≤ l.countP q
  | [], _ => Nat.le_refl _
  | x :: l, h => by
    have ih := countP_le_of l fun y hy => h y (List.mem_cons_of_mem _ hy)
    have hx := h x List.mem_cons_self
    rw [List.countP_cons, List.countP_cons]
    rcases hp : p x with _ | _
    · split <;> split <;> simp_all <;> omega
    · rw [hx hp]; simp; exact ih
theorem countP_lt_of {α : Type} {p q : α → Bool} : ∀ (l : List α), (∀ x ∈ l, p x = true → q x = true) → (∃ x ∈ l, q x = true ∧ p x = false) → l.countP p < l.countP q
  | [], _, ⟨x, hx, _⟩ => by cases hx
  | x :: l, h, ⟨y, hy, h1, h2⟩ => by
    have hl : ∀ z ∈ l, p z = true → q z = true := fun z hz => h z (List.mem_cons_of_mem _ hz)
    rw [List.countP_cons, List.countP_cons]
    rcases List.mem_cons.1 hy with rfl | hy
    · have := countP_le_of l hl
      rw [h1, h2]
      simp
      omega
    · have ih := countP_lt_of l hl ⟨y, hy, h1, h2⟩
      have hx := h x List.mem_cons_self
      rcases hp : p x with _ | _
      · split <;> split <;> simp_all <;> omega
      · rw [hx hp]; simp; exact ih
/-- How many cells have no distance. -/
def cnt (a b : Nat) (g : Int) (n : Nat) : Nat := (List.range 441).countP fun j => decide (cellF a b (dd a b g n) j < 0)
theorem cnt_le (n : Nat) : cnt a b g n ≤ 441 := by
  have := List.countP_le_length (p := fun j => decide (cellF a b (dd a b g n) j < 0)) (l := List.range 441)
  rw [List.length_range] at this
  exact this
theorem cnt_lt {n j : Nat} (hj : j < 441) (h : cellF a b (dd a b g (n + 1)) j ≠ cellF a b (dd a b g n) j) : cnt a b g (n + 1) < cnt a b g n := by
  refine countP_lt_of _ (fun x _ hx => ?_) ⟨j, List.mem_range.2 hj, ?_⟩
  · refine decide_eq_true ?_
    replace hx := of_decide_eq_true hx
    refine Decidable.byContradiction fun h0 => ?_
    rw [cellF_pos (by omega)] at hx
    omega
  · have h0 : cellF a b (dd a b g n) j < 0 := Decidable.byContradiction fun h0 => h (cellF_pos (by omega))
    refine ⟨decide_eq_true h0, decide_eq_false ?_⟩
    unfold cellF at h h0 ⊢
    split
    · rename_i e
      rw [if_pos e] at h h0
      rw [if_pos e] at h
      have := (dd_succ_ne h).2
      omega
    · rename_i e
      rw [if_neg e, if_neg e] at h
      exact absurd rfl h
/-- A round that changes nothing has found every distance. -/
theorem dists_of_same {n : Nat} (ha : a ≤ 20) (hb : b ≤ 20) (h : ∀ j, j < 441 → cellF a b (dd a b g (n + 1)) j = cellF a b (dd a b g n) j) : Dists a b g (dd a b g (n + 1)) := by
  have hs : ∀ s : Int × Int, okJ a b s.1 s.2 = true → dd a b g (n + 1) s = dd a b g n s := fun s hs => by
    rw [okJ_iff] at hs
    obtain ⟨x, hx⟩ := Int.eq_ofNat_of_zero_le hs.2.2.1.1
    obtain ⟨y, hy⟩ := Int.eq_ofNat_of_zero_le hs.2.2.2.1
    have := h (x * 21 + y) (by omega)
    rw [cellF_at _ (by omega) (by omega) hb, cellF_at _ (by omega) (by omega) hb] at this
    obtain ⟨s1, s2⟩ := s
    dsimp only at hx hy
    subst hx hy
    exact this
  refine dd_dists fun s h1 => ?_
  exact (dd_stays hs 2 s h1).trans (hs s h1).symm
end
end Go.Proofs.Ytmoncfplcmdpcaa
