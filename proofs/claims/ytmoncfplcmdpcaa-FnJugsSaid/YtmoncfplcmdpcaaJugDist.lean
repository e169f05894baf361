/-
  How far each state of two jugs is from a goal, reckoned in rounds; that a table which a round leaves as it is has every distance; the first list along such a table. No program's walk.
-/
import Derived.Test.YtmoncfplcmdpcaaJug
namespace Go.Proofs.Ytmoncfplcmdpcaa

def acts6 : List Int := [1, 2, 3, 4, 5, 6]
theorem mem_acts6 {x : Int} : x ∈ acts6 ↔ 1 ≤ x ∧ x ≤ 6 := by
  unfold acts6
  simp only [List.mem_cons, List.not_mem_nil, or_false]
  omega
/-- An act that leads to a state of distance n. -/
def toward (a b : Int) (F : Int × Int → Int) (n : Int) (s : Int × Int) (act : Int) : Bool := pO a b s.1 s.2 act && decide (F (aft a b s.1 s.2 act) = n)
def dd (a b g : Int) : Nat → Int × Int → Int
  | 0, s => if gl g s then 0 else -1
  | n + 1, s => if 0 ≤ dd a b g n s then dd a b g n s else if acts6.any (toward a b (dd a b g n) n s) then n + 1 else -1
section
variable {a b g : Int}
theorem toward_iff {F : Int × Int → Int} {n : Int} {s : Int × Int} {act : Int} : toward a b F n s act = true ↔ ∃ t, stp a b s act = some t ∧ F t = n := by
  unfold toward stp
  rw [Bool.and_eq_true, decide_eq_true_iff]
  constructor
  · rintro ⟨h1, h2⟩
    exact ⟨_, if_pos h1, h2⟩
  · rintro ⟨t, h1, h2⟩
    split at h1
    · rename_i h0
      injection h1 with h1
      subst h1
      exact ⟨h0, h2⟩
    · cases h1
theorem any_iff {F : Int × Int → Int} {n : Int} {s : Int × Int} : acts6.any (toward a b F n s) = true ↔ ∃ act t, stp a b s act = some t ∧ F t = n := by
  rw [List.any_eq_true]
  constructor
  · rintro ⟨act, -, h⟩
    obtain ⟨t, h1, h2⟩ := toward_iff.1 h
    exact ⟨act, t, h1, h2⟩
  · rintro ⟨act, t, h1, h2⟩
    exact ⟨act, mem_acts6.2 (stp_act _ _ _ _ _ h1), toward_iff.2 ⟨t, h1, h2⟩⟩
theorem dd_old {n : Nat} {s : Int × Int} (h : 0 ≤ dd a b g n s) : dd a b g (n + 1) s = dd a b g n s := by rw [dd, if_pos h]
theorem dd_new {n : Nat} {s : Int × Int} (h : ¬ 0 ≤ dd a b g n s) (h' : acts6.any (toward a b (dd a b g n) n s) = true) : dd a b g (n + 1) s = n + 1 := by rw [dd, if_neg h, if_pos h']
theorem dd_not {n : Nat} {s : Int × Int} (h : ¬ 0 ≤ dd a b g n s) (h' : acts6.any (toward a b (dd a b g n) n s) = false) : dd a b g (n + 1) s = -1 := by rw [dd, if_neg h, if_neg (by rw [h']; exact Bool.false_ne_true)]
theorem dd_range : ∀ (n : Nat) (s : Int × Int), dd a b g n s = -1 ∨ (0 ≤ dd a b g n s ∧ dd a b g n s ≤ n)
  | 0, s => by rw [dd]; split <;> omega
  | n + 1, s => by
    have := dd_range n s
    rw [dd]
    split
    · omega
    · split <;> omega
theorem dd_neg {n : Nat} {s : Int × Int} (h : ¬ 0 ≤ dd a b g n s) : dd a b g n s = -1 := by have := dd_range (a := a) (b := b) (g := g) n s; omega
theorem dd_path : ∀ (n : Nat) (s : Int × Int), 0 ≤ dd a b g n s → ∃ q, (q.length : Int) = dd a b g n s ∧ Hits (stp a b) (gl g) s q
  | 0, s, h => by
    rw [dd] at h ⊢
    split at h
    · rename_i e
      rw [if_pos e]
      exact ⟨[], rfl, s, rfl, e⟩
    · omega
  | n + 1, s, h => by
    by_cases h0 : 0 ≤ dd a b g n s
    · rw [dd_old h0]; exact dd_path n s h0
    · rcases e : acts6.any (toward a b (dd a b g n) n s) with _ | _
      · rw [dd_not h0 e] at h; omega
      · rw [dd_new h0 e]
        obtain ⟨act, t, h1, h2⟩ := any_iff.1 e
        obtain ⟨q, hq, hh⟩ := dd_path n t (by omega)
        exact ⟨act :: q, by rw [List.length_cons]; omega, hits_cons h1 hh⟩
theorem dd_least : ∀ (n : Nat) (s : Int × Int) (q : List Int), q.length ≤ n → Hits (stp a b) (gl g) s q → 0 ≤ dd a b g n s ∧ dd a b g n s ≤ q.length
  | 0, s, q, hq, ⟨t, h1, h2⟩ => by
    obtain rfl := List.eq_nil_of_length_eq_zero (by omega : q.length = 0)
    injection h1 with h1
    subst h1
    rw [dd, if_pos h2]
    exact ⟨Int.le_refl _, Int.le_refl _⟩
  | n + 1, s, q, hq, hh => by
    by_cases hl : q.length ≤ n
    · have := dd_least n s q hl hh
      rw [dd_old this.1]
      exact this
    · by_cases h0 : 0 ≤ dd a b g n s
      · rw [dd_old h0]
        have := dd_range (a := a) (b := b) (g := g) n s
        omega
      · rcases q with _ | ⟨act, q⟩
        · exact absurd (Nat.zero_le n) hl
        · obtain ⟨u, h1, h2⟩ := hh
          rw [run_cons] at h1
          cases e : stp a b s act with
          | none => rw [e] at h1; cases h1
          | some t =>
            rw [e] at h1
            rw [List.length_cons] at hq hl
            have ht := dd_least n t q (by omega) ⟨u, h1, h2⟩
            have hn : dd a b g n t = n := by
              refine Decidable.byContradiction fun ne => h0 ?_
              obtain ⟨q2, e2, h3⟩ := dd_path n t ht.1
              have := dd_range (a := a) (b := b) (g := g) n t
              exact (dd_least n s (act :: q2) (by rw [List.length_cons]; omega) (hits_cons e h3)).1
            rw [dd_new h0 (any_iff.2 ⟨act, t, e, hn⟩), List.length_cons]
            omega

/-- Every distance from a goal. -/
structure Dists (a b g : Int) (F : Int × Int → Int) : Prop where
  neg : ∀ s, F s = -1 ∨ 0 ≤ F s
  path : ∀ s, 0 ≤ F s → ∃ q, (q.length : Int) = F s ∧ Hits (stp a b) (gl g) s q
  least : ∀ s q, okJ a b s.1 s.2 = true → Hits (stp a b) (gl g) s q → 0 ≤ F s ∧ F s ≤ q.length
theorem dd_stays {n : Nat} (h : ∀ s : Int × Int, okJ a b s.1 s.2 = true → dd a b g (n + 1) s = dd a b g n s) : ∀ (m : Nat) (s : Int × Int), okJ a b s.1 s.2 = true → dd a b g (n + m) s = dd a b g n s
  | 0, s, _ => rfl
  | 1, s, hs => h s hs
  | m + 2, s, hs => by
    have e0 := dd_stays h (m + 1) s hs
    show dd a b g (n + (m + 1) + 1) s = _
    by_cases h0 : 0 ≤ dd a b g (n + (m + 1)) s
    · rw [dd_old h0, e0]
    · have e1 : acts6.any (toward a b (dd a b g (n + (m + 1))) (n + (m + 1) : Nat) s) = false := by
        rw [Bool.eq_false_iff]
        intro e
        obtain ⟨act, t, h1, h2⟩ := any_iff.1 e
        rw [dd_stays h (m + 1) t (stp_in h1)] at h2
        have := dd_range (a := a) (b := b) (g := g) n t
        omega
      rw [dd_not h0 e1, ← e0, dd_neg h0]
theorem dd_dists {n : Nat} (h : ∀ s : Int × Int, okJ a b s.1 s.2 = true → dd a b g (n + 1) s = dd a b g n s) : Dists a b g (dd a b g n) := by
  refine ⟨fun s => ?_, dd_path n, fun s q hs hh => ?_⟩
  · have := dd_range (a := a) (b := b) (g := g) n s
    omega
  · have := dd_least (n + q.length) s q (by omega) hh
    rw [dd_stays h q.length s hs] at this
    exact this

/-- A list that a state's first list is made of. -/
theorem Dists.step {F : Int × Int → Int} (h : Dists a b g F) {s : Int × Int} (hs : okJ a b s.1 s.2 = true) {n : Nat} (hn : F s = n + 1) : ∃ act, 1 ≤ act ∧ act ≤ 6 ∧ toward a b F n s act = true := by
  obtain ⟨q, hq, u, h1, h2⟩ := h.path s (by omega)
  rcases q with _ | ⟨act, q⟩
  · rw [List.length_nil] at hq; omega
  · rw [run_cons] at h1
    cases e : stp a b s act with
    | none => rw [e] at h1; cases h1
    | some t =>
      rw [e] at h1
      rw [List.length_cons] at hq
      have ht := h.least t q (stp_in e) ⟨u, h1, h2⟩
      obtain ⟨q2, e2, h3⟩ := h.path t ht.1
      have hl := h.least s (act :: q2) hs (hits_cons e h3)
      rw [List.length_cons] at hl
      have hc := stp_act _ _ _ _ _ e
      exact ⟨act, hc.1, hc.2, toward_iff.2 ⟨t, e, by omega⟩⟩
theorem Dists.here {F : Int × Int → Int} (h : Dists a b g F) {s : Int × Int} (hn : F s = 0) : BestOf (stp a b) (gl g) s [] true := by
  obtain ⟨q, hq, hh⟩ := h.path s (by omega)
  rw [hn] at hq
  obtain rfl := List.eq_nil_of_length_eq_zero (by omega : q.length = 0)
  refine .inl ⟨rfl, hh, fun q ⟨t, h1, _⟩ => ?_⟩
  have := (rank_bounds q (run_acts _ (stp_act a b) _ _ _ h1)).1
  have := pow7 q.length
  rw [rank_nil]
  omega
theorem Dists.none {F : Int × Int → Int} (h : Dists a b g F) {s : Int × Int} (hs : okJ a b s.1 s.2 = true) (hn : F s = -1) : BestOf (stp a b) (gl g) s [] false :=
  .inr ⟨rfl, rfl, fun q hh => by have := h.least s q hs hh; omega⟩
theorem Dists.more {F : Int × Int → Int} (h : Dists a b g F) {s t : Int × Int} (hs : okJ a b s.1 s.2 = true) {n : Nat} (hn : F s = n + 1) {act : Int} (h1 : stp a b s act = some t) (h2 : F t = n)
    (hf : ∀ c, 1 ≤ c → c < act → toward a b F n s c = false) {l : List Int} (hl : BestOf (stp a b) (gl g) t l true) : BestOf (stp a b) (gl g) s (act :: l) true := by
  obtain ⟨hh, hm⟩ : Hits (stp a b) (gl g) t l ∧ ∀ q, Hits (stp a b) (gl g) t q → rank l ≤ rank q := by
    rcases hl with ⟨-, h⟩ | ⟨e, -⟩
    · exact h
    · cases e
  refine .inl ⟨rfl, hits_cons h1 hh, fun q hq => ?_⟩
  have hla : Acts l := by obtain ⟨u, r, -⟩ := hh; exact run_acts _ (stp_act a b) _ _ _ r
  have hln : l.length = n := by
    obtain ⟨q2, e2, h3⟩ := h.path t (by omega)
    have := best_short (stp a b) (gl g) (stp_act a b) (.inl ⟨rfl, hh, hm⟩ : BestOf (stp a b) (gl g) t l true) h3
    have := (h.least t l (stp_in h1) hh).2
    omega
  have hqs := h.least s q hs hq
  obtain ⟨u, r, hu⟩ := hq
  have hqa := run_acts _ (stp_act a b) _ _ _ r
  rcases q with _ | ⟨c, q⟩
  · rw [List.length_nil] at hqs; omega
  · rw [List.length_cons] at hqs
    rw [run_cons] at r
    cases e : stp a b s c with
    | none => rw [e] at r; cases r
    | some v =>
      rw [e] at r
      have hc := stp_act _ _ _ _ _ e
      have hac := stp_act _ _ _ _ _ h1
      have hqa' : Acts q := fun x hx => hqa x (List.mem_cons_of_mem _ hx)
      by_cases hlen : q.length = n
      · rcases Int.lt_trichotomy c act with g1 | g1 | g1
        · have hv := h.least v q (stp_in e) ⟨u, r, hu⟩
          have : F v = n := by
            obtain ⟨q2, e2, h3⟩ := h.path v hv.1
            have := h.least s (c :: q2) hs (hits_cons e h3)
            rw [List.length_cons] at this
            omega
          exact absurd (toward_iff.2 ⟨v, e, this⟩) (by rw [hf c hc.1 g1]; exact Bool.false_ne_true)
        · subst g1
          rw [h1] at e
          injection e with e
          subst e
          rw [rank_cons, rank_cons, hln, hlen]
          have := hm q ⟨u, r, hu⟩
          omega
        · have b1 := (rank_bounds l hla).2
          have b2 := (rank_bounds q hqa').1
          rw [rank_cons, rank_cons, hln, hlen]
          rw [hln] at b1
          rw [hlen] at b2
          have h3 := pow7 n
          generalize (7 : Int) ^ n = x at *
          have := Int.mul_le_mul_of_nonneg_right (show act + 1 ≤ c by omega) (Int.le_of_lt h3)
          rw [Int.add_mul, Int.one_mul] at this
          omega
      · refine Int.le_of_lt (rank_shorter (fun x hx => ?_) hqa ?_)
        · rcases List.mem_cons.1 hx with rfl | hx
          · exact hac
          · exact hla x hx
        · rw [List.length_cons, List.length_cons]
          omega
end
end Go.Proofs.Ytmoncfplcmdpcaa
