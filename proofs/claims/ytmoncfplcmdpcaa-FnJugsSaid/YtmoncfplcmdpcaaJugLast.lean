/-
  There is always an answer; it has at most 80 acts; there is a list just if the goal is a multiple of the common divisor and one jug can hold it. No program's walk.
-/
import Derived.Test.YtmoncfplcmdpcaaJugAns
namespace Go.Proofs.Ytmoncfplcmdpcaa
open Go.ChangeShapes Go.WideShapes Go.ChangeAt Go.RowKit Go.PlainAid

theorem best_ex {S : Type} (st : S → Int → Option S) (G : S → Bool) (hact : ∀ s a t, st s a = some t → 1 ≤ a ∧ a ≤ 6) (s : S) : ∃ l ok, BestOf st G s l ok := by
  by_cases h : ∃ q, Hits st G s q
  · obtain ⟨q, hq⟩ := h
    have pos : ∀ q, Hits st G s q → 0 ≤ rank q := fun q ⟨t, hr, _⟩ => by
      have := (rank_bounds q (run_acts st hact _ _ _ hr)).1
      have := pow7 q.length
      omega
    have key : ∀ (n : Nat) (q : List Int), Hits st G s q → rank q ≤ n → ∃ l, Hits st G s l ∧ ∀ q, Hits st G s q → rank l ≤ rank q := by
      intro n
      induction n with
      | zero =>
        intro q hq hn
        exact ⟨q, hq, fun q' hq' => by have := pos q' hq'; omega⟩
      | succ n ih =>
        intro q hq hn
        by_cases h2 : ∃ q', Hits st G s q' ∧ rank q' ≤ n
        · obtain ⟨q', h3, h4⟩ := h2
          exact ih q' h3 h4
        · refine ⟨q, hq, fun q' hq' => ?_⟩
          have : ¬ rank q' ≤ n := fun e => h2 ⟨q', hq', e⟩
          omega
    obtain ⟨l, h1, h2⟩ := key (rank q).toNat q hq (by have := pos q hq; omega)
    exact ⟨l, true, .inl ⟨rfl, h1, h2⟩⟩
  · exact ⟨[], false, .inr ⟨rfl, rfl, fun q hq => h ⟨q, hq⟩⟩⟩
theorem ans_ex (a b g : Int) : ∃ l ok, Ans a b g l ok := by
  by_cases h : okJ a b 0 0 = true ∧ 0 ≤ g ∧ g ≤ 20
  · obtain ⟨l, ok, hb⟩ := best_ex (stp a b) (gl g) (stp_act a b) (0, 0)
    exact ⟨l, ok, .inl ⟨h, hb⟩⟩
  · exact ⟨[], false, .inr ⟨h, rfl, rfl⟩⟩
/-- Which goals are reached. -/
theorem hits_iff {a b g : Nat} (ha : 1 ≤ a ∧ a ≤ 20) (hb : 1 ≤ b ∧ b ≤ 20) : (∃ q, Hits (stp a b) (gl g) (0, 0) q) ↔ Nat.gcd a b ∣ g ∧ (g ≤ a ∨ g ≤ b) := by
  constructor
  · rintro ⟨q, t, hr, hg⟩
    have h0 : okJ a b 0 0 = true := okJ_yes (by omega)
    have h1 := okJ_iff.1 (run_in q (0, 0) t h0 hr)
    have h2 := run_dvd (a := a) (b := b) (g := ((Nat.gcd a b : Nat) : Int)) (Int.natCast_dvd_natCast.2 (Nat.gcd_dvd_left a b)) (Int.natCast_dvd_natCast.2 (Nat.gcd_dvd_right a b)) q (0, 0) t ⟨Int.dvd_zero _, Int.dvd_zero _⟩ hr
    rcases gl_iff.1 hg with e | e
    · rw [e] at h1 h2
      exact ⟨Int.natCast_dvd_natCast.1 h2.1, .inl (by omega)⟩
    · rw [e] at h1 h2
      exact ⟨Int.natCast_dvd_natCast.1 h2.2, .inr (by omega)⟩
  · rintro ⟨h1, h2⟩
    obtain ⟨l, -, h⟩ := reach ha hb h1 h2
    exact ⟨l, h⟩
theorem ans_len {a b g : Int} {l : List Int} {ok : Bool} (h : Ans a b g l ok) : l.length ≤ 80 := by
  rcases h with ⟨⟨h1, h2, h3⟩, h4⟩ | ⟨-, rfl, -⟩
  · have hb := okJ_iff.1 h1
    obtain ⟨A, rfl⟩ := Int.eq_ofNat_of_zero_le (a := a) (by omega)
    obtain ⟨B, rfl⟩ := Int.eq_ofNat_of_zero_le (a := b) (by omega)
    obtain ⟨G, rfl⟩ := Int.eq_ofNat_of_zero_le h2
    rcases id h4 with ⟨-, h5, -⟩ | ⟨-, rfl, -⟩
    · obtain ⟨h6, h7⟩ := (hits_iff (a := A) (b := B) (g := G) (by omega) (by omega)).1 ⟨l, h5⟩
      obtain ⟨q, hq, hh⟩ := reach (a := A) (b := B) (by omega) (by omega) h6 h7
      have := (best_short _ _ (stp_act A B) h4 hh).2.2
      omega
    · simp
  · simp
/-- An answer of valid arguments: it is there just if .., and it leads to the goal, one jug full or empty. -/
theorem ans_law {a b g : Nat} {l : List Int} {ok : Bool} (h : Ans a b g l ok) (ha : 1 ≤ a ∧ a ≤ 20) (hb : 1 ≤ b ∧ b ≤ 20) (hg : g ≤ 20) :
    (ok = true ↔ Nat.gcd a b ∣ g ∧ (g ≤ a ∨ g ≤ b)) ∧ (ok = false → l = []) ∧ (ok = true → ∃ t : Int × Int, run (stp a b) (0, 0) l = some t ∧ (t.1 = g ∨ t.2 = g) ∧ okJ a b t.1 t.2 = true ∧ (t.1 = 0 ∨ t.1 = a ∨ t.2 = 0 ∨ t.2 = b)) := by
  have h0 : okJ a b 0 0 = true := okJ_yes (by omega)
  have hB := ans_yes h ⟨h0, by omega, by omega⟩
  rw [← hits_iff ha hb]
  rcases hB with ⟨rfl, h1, h2⟩ | ⟨rfl, rfl, h2⟩
  · refine ⟨⟨fun _ => ⟨l, h1⟩, fun _ => rfl⟩, fun e => (by cases e), fun _ => ?_⟩
    obtain ⟨t, hr, ht⟩ := h1
    exact ⟨t, hr, gl_iff.1 ht, run_in l (0, 0) t h0 hr, run_edge l (0, 0) t (.inl rfl) hr⟩
  · exact ⟨⟨fun e => (by cases e), fun ⟨q, hq⟩ => absurd hq (h2 q)⟩, fun _ => rfl, fun e => by cases e⟩
end Go.Proofs.Ytmoncfplcmdpcaa
