/-
  Two jugs, without any program: what an act makes of them, and which contents can be reached. That every multiple of the common divisor that one jug can hold is reached, by reckoning for jugs from 1 to 20. No condition but those written.
-/
import Derived.Test.YtmoncfplcmdpcaaJugRun
import Derived.KernelRfl
namespace Go.Proofs.Ytmoncfplcmdpcaa

def okJ (a b x y : Int) : Bool := decide ((1 ≤ a ∧ a ≤ 20) ∧ (1 ≤ b ∧ b ≤ 20) ∧ (0 ≤ x ∧ x ≤ a) ∧ (0 ≤ y ∧ y ≤ b))
theorem okJ_iff {a b x y : Int} : okJ a b x y = true ↔ (1 ≤ a ∧ a ≤ 20) ∧ (1 ≤ b ∧ b ≤ 20) ∧ (0 ≤ x ∧ x ≤ a) ∧ (0 ≤ y ∧ y ≤ b) := by unfold okJ; exact decide_eq_true_iff
theorem okJ_no {a b x y : Int} (h : ¬ ((1 ≤ a ∧ a ≤ 20) ∧ (1 ≤ b ∧ b ≤ 20) ∧ (0 ≤ x ∧ x ≤ a) ∧ (0 ≤ y ∧ y ≤ b))) : okJ a b x y = false := by unfold okJ; exact decide_eq_false h
theorem okJ_yes {a b x y : Int} (h : (1 ≤ a ∧ a ≤ 20) ∧ (1 ≤ b ∧ b ≤ 20) ∧ (0 ≤ x ∧ x ≤ a) ∧ (0 ≤ y ∧ y ≤ b)) : okJ a b x y = true := okJ_iff.2 h

/-- The smaller of two, as the walks see it. -/
def mn (p q : Int) : Int := if q < p then q else p
/-- The contents behind an act. -/
def aft (a b x y act : Int) : Int × Int :=
  if act = 1 then (a, y) else if act = 2 then (x, b) else if act = 3 then (0, y) else if act = 4 then (x, 0)
  else if act = 5 then (x - mn x (b - y), y + mn x (b - y)) else if act = 6 then (x + mn y (a - x), y - mn y (a - x)) else (x, y)
/-- What a pour answers: the contents, and whether it succeeds. -/
def pO (a b x y act : Int) : Bool := okJ a b x y && decide (aft a b x y act ≠ (x, y))
def pS (a b x y act : Int) : Int × Int := if okJ a b x y then aft a b x y act else (x, y)
def stp (a b : Int) (s : Int × Int) (act : Int) : Option (Int × Int) := if pO a b s.1 s.2 act then some (aft a b s.1 s.2 act) else none

theorem aft_in {a b x y act : Int} (h : okJ a b x y = true) : okJ a b (aft a b x y act).1 (aft a b x y act).2 = true := by
  rw [okJ_iff] at h ⊢
  unfold aft mn
  repeat' split
  all_goals (dsimp only; omega)
theorem stp_some {a b act : Int} {s t : Int × Int} (h : stp a b s act = some t) : okJ a b s.1 s.2 = true ∧ t = aft a b s.1 s.2 act ∧ t ≠ s := by
  unfold stp at h
  split at h
  · rename_i g
    injection h with h
    subst h
    unfold pO at g
    rw [Bool.and_eq_true, decide_eq_true_iff] at g
    exact ⟨g.1, rfl, g.2⟩
  · cases h
theorem stp_act (a b : Int) (s : Int × Int) (act : Int) (t : Int × Int) (h : stp a b s act = some t) : 1 ≤ act ∧ act ≤ 6 := by
  obtain ⟨-, rfl, h2⟩ := stp_some h
  refine Decidable.byContradiction fun g => h2 ?_
  unfold aft
  repeat' rw [if_neg (by omega)]
theorem stp_in {a b act : Int} {s t : Int × Int} (h : stp a b s act = some t) : okJ a b t.1 t.2 = true := by
  obtain ⟨h1, rfl, -⟩ := stp_some h
  exact aft_in h1
theorem stp_edge {a b act : Int} {s t : Int × Int} (h : stp a b s act = some t) : t.1 = 0 ∨ t.1 = a ∨ t.2 = 0 ∨ t.2 = b := by
  have hc := stp_act _ _ _ _ _ h
  obtain ⟨h1, rfl, -⟩ := stp_some h
  rw [okJ_iff] at h1
  unfold aft mn
  repeat' split
  all_goals (dsimp only; omega)
theorem stp_dvd {a b act g : Int} {s t : Int × Int} (h : stp a b s act = some t) (ha : g ∣ a) (hb : g ∣ b) (hs : g ∣ s.1 ∧ g ∣ s.2) : g ∣ t.1 ∧ g ∣ t.2 := by
  obtain ⟨-, rfl, -⟩ := stp_some h
  obtain ⟨hx, hy⟩ := hs
  have d1 := Int.dvd_sub hb hy
  have d2 := Int.dvd_sub ha hx
  have m1 : g ∣ mn s.1 (b - s.2) := by unfold mn; split <;> assumption
  have m2 : g ∣ mn s.2 (a - s.1) := by unfold mn; split <;> assumption
  unfold aft
  split
  · exact ⟨ha, hy⟩
  · split
    · exact ⟨hx, hb⟩
    · split
      · exact ⟨Int.dvd_zero g, hy⟩
      · split
        · exact ⟨hx, Int.dvd_zero g⟩
        · split
          · exact ⟨Int.dvd_sub hx m1, Int.dvd_add hy m1⟩
          · split
            · exact ⟨Int.dvd_add hx m2, Int.dvd_sub hy m2⟩
            · exact ⟨hx, hy⟩
theorem run_in {a b : Int} : ∀ (l : List Int) (s t : Int × Int), okJ a b s.1 s.2 = true → run (stp a b) s l = some t → okJ a b t.1 t.2 = true
  | [], s, t, h, e => by injection e with e; subst e; exact h
  | c :: l, s, t, h, e => by
    rw [run_cons] at e
    cases g : stp a b s c with
    | none => rw [g] at e; cases e
    | some u => rw [g] at e; exact run_in l u t (stp_in g) e
theorem run_edge {a b : Int} : ∀ (l : List Int) (s t : Int × Int), (s.1 = 0 ∨ s.1 = a ∨ s.2 = 0 ∨ s.2 = b) → run (stp a b) s l = some t → t.1 = 0 ∨ t.1 = a ∨ t.2 = 0 ∨ t.2 = b
  | [], s, t, h, e => by injection e with e; subst e; exact h
  | c :: l, s, t, h, e => by
    rw [run_cons] at e
    cases g : stp a b s c with
    | none => rw [g] at e; cases e
    | some u => rw [g] at e; exact run_edge l u t (stp_edge g) e
theorem run_dvd {a b g : Int} (ha : g ∣ a) (hb : g ∣ b) : ∀ (l : List Int) (s t : Int × Int), (g ∣ s.1 ∧ g ∣ s.2) → run (stp a b) s l = some t → g ∣ t.1 ∧ g ∣ t.2
  | [], s, t, h, e => by injection e with e; subst e; exact h
  | c :: l, s, t, h, e => by
    rw [run_cons] at e
    cases q : stp a b s c with
    | none => rw [q] at e; cases e
    | some u => rw [q] at e; exact run_dvd ha hb l u t (stp_dvd q ha hb h) e

/-- One of the jugs contains the goal. -/
def gl (g : Int) (s : Int × Int) : Bool := decide (s.1 = g ∨ s.2 = g)
theorem gl_iff {g : Int} {s : Int × Int} : gl g s = true ↔ s.1 = g ∨ s.2 = g := by unfold gl; exact decide_eq_true_iff

/-! ### The first jug is filled, poured into the second one, the second one is emptied when it is full -/
def hit (a b g : Nat) : Nat → Nat → Nat → Bool
  | 0, x, y => Nat.beq x g || Nat.beq y g
  | n + 1, x, y => Nat.beq x g || Nat.beq y g || (bif Nat.beq y b then hit a b g n x 0 else bif Nat.beq x 0 then hit a b g n a y else bif Nat.ble x (b - y) then hit a b g n 0 (y + x) else hit a b g n (x - (b - y)) b)
theorem stp_of {a b x y act : Int} {t : Int × Int} (h : okJ a b x y = true) (ht : aft a b x y act = t) (hne : t ≠ (x, y)) : stp a b (x, y) act = some t := by
  unfold stp pO
  rw [if_pos (by rw [Bool.and_eq_true]; exact ⟨h, decide_eq_true (by rw [ht]; exact hne)⟩)]
  exact congrArg some ht
theorem hits_cons {S : Type} {st : S → Int → Option S} {G : S → Bool} {s t : S} {act : Int} {l : List Int} (h : st s act = some t) (hl : Hits st G t l) : Hits st G s (act :: l) := by
  obtain ⟨u, h1, h2⟩ := hl
  exact ⟨u, by rw [run_cons, h]; exact h1, h2⟩
theorem beqT {p q : Nat} : Nat.beq p q = true ↔ p = q := by rw [Nat.beq_eq]
theorem bleT {p q : Nat} : Nat.ble p q = true ↔ p ≤ q := by rw [Nat.ble_eq]
theorem hit_path {a b g : Nat} (ha : 1 ≤ a ∧ a ≤ 20) (hb : 1 ≤ b ∧ b ≤ 20) : ∀ (n x y : Nat), x ≤ a → y ≤ b → hit a b g n x y = true → ∃ l, l.length ≤ n ∧ Hits (stp a b) (gl g) ((x : Int), (y : Int)) l := by
  intro n
  induction n with
  | zero =>
    intro x y hx hy h
    unfold hit at h
    rw [Bool.or_eq_true, Nat.beq_eq, Nat.beq_eq] at h
    exact ⟨[], Nat.le_refl _, _, rfl, gl_iff.2 (by dsimp only; omega)⟩
  | succ n ih =>
    intro x y hx hy h
    unfold hit at h
    rw [Bool.or_eq_true, Bool.or_eq_true, Nat.beq_eq, Nat.beq_eq] at h
    rcases h with h | h
    · exact ⟨[], Nat.zero_le _, _, rfl, gl_iff.2 (by dsimp only; omega)⟩
    have ok : okJ a b x y = true := okJ_yes (by omega)
    have go : ∀ (act : Int) (u v : Nat), u ≤ a → v ≤ b → aft a b x y act = ((u : Int), (v : Int)) → ¬ (u = x ∧ v = y) → hit a b g n u v = true → ∃ l, l.length ≤ n + 1 ∧ Hits (stp a b) (gl g) ((x : Int), (y : Int)) l := fun act u v hu hv e hne hh => by
      obtain ⟨l, hl, hr⟩ := ih u v hu hv hh
      refine ⟨act :: l, by rw [List.length_cons]; omega, hits_cons (stp_of ok e fun e => hne ?_) hr⟩
      injection e with e1 e2
      omega
    by_cases c1 : y = b
    · rw [show Nat.beq y b = true from beqT.2 c1, cond_true] at h
      exact go 4 x 0 hx (by omega) rfl (by omega) h
    · rw [show Nat.beq y b = false from Bool.eq_false_iff.2 fun e => c1 (beqT.1 e), cond_false] at h
      by_cases c2 : x = 0
      · rw [show Nat.beq x 0 = true from beqT.2 c2, cond_true] at h
        exact go 1 a y (by omega) hy rfl (by omega) h
      · rw [show Nat.beq x 0 = false from Bool.eq_false_iff.2 fun e => c2 (beqT.1 e), cond_false] at h
        by_cases c3 : x ≤ b - y
        · rw [show Nat.ble x (b - y) = true from bleT.2 c3, cond_true] at h
          refine go 5 0 (y + x) (by omega) (by omega) ?_ (by omega) h
          unfold aft mn
          rw [if_neg (by decide), if_neg (by decide), if_neg (by decide), if_neg (by decide), if_pos rfl, if_neg (by omega)]
          ext <;> dsimp only <;> omega
        · rw [show Nat.ble x (b - y) = false from Bool.eq_false_iff.2 fun e => c3 (bleT.1 e), cond_false] at h
          refine go 5 (x - (b - y)) b (by omega) (by omega) ?_ (by omega) h
          unfold aft mn
          rw [if_neg (by decide), if_neg (by decide), if_neg (by decide), if_neg (by decide), if_pos rfl, if_pos (by omega)]
          ext <;> dsimp only <;> omega

/-- All of it, reckoned: for jugs below n. -/
def cov (a b g : Nat) : Bool := !(Nat.beq (g % Nat.gcd a b) 0) || !(Nat.ble g (Nat.max a b)) || hit a b g 80 0 0
def allB (f : Nat → Bool) : Nat → Bool
  | 0 => true
  | n + 1 => f n && allB f n
theorem allB_of {f : Nat → Bool} : ∀ {n : Nat}, allB f n = true → ∀ k, k < n → f k = true
  | n + 1, h, k, hk => by
    unfold allB at h
    rw [Bool.and_eq_true] at h
    rcases Nat.lt_or_ge k n with g | g
    · exact allB_of h.2 k g
    · obtain rfl : k = n := by omega
      exact h.1
theorem cov_all : allB (fun a => allB (fun b => allB (fun g => cov (a + 1) (b + 1) g) 21) 20) 20 = true := by kernel_rfl
theorem reach {a b g : Nat} (ha : 1 ≤ a ∧ a ≤ 20) (hb : 1 ≤ b ∧ b ≤ 20) (hg : Nat.gcd a b ∣ g) (hm : g ≤ a ∨ g ≤ b) : ∃ l, l.length ≤ 80 ∧ Hits (stp a b) (gl g) (0, 0) l := by
  have h1 := allB_of cov_all (a - 1) (by omega)
  have h2 := allB_of h1 (b - 1) (by omega)
  have h3 := allB_of h2 g (by omega)
  replace h3 : cov (a - 1 + 1) (b - 1 + 1) g = true := h3
  rw [show a - 1 + 1 = a by omega, show b - 1 + 1 = b by omega] at h3
  unfold cov at h3
  rw [show Nat.beq (g % Nat.gcd a b) 0 = true from beqT.2 (Nat.mod_eq_zero_of_dvd hg), show Nat.ble g (Nat.max a b) = true from bleT.2 (by show g ≤ max a b; omega)] at h3
  exact hit_path ha hb 80 0 0 (by omega) (by omega) h3
end Go.Proofs.Ytmoncfplcmdpcaa
