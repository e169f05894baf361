/-
  The program's lists of the states of each time, and how far they are filled. No program's walk.
-/
import Derived.Test.YtmbhldpbgcfnmaaGlass
namespace Go.Proofs.Ytmbhldpbgcfnmaa

/-- A list of different numbers below n has at most n of them. -/
theorem nodup_below : ∀ (n : Nat) (l : List Nat), l.Nodup → (∀ x ∈ l, x < n) → l.length ≤ n
  | 0, l, _, h => by
    rcases l with _ | ⟨x, l⟩
    · exact Nat.le_refl _
    · have := h x List.mem_cons_self; omega
  | n + 1, l, hn, h => by
    have e := List.length_eq_countP_add_countP (fun x => x == n) (l := l)
    have h1 : l.countP (fun x => x == n) ≤ 1 := by
      show l.count n ≤ 1
      rw [hn.count]
      split <;> omega
    have h2 : l.countP (fun x => ¬ (x == n) = true) = (l.filter (fun x => !(x == n))).length := by
      rw [List.countP_eq_length_filter]
      congr 1
      apply List.filter_congr
      intro x _
      cases x == n <;> rfl
    have h3 := nodup_below n (l.filter (fun x => !(x == n))) (hn.filter _) (fun x hx => by
      obtain ⟨g1, g2⟩ := List.mem_filter.1 hx
      have := h x g1
      simp at g2
      omega)
    omega
theorem glasses_le {L : List (Nat × Nat)} (hn : L.Nodup) (hv : ∀ s ∈ L, s.1 ≤ 12 ∧ s.2 ≤ 12) : L.length ≤ 169 := by
  have hp : (L.map fun s => s.1 * 13 + s.2).Nodup := by
    unfold List.Nodup
    rw [List.pairwise_map]
    refine List.Pairwise.imp_of_mem ?_ hn
    intro s t hs ht hne e
    have h1 := hv s hs
    have h2 := hv t ht
    exact hne (Prod.ext (by omega) (by omega))
  have := nodup_below 169 _ hp (fun x hx => by
    obtain ⟨s, hs, rfl⟩ := List.mem_map.1 hx
    have := hv s hs
    omega)
  rw [List.length_map] at this
  exact this

/-- A state is kept once. -/
def ins (L : List (Nat × Nat)) (s : Nat × Nat) : List (Nat × Nat) := if s ∈ L then L else L ++ [s]
theorem ins_mem {L : List (Nat × Nat)} {s t : Nat × Nat} : t ∈ ins L s ↔ t ∈ L ∨ t = s := by
  unfold ins
  split
  · rename_i h
    exact ⟨.inl, fun g => g.elim id fun e => e ▸ h⟩
  · rw [List.mem_append, List.mem_singleton]
theorem ins_nodup {L : List (Nat × Nat)} {s : Nat × Nat} (h : L.Nodup) : (ins L s).Nodup := by
  unfold ins
  split
  · exact h
  · rename_i hs
    refine List.nodup_append.2 ⟨h, List.pairwise_singleton .., fun x hx y hy e => ?_⟩
    rw [List.mem_singleton] at hy
    subst hy e
    exact hs hx
/-- One list is another one. -/
def lup {α : Type} (S : Nat → α) (j : Nat) (l : α) : Nat → α := fun i => if i = j then l else S i
theorem lup_here {α : Type} (S : Nat → α) (j : Nat) (l : α) : lup S j l j = l := if_pos rfl
theorem lup_else {α : Type} (S : Nat → α) {i j : Nat} (l : α) (h : i ≠ j) : lup S j l i = S i := if_neg h

/-- The steps ahead of this place. -/
def Dl (T : Nat) (L : List (Nat × Nat)) (K W t u v c : Nat) : Prop := t < T ∨ t = T ∧ ((u, v) ∈ L.take K ∨ L[K]? = some (u, v) ∧ c < W)
structure Pin (a b m T : Nat) (L : List (Nat × Nat)) (K W : Nat) (S : Nat → List (Nat × Nat)) : Prop where
  mem : ∀ t, t ≤ m → ∀ s : Nat × Nat, s ∈ S t ↔ Rb a b (Dl T L K W) t s.1 s.2
  nod : ∀ t, t ≤ m → (S t).Nodup
  here : T ≤ m → S T = L
theorem pin_start (a b m : Nat) : Pin a b m 0 [(0, 0)] 0 0 (lup (fun _ => []) 0 [(0, 0)]) := by
  refine ⟨fun t ht s => ?_, fun t ht => ?_, fun _ => rfl⟩
  · have hD : Rb a b (Dl 0 [(0, 0)] 0 0) t s.1 s.2 ↔ t = 0 ∧ s.1 = 0 ∧ s.2 = 0 := by
      refine ⟨?_, .inl⟩
      rintro (h | ⟨t0, u0, v0, c, -, -, hd, -⟩)
      · exact h
      · unfold Dl at hd
        simp at hd
    rw [hD]
    unfold lup
    by_cases h : t = 0
    · subst h
      rw [if_pos rfl, List.mem_singleton]
      exact ⟨fun e => by subst e; exact ⟨rfl, rfl, rfl⟩, fun e => Prod.ext e.2.1 e.2.2⟩
    · rw [if_neg h]
      exact ⟨fun e => (List.not_mem_nil e).elim, fun e => absurd e.1 h⟩
  · unfold lup
    split
    · exact List.pairwise_singleton ..
    · exact List.Pairwise.nil
section
variable {a b m T : Nat} {L : List (Nat × Nat)} {K W : Nat} {S : Nat → List (Nat × Nat)}
theorem Pin.reach (h : Pin a b m T L K W S) (hT : T ≤ m) (s : Nat × Nat) : s ∈ L ↔ Reach a b T s.1 s.2 := by
  rw [← h.here hT, h.mem T hT s]
  exact rb_all (T := T) (fun t u v c h => .inl h) (Nat.le_refl _)
theorem Pin.valid (h : Pin a b m T L K W S) {t : Nat} (ht : t ≤ m) {s : Nat × Nat} (hs : s ∈ S t) : s.1 ≤ a ∧ s.2 ≤ b := ((h.mem t ht s).1 hs).reach.le
theorem Pin.len (h : Pin a b m T L K W S) (ha : a ≤ 12) (hb : b ≤ 12) {t : Nat} (ht : t ≤ m) : (S t).length ≤ 169 :=
  glasses_le (h.nod t ht) fun s hs => by have := h.valid ht hs; omega
theorem dl_more {s : Nat × Nat} (hs : L[K]? = some s) {t u v c : Nat} : Dl T L K (W + 1) t u v c ↔ Dl T L K W t u v c ∨ (t = T ∧ u = s.1 ∧ v = s.2 ∧ c = W) := by
  unfold Dl
  rw [hs]
  constructor
  · rintro (h | ⟨h, h1 | ⟨h1, h2⟩⟩)
    · exact .inl (.inl h)
    · exact .inl (.inr ⟨h, .inl h1⟩)
    · injection h1 with h1
      subst h1
      by_cases e : c = W
      · exact .inr ⟨h, rfl, rfl, e⟩
      · exact .inl (.inr ⟨h, .inr ⟨rfl, by omega⟩⟩)
  · rintro ((h | ⟨h, h1 | ⟨h1, h2⟩⟩) | ⟨h, h1, h2, h3⟩)
    · exact .inl h
    · exact .inr ⟨h, .inl h1⟩
    · exact .inr ⟨h, .inr ⟨h1, by omega⟩⟩
    · exact .inr ⟨h, .inr ⟨by rw [h1, h2], by omega⟩⟩
theorem Pin.more (h : Pin a b m T L K W S) (hT : T ≤ m) (hW : W < 4) {s : Nat × Nat} (hs : L[K]? = some s) {t u v : Nat} :
    Rb a b (Dl T L K (W + 1)) t u v ↔ Rb a b (Dl T L K W) t u v ∨ (0 < (nx a b s.1 s.2 W).2 ∧ t = T + (nx a b s.1 s.2 W).2 ∧ u = (nx a b s.1 s.2 W).1.1 ∧ v = (nx a b s.1 s.2 W).1.2) :=
  rb_more ((h.reach hT s).1 (List.mem_of_getElem? hs)) hW fun _ _ _ _ _ _ => dl_more hs
theorem Pin.yes (h : Pin a b m T L K W S) (hT : T ≤ m) (hW : W < 4) {s : Nat × Nat} (hs : L[K]? = some s) (hn : 0 < (nx a b s.1 s.2 W).2) :
    Pin a b m T L K (W + 1) (lup S (T + (nx a b s.1 s.2 W).2) (ins (S (T + (nx a b s.1 s.2 W).2)) (nx a b s.1 s.2 W).1)) := by
  refine ⟨fun t ht z => ?_, fun t ht => ?_, fun hT => ?_⟩
  · rw [h.more hT hW hs]
    unfold lup
    by_cases e : t = T + (nx a b s.1 s.2 W).2
    · subst e
      rw [if_pos rfl, ins_mem, h.mem _ ht]
      exact or_congr Iff.rfl ⟨fun e => by subst e; exact ⟨hn, rfl, rfl, rfl⟩, fun e => Prod.ext e.2.2.1 e.2.2.2⟩
    · rw [if_neg e, h.mem _ ht]
      exact ⟨.inl, fun g => g.resolve_right fun g => e g.2.1⟩
  · unfold lup
    split
    · rename_i e
      subst e
      exact ins_nodup (h.nod _ ht)
    · exact h.nod _ ht
  · rw [lup_else _ _ (by omega)]
    exact h.here hT
theorem Pin.no (h : Pin a b m T L K W S) (hT : T ≤ m) (hW : W < 4) {s : Nat × Nat} (hs : L[K]? = some s) (hn : ¬ (0 < (nx a b s.1 s.2 W).2 ∧ (nx a b s.1 s.2 W).2 ≤ m - T)) : Pin a b m T L K (W + 1) S := by
  refine ⟨fun t ht z => ?_, h.nod, h.here⟩
  rw [h.more hT hW hs, h.mem t ht]
  exact ⟨.inl, fun g => g.resolve_right fun g => hn ⟨g.1, by omega⟩⟩
theorem Pin.next (h : Pin a b m T L K 4 S) {s : Nat × Nat} (hs : L[K]? = some s) : Pin a b m T L (K + 1) 0 S := by
  refine ⟨fun t ht z => ?_, h.nod, h.here⟩
  rw [h.mem t ht]
  refine rb_congr fun t u v c _ hc => ?_
  unfold Dl
  have hk : K < L.length := by
    rcases Nat.lt_or_ge K L.length with g | g
    · exact g
    · rw [List.getElem?_eq_none g] at hs; cases hs
  have e : L.take (K + 1) = L.take K ++ [s] := by
    rw [List.take_add_one, hs]; rfl
  rw [e, List.mem_append, List.mem_singleton, hs]
  refine or_congr Iff.rfl (and_congr Iff.rfl ⟨?_, ?_⟩)
  · rintro (g | ⟨g, -⟩)
    · exact .inl (.inl g)
    · injection g with g
      exact .inl (.inr g.symm)
  · rintro ((g | g) | ⟨-, g⟩)
    · exact .inl g
    · exact .inr ⟨by rw [g], hc⟩
    · omega
theorem Pin.time (h : Pin a b m T L L.length 0 S) (hT : T ≤ m) : Pin a b m (T + 1) (S (T + 1)) 0 0 S := by
  refine ⟨fun t ht z => ?_, h.nod, fun _ => rfl⟩
  rw [h.mem t ht]
  refine rb_congr fun t u v c hr hc => ?_
  unfold Dl
  rw [List.take_length, List.take_zero]
  constructor
  · rintro (g | ⟨g, -⟩)
    · exact .inl (by omega)
    · exact .inl (by omega)
  · rintro (g | ⟨-, g | ⟨-, g⟩⟩)
    · by_cases e : t = T
      · subst e
        exact .inr ⟨rfl, .inl ((h.reach hT (u, v)).2 hr)⟩
      · exact .inl (by omega)
    · exact (List.not_mem_nil g).elim
    · omega
theorem Pin.done (h : Pin a b m (m + 1) L K W S) {t : Nat} (ht : t ≤ m) : At a b t = decide (0 < (S t).length) := by
  have hm := fun s : Nat × Nat => (h.mem t ht s).trans (rb_all (T := m + 1) (fun t u v c g => .inl g) (by omega))
  rcases e : S t with _ | ⟨s, l⟩
  · rw [e] at hm
    refine dec_no fun ⟨u, v, hr⟩ => ?_
    exact List.not_mem_nil ((hm (u, v)).2 hr)
  · rw [e] at hm
    exact (dec_yes ⟨_, _, (hm s).1 List.mem_cons_self⟩).trans (by simp)
end
end Go.Proofs.Ytmbhldpbgcfnmaa
