/-
  Lists of acts that lead from a state to others, without any program: which of two such lists comes first (the shorter one, else the one in lexicographic order) as the order of numbers to the base seven; a search that takes states out of a queue finds the first list. No condition but those written.
-/
import Derived.WalkKit
namespace Go.Proofs.Ytmoncfplcmdpcaa

/-! ### Lists of acts as numbers -/
def rank (l : List Int) : Int := l.foldl (fun r x => 7 * r + x) 0
theorem rank_nil : rank [] = 0 := rfl
theorem rank_snoc (p : List Int) (x : Int) : rank (p ++ [x]) = 7 * rank p + x := by unfold rank; rw [List.foldl_append]; rfl
/-- All are acts. -/
def Acts (l : List Int) : Prop := ∀ x ∈ l, 1 ≤ x ∧ x ≤ 6
theorem foldl_rank (l : List Int) : ∀ r : Int, l.foldl (fun r x => 7 * r + x) r = r * 7 ^ l.length + rank l := by
  induction l with
  | nil => intro r; simp [rank]
  | cons a l ih =>
    intro r
    unfold rank
    rw [List.foldl_cons, List.foldl_cons, ih, ih (7 * 0 + a), List.length_cons]
    have e : (7 : Int) ^ (l.length + 1) = 7 * 7 ^ l.length := by rw [Int.pow_succ, Int.mul_comm]
    rw [e]
    generalize (7 : Int) ^ l.length = p
    grind
theorem rank_cons (a : Int) (l : List Int) : rank (a :: l) = a * 7 ^ l.length + rank l := by
  show l.foldl _ (7 * 0 + a) = _
  rw [foldl_rank]
  congr 1
  congr 1
  omega
theorem pow7 (n : Nat) : (0 : Int) < 7 ^ n := Int.pow_pos (by decide)
theorem rank_bounds : ∀ l : List Int, Acts l → 7 ^ l.length - 1 ≤ 6 * rank l ∧ rank l ≤ 7 ^ l.length - 1
  | [], _ => by simp [rank]
  | a :: l, h => by
    have ih := rank_bounds l (fun x hx => h x (List.mem_cons_of_mem _ hx))
    have ha := h a List.mem_cons_self
    rw [rank_cons, List.length_cons]
    have e : (7 : Int) ^ (l.length + 1) = 7 * 7 ^ l.length := by rw [Int.pow_succ, Int.mul_comm]
    rw [e]
    have hp := pow7 l.length
    generalize (7 : Int) ^ l.length = p at *
    have h1 : p ≤ a * p := by have := Int.mul_le_mul_of_nonneg_right ha.1 (Int.le_of_lt hp); omega
    have h2 : a * p ≤ 6 * p := Int.mul_le_mul_of_nonneg_right ha.2 (Int.le_of_lt hp)
    omega
theorem rank_shorter {p q : List Int} (hp : Acts p) (hq : Acts q) (h : p.length < q.length) : rank p < rank q := by
  have b1 := (rank_bounds p hp).2
  have b2 := (rank_bounds q hq).1
  obtain ⟨d, hd⟩ : ∃ d, q.length = p.length + 1 + d := ⟨q.length - p.length - 1, by omega⟩
  have e : (7 : Int) ^ q.length = 7 * 7 ^ p.length * 7 ^ d := by rw [hd, Int.pow_add, Int.pow_succ, Int.mul_comm (7 ^ p.length) 7]
  have h1 : (1 : Int) ≤ 7 ^ d := pow7 d
  have h3 := pow7 p.length
  rw [e] at b2
  generalize (7 : Int) ^ d = y at *
  generalize (7 : Int) ^ p.length = x at *
  have : 7 * x ≤ 7 * x * y := by
    have := Int.mul_le_mul_of_nonneg_left h1 (show 0 ≤ 7 * x by omega)
    omega
  omega
theorem rank_inj : ∀ {p q : List Int}, Acts p → Acts q → rank p = rank q → p = q
  | [], [], _, _, _ => rfl
  | [], b :: q, hp, hq, h => absurd h (Int.ne_of_lt (rank_shorter hp hq (by simp)))
  | a :: p, [], hp, hq, h => absurd h.symm (Int.ne_of_lt (rank_shorter hq hp (by simp)))
  | a :: p, b :: q, hp, hq, h => by
    have hp' : Acts p := fun x hx => hp x (List.mem_cons_of_mem _ hx)
    have hq' : Acts q := fun x hx => hq x (List.mem_cons_of_mem _ hx)
    have hl : p.length = q.length := by
      rcases Nat.lt_trichotomy p.length q.length with g | g | g
      · exact absurd h (Int.ne_of_lt (rank_shorter hp hq (by simpa using g)))
      · exact g
      · exact absurd h.symm (Int.ne_of_lt (rank_shorter hq hp (by simpa using g)))
    have b1 := rank_bounds p hp'
    have b2 := rank_bounds q hq'
    have c1 := hp a List.mem_cons_self
    have c2 := hq b List.mem_cons_self
    rw [rank_cons, rank_cons, hl] at h
    rw [hl] at b1
    have h3 := pow7 q.length
    generalize (7 : Int) ^ q.length = x at *
    have hab : a = b := by
      rcases Int.lt_trichotomy a b with g | g | g
      · have := Int.mul_le_mul_of_nonneg_right (show a + 1 ≤ b by omega) (Int.le_of_lt h3)
        rw [Int.add_mul, Int.one_mul] at this
        omega
      · exact g
      · have := Int.mul_le_mul_of_nonneg_right (show b + 1 ≤ a by omega) (Int.le_of_lt h3)
        rw [Int.add_mul, Int.one_mul] at this
        omega
    subst hab
    rw [rank_inj hp' hq' (by omega)]

/-! ### Lists that lead from a state to others -/
section
variable {S : Type} (st : S → Int → Option S)
def run : S → List Int → Option S
  | s, [] => some s
  | s, a :: l => (st s a).bind fun t => run t l
theorem run_nil (s : S) : run st s [] = some s := rfl
theorem run_cons (s : S) (a : Int) (l : List Int) : run st s (a :: l) = (st s a).bind fun t => run st t l := rfl
theorem run_snoc (a : Int) : ∀ (l : List Int) (s : S), run st s (l ++ [a]) = (run st s l).bind fun t => st t a
  | [], s => by
    show (st s a).bind (fun t => some t) = st s a
    cases st s a <;> rfl
  | b :: l, s => by
    rw [List.cons_append, run_cons, run_cons]
    cases st s b with
    | none => rfl
    | some t => exact run_snoc a l t
theorem run_app (q : List Int) : ∀ (l : List Int) (s : S), run st s (l ++ q) = (run st s l).bind fun t => run st t q
  | [], s => rfl
  | b :: l, s => by
    rw [List.cons_append, run_cons, run_cons]
    cases st s b with
    | none => rfl
    | some t => exact run_app q l t
theorem run_acts (hact : ∀ s a t, st s a = some t → 1 ≤ a ∧ a ≤ 6) : ∀ (l : List Int) (s t : S), run st s l = some t → Acts l
  | [], _, _, _ => fun x hx => by cases hx
  | a :: l, s, t, h => by
    rw [run_cons] at h
    cases e : st s a with
    | none => rw [e] at h; cases h
    | some u =>
      rw [e] at h
      intro x hx
      rcases List.mem_cons.1 hx with rfl | hx
      · exact hact _ _ _ e
      · exact run_acts hact l u t h x hx

variable (G : S → Bool)
/-- The list leads to what is looked for. -/
def Hits (s : S) (l : List Int) : Prop := ∃ t, run st s l = some t ∧ G t = true
/-- What a search answers: the first list, or that there is none. -/
def BestOf (s : S) (l : List Int) (ok : Bool) : Prop := (ok = true ∧ Hits st G s l ∧ ∀ q, Hits st G s q → rank l ≤ rank q) ∨ (ok = false ∧ l = [] ∧ ∀ q, ¬ Hits st G s q)
theorem best_same (hact : ∀ s a t, st s a = some t → 1 ≤ a ∧ a ≤ 6) {s : S} {l l' : List Int} {ok ok' : Bool} (h : BestOf st G s l ok) (h' : BestOf st G s l' ok') : l = l' ∧ ok = ok' := by
  rcases h with ⟨rfl, h1, h2⟩ | ⟨rfl, rfl, h2⟩ <;> rcases h' with ⟨rfl, h1', h2'⟩ | ⟨rfl, rfl, h2'⟩
  · refine ⟨?_, rfl⟩
    have k1 := h2 _ h1'
    have k2 := h2' _ h1
    obtain ⟨t, ht, -⟩ := h1
    obtain ⟨t', ht', -⟩ := h1'
    exact rank_inj (run_acts st hact _ _ _ ht) (run_acts st hact _ _ _ ht') (Int.le_antisymm k1 k2)
  · exact absurd h1 (h2' _)
  · exact absurd h1' (h2 _)
  · exact ⟨rfl, rfl⟩
/-- The first list has no more acts than any other. -/
theorem best_short (hact : ∀ s a t, st s a = some t → 1 ≤ a ∧ a ≤ 6) {s : S} {l q : List Int} {ok : Bool} (h : BestOf st G s l ok) (hq : Hits st G s q) : ok = true ∧ Hits st G s l ∧ l.length ≤ q.length := by
  rcases h with ⟨rfl, h1, h2⟩ | ⟨-, -, h2⟩
  · refine ⟨rfl, h1, ?_⟩
    rcases Nat.lt_or_ge q.length l.length with g | g
    · obtain ⟨t, ht, ht2⟩ := hq
      obtain ⟨u, hu, -⟩ := h1
      have := rank_shorter (run_acts st hact _ _ _ ht) (run_acts st hact _ _ _ hu) g
      have := h2 q ⟨t, ht, ht2⟩
      omega
    · exact g
  · exact absurd hq (h2 _)

/-! ### The search with a queue -/
/-- E: every state that was put into the queue, with its list, in order; the first k were taken out; of the next one the acts below j were tried. -/
structure Queue (s0 : S) (E : List (S × List Int)) (k : Nat) (j : Int) : Prop where
  head : E[0]? = some (s0, [])
  nod : (E.map Prod.fst).Nodup
  ok : ∀ e ∈ E, run st s0 e.2 = some e.1
  srt : ∀ (i i' : Nat) (p q : S × List Int), i < i' → E[i]? = some p → E[i']? = some q → rank p.2 < rank q.2
  done : ∀ (i : Nat) (p : S × List Int), i < k → E[i]? = some p → G p.1 = false ∧ ∀ act t, st p.1 act = some t → ∃ e ∈ E, e.1 = t ∧ rank e.2 ≤ 7 * rank p.2 + act
  part : ∀ p : S × List Int, E[k]? = some p → ∀ act t, act < j → st p.1 act = some t → ∃ e ∈ E, e.1 = t ∧ rank e.2 ≤ 7 * rank p.2 + act
  fro : ∀ e ∈ E, e.2 = [] ∨ ∃ (i : Nat) (p : S × List Int) (act : Int), E[i]? = some p ∧ (1 ≤ act ∧ act ≤ 6) ∧ e.2 = p.2 ++ [act] ∧ (i < k ∨ (i = k ∧ act < j))
  len : ∀ (i : Nat) (p : S × List Int), E[i]? = some p → p.2.length ≤ i
variable {st G}
theorem Queue.start (hact : ∀ s a t, st s a = some t → 1 ≤ a ∧ a ≤ 6) (s0 : S) : Queue st G s0 [(s0, [])] 0 1 := by
  refine ⟨rfl, by simp, ?_, ?_, ?_, ?_, ?_, ?_⟩
  · intro e he
    obtain rfl := List.mem_singleton.1 he
    rfl
  · intro i i' p q h h1 h2
    have : i' = 0 := by
      rcases i' with _ | i'
      · rfl
      · simp at h2
    omega
  · intro i p h; omega
  · intro p hp act t ha ht
    have := hact _ _ _ ht
    omega
  · intro e he
    obtain rfl := List.mem_singleton.1 he
    exact .inl rfl
  · intro i p hp
    rcases i with _ | i
    · injection hp with hp
      subst hp
      exact Nat.le_refl _
    · simp at hp
section
variable {s0 : S} {E : List (S × List Int)} {k : Nat} {j : Int} {p : S × List Int} {t : S}
/-- Whatever was put in comes ahead of what the act leads to. -/
theorem Queue.ahead (h : Queue st G s0 E k j) (hp : E[k]? = some p) (hj : 1 ≤ j) : ∀ e ∈ E, rank e.2 < 7 * rank p.2 + j := by
  intro e he
  have hr : 0 ≤ rank p.2 := by
    rcases Nat.eq_zero_or_pos k with e0 | e0
    · subst e0
      rw [h.head] at hp
      injection hp with hp
      subst hp
      exact Int.le_refl _
    · have := h.srt 0 k _ _ e0 h.head hp
      rw [rank_nil] at this
      omega
  rcases h.fro e he with e0 | ⟨i, q, act, hq, ha, e0, hi⟩
  · rw [e0, rank_nil]; omega
  · rw [e0, rank_snoc]
    rcases hi with hi | ⟨rfl, hi⟩
    · have := h.srt i k _ _ hi hq hp
      omega
    · rw [hp] at hq
      injection hq with hq
      subst hq
      omega
theorem Queue.skip (h : Queue st G s0 E k j) (hn : ∀ p, E[k]? = some p → st p.1 j = none) : Queue st G s0 E k (j + 1) := by
  refine ⟨h.head, h.nod, h.ok, h.srt, h.done, fun p hp act t ha ht => ?_, fun e he => ?_, h.len⟩
  · by_cases e : act = j
    · subst e
      rw [hn p hp] at ht
      cases ht
    · exact h.part p hp act t (by omega) ht
  · rcases h.fro e he with e0 | ⟨i, q, act, hq, ha, e0, hi⟩
    · exact .inl e0
    · exact .inr ⟨i, q, act, hq, ha, e0, hi.imp id fun g => ⟨g.1, by omega⟩⟩
theorem Queue.seen (h : Queue st G s0 E k j) (hp : E[k]? = some p) (hj : 1 ≤ j) (ht : st p.1 j = some t) (hm : t ∈ E.map Prod.fst) : Queue st G s0 E k (j + 1) := by
  obtain ⟨e1, he1, rfl⟩ := List.mem_map.1 hm
  refine ⟨h.head, h.nod, h.ok, h.srt, h.done, fun q hq act u ha hu => ?_, fun e he => ?_, h.len⟩
  · rw [hp] at hq
    injection hq with hq
    subst hq
    by_cases e : act = j
    · subst e
      rw [ht] at hu
      injection hu with hu
      exact ⟨e1, he1, hu, Int.le_of_lt (h.ahead hp hj _ he1)⟩
    · exact h.part _ hp act u (by omega) hu
  · rcases h.fro e he with e0 | ⟨i, q, act, hq, ha, e0, hi⟩
    · exact .inl e0
    · exact .inr ⟨i, q, act, hq, ha, e0, hi.imp id fun g => ⟨g.1, by omega⟩⟩
theorem get_snoc {α : Type} {L : List α} {x y : α} {i : Nat} (h : (L ++ [x])[i]? = some y) : (i < L.length ∧ L[i]? = some y) ∨ (i = L.length ∧ y = x) := by
  rcases Nat.lt_trichotomy i L.length with g | g | g
  · rw [List.getElem?_append_left g] at h
    exact .inl ⟨g, h⟩
  · subst g
    rw [List.getElem?_append_right (Nat.le_refl _), Nat.sub_self] at h
    injection h with h
    exact .inr ⟨rfl, h.symm⟩
  · rw [List.getElem?_eq_none (by simp; omega)] at h
    cases h
theorem get_keep {α : Type} {L : List α} {x y : α} {i : Nat} (h : L[i]? = some y) : (L ++ [x])[i]? = some y := by
  have : i < L.length := (List.getElem?_eq_some_iff.1 h).1
  rw [List.getElem?_append_left this]; exact h
theorem Queue.fresh (h : Queue st G s0 E k j) (hp : E[k]? = some p) (hj : 1 ≤ j ∧ j ≤ 6) (ht : st p.1 j = some t) (hm : t ∉ E.map Prod.fst) : Queue st G s0 (E ++ [(t, p.2 ++ [j])]) k (j + 1) := by
  have hk : k < E.length := (List.getElem?_eq_some_iff.1 hp).1
  have hpm : p ∈ E := List.mem_of_getElem? hp
  have old : ∀ {i : Nat} {q : S × List Int}, i < E.length → (E ++ [(t, p.2 ++ [j])])[i]? = some q → E[i]? = some q := fun {i q} hi hq => by
    rcases get_snoc hq with ⟨-, g⟩ | ⟨g, -⟩
    · exact g
    · omega
  refine ⟨get_keep h.head, ?_, ?_, ?_, ?_, ?_, ?_, ?_⟩
  · rw [List.map_append, List.nodup_append]
    refine ⟨h.nod, by simp, ?_⟩
    intro a ha b hb
    simp only [List.map_cons, List.map_nil, List.mem_singleton] at hb
    subst hb
    exact fun e => hm (e ▸ ha)
  · intro e he
    rcases List.mem_append.1 he with he | he
    · exact h.ok e he
    · obtain rfl := List.mem_singleton.1 he
      show run st s0 (p.2 ++ [j]) = some t
      rw [run_snoc, h.ok p hpm]
      exact ht
  · intro i i' q q' hi hq hq'
    rcases get_snoc hq' with ⟨g, g'⟩ | ⟨g, rfl⟩
    · exact h.srt i i' q q' hi (old (by omega) hq) g'
    · show rank q.2 < rank (p.2 ++ [j])
      rw [rank_snoc]
      exact h.ahead hp hj.1 q (List.mem_of_getElem? (old (by omega) hq))
  · intro i q hi hq
    obtain ⟨g1, g2⟩ := h.done i q hi (old (by omega) hq)
    refine ⟨g1, fun act u hu => ?_⟩
    obtain ⟨e, he, g⟩ := g2 act u hu
    exact ⟨e, List.mem_append_left _ he, g⟩
  · intro q hq act u ha hu
    replace hq := old hk hq
    by_cases e : act = j
    · subst e
      rw [hp] at hq
      injection hq with hq
      subst hq
      rw [ht] at hu
      injection hu with hu
      refine ⟨_, List.mem_append_right _ (List.mem_singleton.2 rfl), hu, ?_⟩
      show rank (p.2 ++ [act]) ≤ _
      rw [rank_snoc]
      exact Int.le_refl _
    · obtain ⟨e, he, g⟩ := h.part q hq act u (by omega) hu
      exact ⟨e, List.mem_append_left _ he, g⟩
  · intro e he
    rcases List.mem_append.1 he with he | he
    · rcases h.fro e he with e0 | ⟨i, q, act, hq, ha, e0, hi⟩
      · exact .inl e0
      · exact .inr ⟨i, q, act, get_keep hq, ha, e0, hi.imp id fun g => ⟨g.1, by omega⟩⟩
    · obtain rfl := List.mem_singleton.1 he
      exact .inr ⟨k, p, j, get_keep hp, hj, rfl, .inr ⟨rfl, by omega⟩⟩
  · intro i q hq
    rcases get_snoc hq with ⟨-, g⟩ | ⟨rfl, rfl⟩
    · exact h.len i q g
    · show (p.2 ++ [j]).length ≤ _
      have := h.len k p hp
      rw [List.length_append, List.length_singleton]
      omega
/-- All acts of the state were tried: it is done. -/
theorem Queue.next (hact : ∀ s a t, st s a = some t → 1 ≤ a ∧ a ≤ 6) (h : Queue st G s0 E k 7) (hp : E[k]? = some p) (hg : G p.1 = false) : Queue st G s0 E (k + 1) 1 := by
  refine ⟨h.head, h.nod, h.ok, h.srt, fun i q hi hq => ?_, fun q hq act u ha hu => ?_, fun e he => ?_, h.len⟩
  · by_cases e : i = k
    · subst e
      rw [hp] at hq
      injection hq with hq
      subst hq
      exact ⟨hg, fun act u hu => h.part _ hp act u (by have := hact _ _ _ hu; omega) hu⟩
    · exact h.done i q (by omega) hq
  · have := hact _ _ _ hu
    omega
  · rcases h.fro e he with e0 | ⟨i, q, act, hq, ha, e0, hi⟩
    · exact .inl e0
    · exact .inr ⟨i, q, act, hq, ha, e0, .inl (by omega)⟩

/-- Every list leads to a state that is done, or past one that waits. -/
theorem Queue.past (h : Queue st G s0 E k 1) : ∀ (n : Nat) (q : List Int) (t : S), q.length = n → Acts q → run st s0 q = some t →
    (∃ (i : Nat) (e : S × List Int), i < k ∧ E[i]? = some e ∧ e.1 = t ∧ rank e.2 ≤ rank q) ∨ (∃ (i : Nat) (e : S × List Int), k ≤ i ∧ E[i]? = some e ∧ rank e.2 ≤ rank q) := by
  intro n
  induction n with
  | zero =>
    intro q t hl _ hr
    obtain rfl := List.eq_nil_of_length_eq_zero hl
    injection hr with hr
    subst hr
    rcases Nat.eq_zero_or_pos k with e0 | e0
    · exact .inr ⟨0, _, by omega, h.head, Int.le_refl _⟩
    · exact .inl ⟨0, _, e0, h.head, rfl, Int.le_refl _⟩
  | succ n ih =>
    intro q t hl hq hr
    obtain ⟨q', a, rfl⟩ : ∃ q' a, q = q' ++ [a] := by
      rcases List.eq_nil_or_concat q with e | ⟨q', a, e⟩
      · rw [e] at hl; cases hl
      · exact ⟨q', a, by rw [e, List.concat_eq_append]⟩
    have hq' : Acts q' := fun x hx => hq x (List.mem_append_left _ hx)
    have ha := hq a (List.mem_append_right _ (List.mem_singleton.2 rfl))
    rw [run_snoc] at hr
    cases e : run st s0 q' with
    | none => rw [e] at hr; cases hr
    | some u =>
      rw [e] at hr
      replace hr : st u a = some t := hr
      have b1 := (rank_bounds q' hq').1
      have b2 := pow7 q'.length
      rw [rank_snoc]
      rcases ih q' u (by simpa using hl) hq' e with ⟨i, e1, hi, he1, rfl, hle⟩ | ⟨i, e1, hi, he1, hle⟩
      · obtain ⟨-, g⟩ := h.done i e1 hi he1
        obtain ⟨e2, he2, rfl, g2⟩ := g a t hr
        obtain ⟨i2, hi2⟩ := List.getElem?_of_mem he2
        rcases Nat.lt_or_ge i2 k with g3 | g3
        · exact .inl ⟨i2, e2, g3, hi2, rfl, by omega⟩
        · exact .inr ⟨i2, e2, g3, hi2, by omega⟩
      · exact .inr ⟨i, e1, hi, he1, by omega⟩
theorem Queue.found (hact : ∀ s a t, st s a = some t → 1 ≤ a ∧ a ≤ 6) (h : Queue st G s0 E k 1) (hp : E[k]? = some p) (hg : G p.1 = true) : BestOf st G s0 p.2 true := by
  refine .inl ⟨rfl, ⟨p.1, h.ok p (List.mem_of_getElem? hp), hg⟩, fun q ⟨t, hr, ht⟩ => ?_⟩
  rcases h.past _ q t rfl (run_acts st hact _ _ _ hr) hr with ⟨i, e, hi, he, rfl, -⟩ | ⟨i, e, hi, he, hle⟩
  · rw [(h.done i e hi he).1] at ht
    cases ht
  · by_cases e0 : i = k
    · subst e0
      rw [hp] at he
      injection he with he
      subst he
      exact hle
    · have := h.srt k i _ _ (by omega) hp he
      omega
theorem Queue.never (hact : ∀ s a t, st s a = some t → 1 ≤ a ∧ a ≤ 6) (h : Queue st G s0 E k 1) (hk : E.length ≤ k) : BestOf st G s0 [] false := by
  refine .inr ⟨rfl, rfl, fun q ⟨t, hr, ht⟩ => ?_⟩
  rcases h.past _ q t rfl (run_acts st hact _ _ _ hr) hr with ⟨i, e, hi, he, rfl, -⟩ | ⟨i, e, hi, he, -⟩
  · rw [(h.done i e hi he).1] at ht
    cases ht
  · have := (List.getElem?_eq_some_iff.1 he).1
    omega
end
end

/-! ### What the acts lead to, pushed one after another -/
section
variable {S : Type} (st : S → Int → Option S)
def nxt (p : S × List Int) (l : List Int) : List (S × List Int) := l.filterMap fun act => (st p.1 act).map fun t => (t, p.2 ++ [act])
def push [DecidableEq S] (E : List (S × List Int)) (e : S × List Int) : List (S × List Int) := if e.1 ∈ E.map Prod.fst then E else E ++ [e]
theorem nxt_snoc (p : S × List Int) (l : List Int) (act : Int) : nxt st p (l ++ [act]) = nxt st p l ++ (match st p.1 act with | some t => [(t, p.2 ++ [act])] | none => []) := by
  unfold nxt
  rw [List.filterMap_append]
  congr 1
  rw [List.filterMap_cons]
  cases st p.1 act <;> rfl
theorem nxt_len (p : S × List Int) (l : List Int) : (nxt st p l).length ≤ l.length := List.length_filterMap_le _ _
variable {st} {G : S → Bool} {s0 : S} {k : Nat} {p : S × List Int}
theorem Queue.keep_get [DecidableEq S] {E : List (S × List Int)} (hp : E[k]? = some p) (e : S × List Int) : (push E e)[k]? = some p := by
  unfold push
  split
  · exact hp
  · exact get_keep hp
theorem push_act [DecidableEq S] {E : List (S × List Int)} {j : Int} (h : Queue st G s0 E k j) (hp : E[k]? = some p) (hj : 1 ≤ j ∧ j ≤ 6) :
    ∃ E', (∀ l, (nxt st p (j :: l)).foldl push E = (nxt st p l).foldl push E') ∧ Queue st G s0 E' k (j + 1) ∧ E'[k]? = some p := by
  cases ht : st p.1 j with
  | none =>
    refine ⟨E, fun l => ?_, h.skip fun q hq => ?_, hp⟩
    · unfold nxt
      rw [List.filterMap_cons, ht]; rfl
    · rw [hp] at hq
      injection hq with hq
      subst hq
      exact ht
  | some t =>
    refine ⟨push E (t, p.2 ++ [j]), fun l => ?_, ?_, Queue.keep_get hp _⟩
    · unfold nxt
      rw [List.filterMap_cons, ht]; rfl
    · unfold push
      by_cases hm : t ∈ E.map Prod.fst
      · rw [if_pos hm]; exact h.seen hp hj.1 ht hm
      · rw [if_neg hm]; exact h.fresh hp hj ht hm
theorem push_all [DecidableEq S] (hact : ∀ s a t, st s a = some t → 1 ≤ a ∧ a ≤ 6) {E : List (S × List Int)} (h : Queue st G s0 E k 1) (hp : E[k]? = some p) (hg : G p.1 = false) : Queue st G s0 ((nxt st p [1, 2, 3, 4, 5, 6]).foldl push E) (k + 1) 1 := by
  obtain ⟨E1, e1, h1, p1⟩ := push_act h hp (by omega)
  obtain ⟨E2, e2, h2, p2⟩ := push_act h1 p1 (by omega)
  obtain ⟨E3, e3, h3, p3⟩ := push_act h2 p2 (by omega)
  obtain ⟨E4, e4, h4, p4⟩ := push_act h3 p3 (by omega)
  obtain ⟨E5, e5, h5, p5⟩ := push_act h4 p4 (by omega)
  obtain ⟨E6, e6, h6, p6⟩ := push_act h5 p5 (by omega)
  rw [e1]
  rw [show (1 : Int) + 1 = 2 from rfl] at e2
  rw [e2]
  rw [show (1 : Int) + 1 + 1 = 3 from rfl] at e3
  rw [e3]
  rw [show (1 : Int) + 1 + 1 + 1 = 4 from rfl] at e4
  rw [e4]
  rw [show (1 : Int) + 1 + 1 + 1 + 1 = 5 from rfl] at e5
  rw [e5]
  rw [show (1 : Int) + 1 + 1 + 1 + 1 + 1 = 6 from rfl] at e6
  rw [e6]
  exact Queue.next hact h6 p6 hg
end

/-- A list of different numbers below n has at most n of them. -/
theorem nodup_below : ∀ (n : Nat) (l : List Nat), l.Nodup → (∀ x ∈ l, x < n) → l.length ≤ n
  | 0, l, _, h => by
    rcases l with _ | ⟨x, l⟩
    · exact Nat.le_refl _
    · have := h x List.mem_cons_self; omega
  | n + 1, l, hn, h => by
    have e := List.length_eq_countP_add_countP (fun x => x == n) (l := l)
    have h1 : l.countP (fun x => x == n) ≤ 1 := by
      show l.count n ≤ 1
      rw [hn.count]
      split <;> omega
    have h2 : l.countP (fun x => ¬ (x == n) = true) = (l.filter (fun x => !(x == n))).length := by
      rw [List.countP_eq_length_filter]
      congr 1
      apply List.filter_congr
      intro x _
      cases x == n <;> rfl
    have h3 := nodup_below n (l.filter (fun x => !(x == n))) (hn.filter _) (fun x hx => by
      obtain ⟨g1, g2⟩ := List.mem_filter.1 hx
      have := h x g1
      simp at g2
      omega)
    omega
end Go.Proofs.Ytmoncfplcmdpcaa
