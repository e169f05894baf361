/-
  Beams with one hang a place: what merging answers; a sorted beam merged hang by hang; torque stays. No program's walk.
-/
import Derived.Test.YtajndcggafjmeaaBeam
namespace Go.Proofs.Ytajndcggafjmeaa

/-- The weights at a place. -/
def wt : List Hg → Int → Int
  | [], _ => 0
  | h :: L, p => (if h.1 = p then h.2 else 0) + wt L p
/-- Whether there is a hang. -/
def has (L : List Hg) (p : Int) : Bool := L.any fun h => decide (h.1 = p)
theorem wt_app (A B : List Hg) (p : Int) : wt (A ++ B) p = wt A p + wt B p := by
  induction A with
  | nil => show wt B p = 0 + wt B p; omega
  | cons h A ih =>
    show (if h.1 = p then h.2 else 0) + wt (A ++ B) p = (if h.1 = p then h.2 else 0) + wt A p + wt B p
    rw [ih]; omega
theorem wt_one (h : Hg) (p : Int) : wt [h] p = if h.1 = p then h.2 else 0 := by
  show (if h.1 = p then h.2 else 0) + 0 = _
  omega
theorem wt_perm {A B : List Hg} (h : A.Perm B) (p : Int) : wt A p = wt B p := by
  induction h with
  | nil => rfl
  | cons x _ ih => show _ + _ = _ + _; rw [ih]
  | swap x y l => show _ + (_ + wt l p) = _ + (_ + wt l p); omega
  | trans _ _ a b => exact a.trans b
theorem wt_not {L : List Hg} {p : Int} (h : ∀ x ∈ L, x.1 ≠ p) : wt L p = 0 := by
  induction L with
  | nil => rfl
  | cons x L ih =>
    show (if x.1 = p then x.2 else 0) + wt L p = 0
    rw [if_neg (h x List.mem_cons_self), ih fun y hy => h y (List.mem_cons_of_mem _ hy)]; omega
theorem wt_le {L : List Hg} (h : ∀ x ∈ L, Hok x) (p : Int) : 0 ≤ wt L p ∧ wt L p ≤ 1000 * (L.length : Int) := by
  induction L with
  | nil => exact ⟨by show (0 : Int) ≤ 0; omega, by show (0 : Int) ≤ 1000 * ((0 : Nat) : Int); omega⟩
  | cons x L ih =>
    have i := ih fun y hy => h y (List.mem_cons_of_mem _ hy)
    have q := h x List.mem_cons_self
    unfold Hok at q
    show 0 ≤ (if x.1 = p then x.2 else 0) + wt L p ∧ (if x.1 = p then x.2 else 0) + wt L p ≤ 1000 * ((L.length + 1 : Nat) : Int)
    split <;> omega
theorem take_next {L : List Hg} {k : Nat} (h : k < L.length) : L.take (k + 1) = L.take k ++ [hget L k] := by
  rw [List.take_succ_eq_append_getElem h]
  unfold hget
  rw [List.getD_eq_getElem?_getD, List.getElem?_eq_getElem h]; rfl
theorem wt_next {L : List Hg} {k : Nat} (h : k < L.length) (p : Int) : wt (L.take (k + 1)) p = wt (L.take k) p + if (hget L k).1 = p then (hget L k).2 else 0 := by
  rw [take_next h, wt_app, wt_one]
theorem has_next {L : List Hg} {k : Nat} (h : k < L.length) (p : Int) : has (L.take (k + 1)) p = (has (L.take k) p || decide ((hget L k).1 = p)) := by
  rw [take_next h]
  unfold has
  rw [List.any_append]
  simp
theorem has_iff {L : List Hg} {p : Int} : has L p = true ↔ ∃ x ∈ L, x.1 = p := by
  unfold has
  rw [List.any_eq_true]
  simp

/-- One hang a place, ascending, with the weights there. -/
def IsMerge (L M : List Hg) : Prop := M.Pairwise (fun a b => a.1 < b.1) ∧ ∀ h : Hg, h ∈ M ↔ (∃ x ∈ L, x.1 = h.1) ∧ h.2 = wt L h.1
theorem strict_ext : ∀ {M N : List Hg}, M.Pairwise (fun a b => a.1 < b.1) → N.Pairwise (fun a b => a.1 < b.1) → (∀ h, h ∈ M ↔ h ∈ N) → M = N
  | [], [], _, _, _ => rfl
  | [], b :: N, _, _, h => by have := (h b).2 List.mem_cons_self; cases this
  | a :: M, [], _, _, h => by have := (h a).1 List.mem_cons_self; cases this
  | a :: M, b :: N, hM, hN, h => by
    have m := List.pairwise_cons.1 hM
    have n := List.pairwise_cons.1 hN
    have e : a = b := by
      rcases List.mem_cons.1 ((h a).1 List.mem_cons_self) with e | e
      · exact e
      · rcases List.mem_cons.1 ((h b).2 List.mem_cons_self) with e2 | e2
        · exact e2.symm
        · have := n.1 a e
          have := m.1 b e2
          omega
    subst e
    have t : M = N := strict_ext m.2 n.2 fun x => by
      constructor
      · intro hx
        rcases List.mem_cons.1 ((h x).1 (List.mem_cons_of_mem _ hx)) with e | e
        · subst e; have := m.1 x hx; omega
        · exact e
      · intro hx
        rcases List.mem_cons.1 ((h x).2 (List.mem_cons_of_mem _ hx)) with e | e
        · subst e; have := n.1 x hx; omega
        · exact e
    rw [t]
theorem IsMerge.unique {L M N : List Hg} (h : IsMerge L M) (g : IsMerge L N) : M = N :=
  strict_ext h.1 g.1 fun x => (h.2 x).trans (g.2 x).symm
theorem IsMerge.perm {L K M : List Hg} (h : IsMerge L M) (p : L.Perm K) : IsMerge K M :=
  ⟨h.1, fun x => by
    rw [h.2 x, wt_perm p]
    constructor
    · rintro ⟨⟨y, hy, e⟩, g⟩; exact ⟨⟨y, p.mem_iff.1 hy, e⟩, g⟩
    · rintro ⟨⟨y, hy, e⟩, g⟩; exact ⟨⟨y, p.mem_iff.2 hy, e⟩, g⟩⟩
theorem IsMerge.nil : IsMerge [] [] := ⟨List.Pairwise.nil, fun h => by simp⟩
/-- A further hang behind all places. -/
theorem IsMerge.further {T M : List Hg} {h : Hg} (i : IsMerge T M) (hlt : ∀ x ∈ T, x.1 < h.1) : IsMerge (T ++ [h]) (M ++ [h]) := by
  refine ⟨List.pairwise_append.2 ⟨i.1, List.pairwise_singleton .., fun a ha b hb => ?_⟩, fun x => ?_⟩
  · rw [List.mem_singleton.1 hb]
    obtain ⟨⟨y, hy, e⟩, -⟩ := (i.2 a).1 ha
    have := hlt y hy
    omega
  · rw [List.mem_append, List.mem_singleton, i.2 x, wt_app, wt_one]
    constructor
    · rintro (⟨⟨y, hy, e⟩, g⟩ | e)
      · have := hlt y hy
        rw [if_neg (by omega)]
        exact ⟨⟨y, List.mem_append_left _ hy, e⟩, by omega⟩
      · subst e
        rw [if_pos rfl, wt_not (fun y hy => by have := hlt y hy; omega)]
        exact ⟨⟨x, List.mem_append_right _ List.mem_cons_self, rfl⟩, by omega⟩
    · rintro ⟨⟨y, hy, e⟩, g⟩
      rcases List.mem_append.1 hy with hy | hy
      · have := hlt y hy
        rw [if_neg (by omega)] at g
        exact .inl ⟨⟨y, hy, e⟩, by omega⟩
      · obtain rfl := List.mem_singleton.1 hy
        rw [if_pos e, wt_not (fun z hz => by have := hlt z hz; omega)] at g
        refine .inr (Prod.ext e.symm (by omega))
/-- A further hang at the last place. -/
theorem IsMerge.onto {T M : List Hg} {p q y : Int} (i : IsMerge T (M ++ [(p, q)])) : IsMerge (T ++ [(p, y)]) (M ++ [(p, q + y)]) := by
  have pw := List.pairwise_append.1 i.1
  have hp : ∀ a ∈ M, a.1 < p := fun a ha => pw.2.2 a ha _ List.mem_cons_self
  have last := (i.2 (p, q)).1 (List.mem_append_right _ List.mem_cons_self)
  refine ⟨List.pairwise_append.2 ⟨pw.1, List.pairwise_singleton .., fun a ha b hb => by rw [List.mem_singleton.1 hb]; exact hp a ha⟩, fun x => ?_⟩
  have ix := i.2 x
  rw [List.mem_append, List.mem_singleton] at ix ⊢
  rw [wt_app, wt_one]
  have hq : q = wt T p := last.2
  constructor
  · rintro (hx | e)
    · have := hp x hx
      obtain ⟨⟨z, hz, e⟩, g⟩ := ix.1 (.inl hx)
      rw [if_neg (by show ¬ p = x.1; omega)]
      exact ⟨⟨z, List.mem_append_left _ hz, e⟩, by omega⟩
    · subst e
      rw [if_pos rfl]
      exact ⟨⟨(p, y), List.mem_append_right _ List.mem_cons_self, rfl⟩, by show q + y = wt T p + y; omega⟩
  · rintro ⟨⟨z, hz, e⟩, g⟩
    by_cases c : p = x.1
    · rw [if_pos c, ← c, ← hq] at g
      exact .inr (Prod.ext c.symm g)
    · rw [if_neg c] at g
      have hz2 : z ∈ T := by
        rcases List.mem_append.1 hz with hz | hz
        · exact hz
        · rw [List.mem_singleton.1 hz] at e; exact (c e).elim
      rcases ix.2 ⟨⟨z, hz2, e⟩, by omega⟩ with h | h
      · exact .inl h
      · rw [h] at c; exact (c rfl).elim
/-- All places of the beam are at most the last one's. -/
theorem IsMerge.last {T M : List Hg} {p q : Int} (i : IsMerge T (M ++ [(p, q)])) : (∃ x ∈ T, x.1 = p) ∧ ∀ x ∈ T, x.1 ≤ p := by
  have pw := List.pairwise_append.1 i.1
  refine ⟨((i.2 (p, q)).1 (List.mem_append_right _ List.mem_cons_self)).1, fun x hx => ?_⟩
  rcases List.mem_append.1 ((i.2 (x.1, wt T x.1)).2 ⟨⟨x, hx, rfl⟩, rfl⟩) with h | h
  · have : x.1 < p := pw.2.2 _ h _ List.mem_cons_self
    omega
  · have := List.mem_singleton.1 h
    injection this with this
    omega
theorem IsMerge.of_nil {T : List Hg} (i : IsMerge T []) : T = [] := by
  cases T with
  | nil => rfl
  | cons x T => have := (i.2 (x.1, wt (x :: T) x.1)).2 ⟨⟨x, List.mem_cons_self, rfl⟩, rfl⟩; cases this

/-! ### Place by place -/
def pl (j : Nat) : Int := -100 + (j : Int)
/-- The first m places. -/
def mto (L : List Hg) (m : Nat) : List Hg := (List.range m).filterMap fun j => if has L (pl j) then some (pl j, wt L (pl j)) else none
theorem mto_next (L : List Hg) (m : Nat) : mto L (m + 1) = mto L m ++ if has L (pl m) then [(pl m, wt L (pl m))] else [] := by
  unfold mto
  rw [List.range_succ, List.filterMap_append]
  congr 1
  by_cases h : has L (pl m) = true
  · simp [h]
  · simp [h]
theorem mto_mem {L : List Hg} {m : Nat} {h : Hg} : h ∈ mto L m ↔ ∃ j, j < m ∧ h.1 = pl j ∧ has L (pl j) = true ∧ h.2 = wt L (pl j) := by
  unfold mto
  rw [List.mem_filterMap]
  constructor
  · rintro ⟨j, hj, e⟩
    by_cases c : has L (pl j) = true
    · rw [if_pos c] at e
      injection e with e
      subst e
      exact ⟨j, List.mem_range.1 hj, rfl, c, rfl⟩
    · rw [if_neg c] at e; cases e
  · rintro ⟨j, hj, e, c, g⟩
    refine ⟨j, List.mem_range.2 hj, ?_⟩
    rw [if_pos c]
    exact congrArg some (Prod.ext e.symm g.symm)
theorem mto_len (L : List Hg) (m : Nat) : (mto L m).length ≤ m := by
  have := List.length_filterMap_le (fun j => if has L (pl j) then some (pl j, wt L (pl j)) else none) (List.range m)
  rw [List.length_range] at this
  exact this
theorem mto_asc (L : List Hg) (m : Nat) : (mto L m).Pairwise fun a b => a.1 < b.1 := by
  induction m with
  | zero => exact List.Pairwise.nil
  | succ m ih =>
    rw [mto_next]
    split
    · refine List.pairwise_append.2 ⟨ih, List.pairwise_singleton .., fun a ha b hb => ?_⟩
      rw [List.mem_singleton.1 hb]
      obtain ⟨j, hj, e, -⟩ := mto_mem.1 ha
      rw [e]
      show pl j < pl m
      unfold pl
      omega
    · rw [List.append_nil]; exact ih
theorem mto_merge {L : List Hg} (h : ∀ x ∈ L, Hok x) : IsMerge L (mto L 201) := by
  refine ⟨mto_asc L 201, fun x => ?_⟩
  rw [mto_mem]
  constructor
  · rintro ⟨j, -, e, c, g⟩
    rw [e]
    exact ⟨has_iff.1 c, g⟩
  · rintro ⟨⟨y, hy, e⟩, g⟩
    have q := (h y hy).1
    have ej : pl (x.1 + 100).toNat = x.1 := by unfold pl; omega
    exact ⟨(x.1 + 100).toNat, by omega, ej.symm, by rw [ej]; exact has_iff.2 ⟨y, hy, e⟩, by rw [ej]; exact g⟩

/-- What merging answers. -/
def MOk (L : List Hg) : Prop := BOk L ∧ ∀ j, j < 201 → wt L (pl j) ≤ 1000
instance (L : List Hg) : Decidable (MOk L) := by unfold MOk; infer_instance
def mg (L : List Hg) : List Hg := if MOk L then mto L 201 else []
theorem mg_yes {L : List Hg} (h : MOk L) : mg L = mto L 201 := if_pos h
theorem mg_no {L : List Hg} (h : ¬ MOk L) : mg L = [] := if_neg h
/-- The merged beam is valid just if no sum is too great. -/
theorem merged_ok {L M : List Hg} (h : BOk L) (i : IsMerge L M) (hl : M.length ≤ 12) : BOk M ↔ MOk L := by
  have hL := allOk_iff.1 h.2
  constructor
  · intro g
    refine ⟨h, fun j _ => ?_⟩
    by_cases c : has L (pl j) = true
    · have := allOk_iff.1 g.2 (pl j, wt L (pl j)) ((i.2 _).2 ⟨has_iff.1 c, rfl⟩)
      exact this.2.2
    · rw [wt_not (fun x hx e => c (has_iff.2 ⟨x, hx, e⟩))]; omega
  · intro g
    refine ⟨hl, allOk_iff.2 fun x hx => ?_⟩
    obtain ⟨⟨y, hy, e⟩, w⟩ := (i.2 x).1 hx
    have q := (hL y hy).1
    have ej : pl (x.1 + 100).toNat = x.1 := by unfold pl; omega
    have := g.2 (x.1 + 100).toNat (by omega)
    rw [ej] at this
    have := (wt_le hL x.1).1
    exact ⟨by omega, by omega, by omega⟩

/-! ### Torque -/
def tl : List Hg → Int
  | [] => 0
  | h :: L => h.1 * h.2 + tl L
theorem tl_app (A B : List Hg) : tl (A ++ B) = tl A + tl B := by
  induction A with
  | nil => show tl B = 0 + tl B; omega
  | cons h A ih => show _ + tl (A ++ B) = _ + tl A + tl B; rw [ih]; omega
theorem tl_take {L : List Hg} : ∀ k, k ≤ L.length → torq L k = tl (L.take k)
  | 0, _ => rfl
  | k + 1, h => by
    rw [take_next (by omega), tl_app]
    show torq L k + _ = _ + (_ + 0)
    rw [tl_take k (by omega)]; omega
theorem torq_all (L : List Hg) : torq L L.length = tl L := by rw [tl_take _ (Nat.le_refl _), List.take_length]
theorem tl_part (L : List Hg) (p : Int) : tl L = tl (L.filter fun h => decide (h.1 ≠ p)) + p * wt L p := by
  induction L with
  | nil => show (0 : Int) = 0 + p * 0; omega
  | cons h L ih =>
    show h.1 * h.2 + tl L = _ + p * ((if h.1 = p then h.2 else 0) + wt L p)
    rw [ih, Int.mul_add]
    by_cases c : h.1 = p
    · rw [List.filter_cons_of_neg (by simp [c]), if_pos c, c]; omega
    · rw [List.filter_cons_of_pos (by simp [c]), if_neg c]
      show _ = h.1 * h.2 + tl _ + _
      omega
theorem wt_part (L : List Hg) {p q : Int} (h : q ≠ p) : wt (L.filter fun h => decide (h.1 ≠ p)) q = wt L q := by
  induction L with
  | nil => rfl
  | cons x L ih =>
    by_cases c : x.1 = p
    · rw [List.filter_cons_of_neg (by simp [c]), ih]
      show _ = (if x.1 = q then x.2 else 0) + _
      rw [if_neg (by rw [c]; exact fun e => h e.symm)]; omega
    · rw [List.filter_cons_of_pos (by simp [c])]
      show _ + wt (L.filter _) q = _ + wt L q
      rw [ih]
theorem IsMerge.tl : ∀ {M L : List Hg}, IsMerge L M → Ytajndcggafjmeaa.tl M = Ytajndcggafjmeaa.tl L
  | [], L, i => by rw [i.of_nil]
  | h :: M, L, i => by
    have pw := List.pairwise_cons.1 i.1
    have hh := (i.2 h).1 List.mem_cons_self
    have j : IsMerge (L.filter fun x => decide (x.1 ≠ h.1)) M := by
      refine ⟨pw.2, fun x => ?_⟩
      constructor
      · intro hx
        have := pw.1 x hx
        obtain ⟨⟨y, hy, e⟩, g⟩ := (i.2 x).1 (List.mem_cons_of_mem _ hx)
        exact ⟨⟨y, List.mem_filter.2 ⟨hy, by simp; omega⟩, e⟩, by rw [wt_part L (by omega)]; exact g⟩
      · rintro ⟨⟨y, hy, e⟩, g⟩
        obtain ⟨hy, c⟩ := List.mem_filter.1 hy
        have c' : y.1 ≠ h.1 := of_decide_eq_true c
        rw [wt_part L (by omega)] at g
        rcases List.mem_cons.1 ((i.2 x).2 ⟨⟨y, hy, e⟩, g⟩) with e2 | e2
        · rw [e2] at e; exact (c' e).elim
        · exact e2
    show h.1 * h.2 + Ytajndcggafjmeaa.tl M = Ytajndcggafjmeaa.tl L
    rw [IsMerge.tl j, tl_part L h.1, hh.2]; omega
end Go.Proofs.Ytajndcggafjmeaa
