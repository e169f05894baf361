/-
  Insertion of each number into those before it brings a list into order. Ints and lists only, no program's walk.
-/
import Derived.Test.YtfokchmmeflhiaaSortList
namespace Go.Proofs.Ytfokchmmeflhiaa

/-- The numbers ahead of place k that are greater than x go up by one place. -/
def shUp (x : Int) : Nat → List Int → Nat × List Int
  | 0, W => (0, W)
  | k + 1, W => if x < W.getD k 0 then shUp x k (W.set (k + 1) (W.getD k 0)) else (k + 1, W)
theorem shUp_zero (x : Int) (W : List Int) : shUp x 0 W = (0, W) := rfl
theorem shUp_go {x : Int} {k : Nat} {W : List Int} (h : x < W.getD k 0) : shUp x (k + 1) W = shUp x k (W.set (k + 1) (W.getD k 0)) := if_pos h
theorem shUp_stop {x : Int} {k : Nat} {W : List Int} (h : ¬ x < W.getD k 0) : shUp x (k + 1) W = (k + 1, W) := if_neg h
theorem getD_mid (P Q : List Int) (y : Int) : (P ++ y :: Q).getD P.length 0 = y := by
  rw [List.getD_eq_getElem?_getD, List.getElem?_append_right (Nat.le_refl _), Nat.sub_self]; rfl
theorem set_mid (P Q : List Int) (y z : Int) : (P ++ y :: Q).set P.length z = P ++ z :: Q := by
  rw [List.set_append_right _ _ (Nat.le_refl _), Nat.sub_self]; rfl
theorem shUp_ok (x : Int) : ∀ (k : Nat) (P : List Int) (y : Int) (Q : List Int), P.length = k →
    ∃ Z, (shUp x k (P ++ y :: Q)).2.set (shUp x k (P ++ y :: Q)).1 x = Z ++ Q ∧ Z.Perm (P ++ [x]) ∧ (P.Pairwise (fun a b => a ≤ b) → Z.Pairwise fun a b => a ≤ b)
  | 0, P, y, Q, h => by
    obtain rfl := List.length_eq_zero_iff.1 h
    exact ⟨[x], rfl, List.Perm.refl _, fun _ => List.pairwise_singleton _ _⟩
  | k + 1, P, y, Q, h => by
    obtain ⟨P', p, rfl⟩ : ∃ P' p, P = P' ++ [p] := by
      refine ⟨P.dropLast, P.getLast (by intro e; rw [e] at h; cases h), (List.dropLast_concat_getLast _).symm⟩
    have hk : P'.length = k := by rw [List.length_append, List.length_singleton] at h; omega
    have e : (P' ++ [p]) ++ y :: Q = P' ++ p :: y :: Q := by rw [List.append_assoc]; rfl
    have g : ((P' ++ [p]) ++ y :: Q).getD k 0 = p := by rw [e, ← hk, getD_mid]
    by_cases c : x < p
    · have e2 : ((P' ++ [p]) ++ y :: Q).set (k + 1) p = P' ++ p :: p :: Q := by
        rw [show k + 1 = (P' ++ [p]).length from h.symm, set_mid, List.append_assoc]; rfl
      rw [shUp_go (by rw [g]; exact c), g, e2]
      obtain ⟨Z, h1, h2, h3⟩ := shUp_ok x k P' p (p :: Q) hk
      refine ⟨Z ++ [p], by rw [h1, List.append_assoc]; rfl, ?_, fun hp => ?_⟩
      · refine (h2.append_right [p]).trans ?_
        rw [List.append_assoc, List.append_assoc]
        exact (List.Perm.swap p x []).append_left P'
      · obtain ⟨q1, -, q3⟩ := List.pairwise_append.1 hp
        refine List.pairwise_append.2 ⟨h3 q1, List.pairwise_singleton _ _, fun a ha b hb => ?_⟩
        obtain rfl := List.mem_singleton.1 hb
        rcases List.mem_append.1 (h2.mem_iff.1 ha) with m | m
        · exact q3 a m b List.mem_cons_self
        · obtain rfl := List.mem_singleton.1 m
          omega
    · rw [shUp_stop (by rw [g]; exact c)]
      refine ⟨P' ++ [p] ++ [x], ?_, List.Perm.refl _, fun hp => ?_⟩
      · show ((P' ++ [p]) ++ y :: Q).set (k + 1) x = _
        rw [show k + 1 = (P' ++ [p]).length from h.symm, set_mid, List.append_assoc (P' ++ [p])]; rfl
      · refine List.pairwise_append.2 ⟨hp, List.pairwise_singleton _ _, fun a ha b hb => ?_⟩
        obtain rfl := List.mem_singleton.1 hb
        rcases List.mem_append.1 ha with m | m
        · have := (List.pairwise_append.1 hp).2.2 a m p List.mem_cons_self
          omega
        · obtain rfl := List.mem_singleton.1 m
          omega
/-- The first i numbers of S are in order, the others are as they were. -/
def Upward (S : List Int) (i : Nat) (W : List Int) : Prop := ∃ A, W = A ++ S.drop i ∧ A.Perm (S.take i) ∧ A.Pairwise fun x y => x ≤ y
theorem upward_one (S : List Int) : Upward S 1 S := ⟨S.take 1, (List.take_append_drop 1 S).symm, List.Perm.refl _, by
  rcases S with _ | ⟨a, S⟩
  · exact List.Pairwise.nil
  · exact List.pairwise_singleton _ _⟩
theorem Upward.len {S W : List Int} {i : Nat} (h : Upward S i W) : W.length = S.length := by
  obtain ⟨A, rfl, p, -⟩ := h
  rw [List.length_append, p.length_eq, List.length_take, List.length_drop]; omega
theorem Upward.step {S W : List Int} {i : Nat} (h : Upward S i W) (hi : i < S.length) : Upward S (i + 1) ((shUp (W.getD i 0) i W).2.set (shUp (W.getD i 0) i W).1 (W.getD i 0)) := by
  obtain ⟨A, rfl, p, q⟩ := h
  have ha : A.length = i := by rw [p.length_eq, List.length_take]; omega
  have e : S.drop i = S[i] :: S.drop (i + 1) := List.drop_eq_getElem_cons hi
  have g : (A ++ S.drop i).getD i 0 = S[i] := by have := getD_mid A (S.drop (i + 1)) S[i]; rw [ha] at this; rw [e]; exact this
  rw [g, e]
  obtain ⟨Z, h1, h2, h3⟩ := shUp_ok S[i] i A S[i] (S.drop (i + 1)) ha
  refine ⟨Z, h1, h2.trans ?_, h3 q⟩
  rw [List.take_succ_eq_append_getElem hi]
  exact p.append_right _
theorem Upward.all {S W : List Int} {i : Nat} (h : Upward S i W) (hi : S.length ≤ i) : W = sortL S := by
  obtain ⟨A, rfl, p, q⟩ := h
  rw [List.drop_of_length_le hi, List.append_nil]
  rw [List.take_of_length_le hi] at p
  exact sortL_uniq q p
theorem shUp_len (x : Int) : ∀ (k : Nat) (W : List Int), (shUp x k W).2.length = W.length
  | 0, W => rfl
  | k + 1, W => by
    by_cases c : x < W.getD k 0
    · rw [shUp_go c, shUp_len x k, List.length_set]
    · rw [shUp_stop c]
end Go.Proofs.Ytfokchmmeflhiaa
