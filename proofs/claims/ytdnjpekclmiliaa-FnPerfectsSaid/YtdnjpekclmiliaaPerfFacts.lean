/-
  What perfect lists and lists of factors are: their sums, products and ways. Lists only, no program's walk.
-/
import Derived.Test.YtdnjpekclmiliaaPerfCount
import Derived.Test.YtdnjpekclmiliaaOrder
namespace Go.Proofs.Ytdnjpekclmiliaa
open Go.ChangeShapes Go.WideShapes Go.ChangeAt Go.RowKit Go.PlainAid

/-- A perfect list, or the empty head. -/
structure Good (L : List Int) (n : Nat) : Prop where
  head : Head L n
  asc : InOrder L
  one : L = [] ∨ oneWay L = true
theorem good_nil : Good [] 0 := ⟨head_nil, fun _ h => absurd h (Nat.not_lt_zero _), .inl rfl⟩
theorem good_next {H : List Int} {r x : Nat} (h : Good H r) (hx : lastN H ≤ x) (ho : oneWay (H ++ [(x : Int)]) = true) : Good (H ++ [(x : Int)]) (r + x) := by
  have hl := h.head.last
  refine ⟨head_next h.head (by omega), fun i hi => ?_, .inr ho⟩
  rw [List.length_append, List.length_singleton] at hi
  rw [getD_append (by rw [List.length_append, List.length_singleton]; omega), getD_append (by rw [List.length_append, List.length_singleton]; omega)]
  rw [if_pos (show i < H.length by omega)]
  by_cases e : i + 1 < H.length
  · rw [if_pos e]
    exact h.asc i e
  · rw [if_neg e]
    have := hl.2 (by omega)
    rw [show H.length - 1 = i by omega] at this
    omega
mutual
theorem plists_good : ∀ (d n : Nat) (H : List Int) (r : Nat), Good H r → ∀ L ∈ plists d n H r, Good L n
  | 0, _, _, _, _, L, hL => by cases hL
  | d + 1, n, H, r, h, L, hL => by
    by_cases e : r = n
    · subst e
      rw [plists_end] at hL
      rw [List.mem_singleton.1 hL]
      exact h
    · rw [plists_more e] at hL
      exact plistsTo_good d n H r _ h L hL
theorem plistsTo_good : ∀ (d n : Nat) (H : List Int) (r j : Nat), Good H r → ∀ L ∈ plistsTo d n H r j, Good L n
  | d, n, H, r, 0, h, L, hL => by cases hL
  | d, n, H, r, j + 1, h, L, hL => by
    rw [plistsTo_succ] at hL
    rcases List.mem_append.1 hL with hL | hL
    · exact plistsTo_good d n H r j h L hL
    · unfold pstep at hL
      split at hL
      · cases hL
      · split at hL
        · rename_i ho
          exact plists_good d n _ _ (good_next h (by omega) ho) L hL
        · cases hL
end
theorem listsP_of {n : Nat} (h : 1 ≤ n ∧ n ≤ 24) : listsP (n : Int) = plists 25 n [] 0 := by
  unfold listsP
  rw [if_pos (by omega)]; rfl
theorem listsF_of {n : Nat} (h : 2 ≤ n ∧ n ≤ 100) : listsF (n : Int) = facs 7 n [] := by
  unfold listsF
  rw [if_pos (by omega)]; rfl
theorem listsP_good {n : Nat} (h : 1 ≤ n ∧ n ≤ 24) {L : List Int} (hL : L ∈ listsP (n : Int)) : Head L n ∧ InOrder L ∧ oneWay L = true := by
  rw [listsP_of h] at hL
  have g := plists_good 25 n [] 0 good_nil L hL
  refine ⟨g.head, g.asc, ?_⟩
  rcases g.one with e | e
  · subst e
    have := g.head.sum
    have : (0 : Int) = n := this
    omega
  · exact e
theorem same_size {n : Nat} (h : 1 ≤ n ∧ n ≤ 24) : (listsP (n : Int)).length = (listsF ((n + 1 : Nat) : Int)).length ∧ 0 < (listsP (n : Int)).length ∧ (listsP (n : Int)).length ≤ 200 := by
  rw [listsP_of h, listsF_of (by omega)]
  obtain ⟨k, rfl⟩ : ∃ k, n = k + 1 := ⟨n - 1, by omega⟩
  exact same_count k (by omega)
theorem allU_all {P : Int → Bool} {L : List Int} {T : Nat} (hT : sumL L = T) (h : allU P L = true) : ∀ n : Nat, n ≤ T → P (uw L n) = true := fun n hn => by
  unfold allU at h
  rw [List.all_eq_true] at h
  exact h n (List.mem_range.2 (by omega))
/-- What a perfect list of at most eight numbers answers. -/
theorem good_set {n : Nat} (h : 1 ≤ n ∧ n ≤ 24) {L : List Int} (hL : L ∈ listsP (n : Int)) (h8 : L.length ≤ 8) : perfectB L = true ∧ completeB L = true ∧ ∀ m : Int, 1 ≤ m → m ≤ n → waysU L m = 1 := by
  obtain ⟨hH, ha, ho⟩ := listsP_good h hL
  have h1 : 1 ≤ L.length := by
    rcases Nat.eq_zero_or_pos L.length with e | e
    · have e2 := List.length_eq_zero_iff.1 e
      subst e2
      have := hH.sum
      have : (0 : Int) = n := this
      omega
    · exact e
  have hs : setB L = true := by
    rw [setB_asc ⟨h1, h8⟩ ha]
    have p := hH.pos 0 (by omega)
    have q := hH.mem.2 (L.length - 1) (by omega)
    exact decide_eq_true ⟨p, by omega⟩
  have hone := allU_all hH.sum ho
  have hone2 : ∀ k : Nat, k ≤ n → uw L k = 1 := fun k hk => of_decide_eq_true (hone k hk)
  refine ⟨by unfold perfectB; rw [hs, ho]; rfl, ?_, fun m h1 h2 => ?_⟩
  · unfold completeB
    rw [hs, allU_yes hH.sum fun k hk => by rw [hone2 k hk]; rfl]; rfl
  · unfold waysU
    rw [hs, if_pos rfl, if_pos (by rw [hH.sum]; omega)]
    obtain ⟨k, rfl⟩ : ∃ k : Nat, m = k := ⟨m.toNat, by omega⟩
    exact hone2 k (by omega)

/-! ### Products -/
def prodL : List Int → Int
  | [] => 1
  | x :: r => x * prodL r
theorem prodL_append : ∀ (P Q : List Int), prodL (P ++ Q) = prodL P * prodL Q
  | [], Q => by simp [prodL]
  | x :: r, Q => by
    have ih := prodL_append r Q
    show x * prodL (r ++ Q) = x * prodL r * prodL Q
    rw [ih, Int.mul_assoc]
theorem prodL_take {L : List Int} {k : Nat} (h : k < L.length) : prodL (L.take (k + 1)) = prodL (L.take k) * L.getD k 0 := by
  rw [List.take_succ_eq_append_getElem h, prodL_append, List.getD_eq_getElem?_getD, List.getElem?_eq_getElem h]
  simp [prodL]
theorem prodL_pos : ∀ {L : List Int}, (∀ z ∈ L, 1 ≤ z) → 1 ≤ prodL L
  | [], _ => Int.le_refl 1
  | x :: r, h => by
    have ih := prodL_pos (L := r) fun z hz => h z (List.mem_cons_of_mem _ hz)
    have hx := h x List.mem_cons_self
    show 1 ≤ x * prodL r
    have := Int.mul_le_mul hx ih (by omega) (by omega)
    omega
theorem prodL_part {L : List Int} (h : ∀ z ∈ L, 1 ≤ z) (k : Nat) : 1 ≤ prodL (L.take k) ∧ prodL (L.take k) ≤ prodL L := by
  have h1 := prodL_pos (L := L.take k) fun z hz => h z (List.mem_of_mem_take hz)
  have h2 := prodL_pos (L := L.drop k) fun z hz => h z (List.mem_of_mem_drop hz)
  have e := prodL_append (L.take k) (L.drop k)
  rw [List.take_append_drop] at e
  have := Int.mul_le_mul_of_nonneg_left h2 (show 0 ≤ prodL (L.take k) by omega)
  rw [e]
  omega
mutual
theorem facs_prod : ∀ (d n : Nat) (H : List Int), (∀ z ∈ H, 1 ≤ z) → ∀ L ∈ facs d n H, prodL L = prodL H * n ∧ ∀ z ∈ L, 1 ≤ z
  | 0, _, _, _, L, h => by cases h
  | d + 1, n, H, h, L, hL => by
    by_cases h1 : n = 1
    · subst h1
      rw [facs_one] at hL
      rw [List.mem_singleton.1 hL]
      exact ⟨by simp, h⟩
    · rw [facs_more h1] at hL
      exact facsTo_prod d n H (n - 1) h L hL
theorem facsTo_prod : ∀ (d n : Nat) (H : List Int) (j : Nat), (∀ z ∈ H, 1 ≤ z) → ∀ L ∈ facsTo d n H j, prodL L = prodL H * n ∧ ∀ z ∈ L, 1 ≤ z
  | d, n, H, 0, _, L, hL => by cases hL
  | d, n, H, j + 1, h, L, hL => by
    rw [facsTo_succ] at hL
    rcases List.mem_append.1 hL with hL | hL
    · exact facsTo_prod d n H j h L hL
    · split at hL
      · rename_i hm
        have hH : ∀ z ∈ H ++ [((j + 2 : Nat) : Int)], 1 ≤ z := fun z hz => by
          rcases List.mem_append.1 hz with hz | hz
          · exact h z hz
          · rw [List.mem_singleton.1 hz]; omega
        obtain ⟨p1, p2⟩ := facs_prod d _ _ hH L hL
        refine ⟨?_, p2⟩
        rw [p1, prodL_append]
        have e : prodL [((j + 2 : Nat) : Int)] = ((j + 2 : Nat) : Int) := by simp [prodL]
        rw [e, Int.mul_assoc, ← Int.natCast_mul, Nat.mul_div_cancel' (Nat.dvd_of_mod_eq_zero hm)]
      · cases hL
end
theorem listsF_prod {n : Nat} (h : 2 ≤ n ∧ n ≤ 100) {L : List Int} (hL : L ∈ listsF (n : Int)) : prodL L = n ∧ ∀ z ∈ L, 1 ≤ z := by
  rw [listsF_of h] at hL
  obtain ⟨p, q⟩ := facs_prod 7 n [] (fun z hz => by cases hz) L hL
  exact ⟨by rw [p]; simp [prodL], q⟩
/-! ### Sizes -/
theorem sizeF (m : Int) : (listsF m).length ≤ 200 ∧ (∀ L ∈ listsF m, L.length ≤ 7) ∧ sizeSS (listsF m) ≤ 1400 := by
  unfold listsF
  split
  · have h1 : (facs 7 m.toNat []).length ≤ 200 := by rw [facs_length]; exact cntF_le 7 (by decide) _ (by omega)
    have h2 : ∀ L ∈ facs 7 m.toNat [], L.length ≤ 7 := fun L hL => by simpa using facs_each 7 _ [] L hL
    have h3 := sizeSS_le h2
    exact ⟨h1, h2, by omega⟩
  · exact ⟨Nat.zero_le _, (fun L hL => by cases hL), Nat.zero_le _⟩
theorem sizeP (m : Int) : (listsP m).length ≤ 200 ∧ (∀ L ∈ listsP m, L.length ≤ 24) ∧ sizeSS (listsP m) ≤ 4800 := by
  by_cases h : 1 ≤ m ∧ m ≤ 24
  · obtain ⟨n, rfl⟩ : ∃ n : Nat, m = n := ⟨m.toNat, by omega⟩
    have hn : 1 ≤ n ∧ n ≤ 24 := by omega
    have h1 := (same_size hn).2.2
    have h2 : ∀ L ∈ listsP (n : Int), L.length ≤ 24 := fun L hL => by
      have := (listsP_good hn hL).1.mem.1
      omega
    have h3 := sizeSS_le h2
    exact ⟨h1, h2, by omega⟩
  · have e : listsP m = [] := by unfold listsP; rw [if_neg h]
    rw [e]
    exact ⟨Nat.zero_le _, (fun L hL => by cases hL), Nat.zero_le _⟩
end Go.Proofs.Ytdnjpekclmiliaa
