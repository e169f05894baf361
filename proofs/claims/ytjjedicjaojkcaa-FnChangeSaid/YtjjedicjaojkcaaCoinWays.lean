/-
  The numbers of ways, coin by coin; tables of numbers. No program's walk.
-/
import Derived.Test.YtjjedicjaojkcaaCoinBest
namespace Go.Proofs.Ytjjedicjaojkcaa
open Go.ChangeShapes Go.WideShapes Go.ChangeAt Go.RowKit Go.PlainAid

/-! ### Tables -/
/-- The values of f from 0 to n. -/
def tb (n : Nat) (f : Nat → Int) : List Int := (List.range (n + 1)).map f
theorem tb_length (n : Nat) (f : Nat → Int) : (tb n f).length = n + 1 := by unfold tb; rw [List.length_map, List.length_range]
theorem tb_get {n : Nat} {f : Nat → Int} {j : Nat} (h : j ≤ n) : (tb n f).getD j 0 = f j := by
  unfold tb
  rw [List.getD_eq_getElem?_getD, List.getElem?_map, List.getElem?_range (by omega)]; rfl
theorem tb_congr {n : Nat} {f g : Nat → Int} (h : ∀ j, j ≤ n → f j = g j) : tb n f = tb n g :=
  list_ext_getD (by rw [tb_length, tb_length]) fun k hk => by
    rw [tb_length] at hk
    rw [tb_get (by omega), tb_get (by omega), h k (by omega)]
theorem tb_set {n : Nat} {f : Nat → Int} {j : Nat} (hj : j ≤ n) (v : Int) : (tb n f).set j v = tb n (fun y => if y = j then v else f y) :=
  list_ext_getD (by rw [List.length_set, tb_length, tb_length]) fun k hk => by
    rw [List.length_set, tb_length] at hk
    rw [getD_set (by rw [tb_length]; omega), tb_get (by omega), tb_get (by omega)]
    by_cases e : j = k
    · subst e; rw [if_pos rfl]
    · rw [if_neg e, if_neg (Ne.symm e)]
theorem tb_set_to {n : Nat} {f g : Nat → Int} {j : Nat} {v : Int} (hj : j ≤ n) (hv : g j = v) (h : ∀ y, y ≤ n → y ≠ j → g y = f y) : (tb n f).set j v = tb n g := by
  rw [tb_set hj]
  refine tb_congr fun y hy => ?_
  by_cases e : y = j
  · subst e; rw [if_pos rfl, hv]
  · rw [if_neg e, h y hy e]
theorem tb_zeros {n : Nat} {f : Nat → Int} (h : ∀ y, y ≤ n → f y = 0) : List.replicate (n + 1) 0 = tb n f :=
  list_ext_getD (by rw [List.length_replicate, tb_length]) fun k hk => by
    rw [List.length_replicate] at hk
    rw [tb_get (by omega), h k (by omega), List.getD_eq_getElem?_getD, List.getElem?_replicate, if_pos hk]; rfl

/-! ### Ways -/
def wsum (f : Nat → Int) (c : Nat) : Nat → Nat → Int
  | 0, y => f y
  | t + 1, y => f y + if c ≤ y then wsum f c t (y - c) else 0
/-- In how many ways y is paid with the first k coins. -/
def W (L : List Int) : Nat → Nat → Int
  | 0, y => if y = 0 then 1 else 0
  | k + 1, y => wsum (W L k) (cn L k) y y
theorem wsum_fuel (f : Nat → Int) {c : Nat} (hc : 1 ≤ c) : ∀ s t y, y ≤ s → y ≤ t → wsum f c t y = wsum f c s y
  | 0, 0, y, _, _ => rfl
  | 0, t + 1, y, h, _ => by unfold wsum; rw [if_neg (by omega)]; omega
  | s + 1, 0, y, _, h => by unfold wsum; rw [if_neg (by omega)]; omega
  | s + 1, t + 1, y, h1, h2 => by
    unfold wsum
    by_cases e : c ≤ y
    · rw [if_pos e, if_pos e, wsum_fuel f hc s t _ (by omega) (by omega)]
    · rw [if_neg e, if_neg e]
theorem W_low {L : List Int} {k y : Nat} (h : y < cn L k) : W L (k + 1) y = W L k y := by
  show wsum (W L k) (cn L k) y y = _
  cases y with
  | zero => rfl
  | succ y => unfold wsum; rw [if_neg (by omega)]; omega
theorem W_step {L : List Int} {k y : Nat} (hc : 1 ≤ cn L k) (h : cn L k ≤ y) : W L (k + 1) y = W L k y + W L (k + 1) (y - cn L k) := by
  show wsum (W L k) (cn L k) y y = _ + wsum (W L k) (cn L k) (y - cn L k) (y - cn L k)
  obtain ⟨t, rfl⟩ : ∃ t, y = t + 1 := ⟨y - 1, by omega⟩
  show W L k (t + 1) + (if cn L k ≤ t + 1 then _ else 0) = _
  rw [if_pos h, wsum_fuel _ hc (t + 1 - cn L k) t _ (Nat.le_refl _) (by omega)]
theorem wsum_le {f : Nat → Int} {c : Nat} {B : Int} (hc : 1 ≤ c) (h : ∀ z, 0 ≤ f z ∧ f z ≤ B) : ∀ t y, 0 ≤ wsum f c t y ∧ wsum f c t y ≤ B * (y + 1)
  | 0, y => by
    have := h y
    have h2 : 0 ≤ B * (y : Int) := Int.mul_nonneg (by omega) (by omega)
    unfold wsum
    rw [Int.mul_add, Int.mul_one]
    omega
  | t + 1, y => by
    have := h y
    have h2 : 0 ≤ B * (y : Int) := Int.mul_nonneg (by omega) (by omega)
    unfold wsum
    rw [Int.mul_add, Int.mul_one]
    by_cases e : c ≤ y
    · have ih := wsum_le hc h t (y - c)
      have h3 : B * (((y - c : Nat) : Int) + 1) ≤ B * (y : Int) := Int.mul_le_mul_of_nonneg_left (by omega) (by omega)
      rw [if_pos e]
      omega
    · rw [if_neg e]
      omega
/-- The greatest number of ways at k coins, for amounts up to 200. -/
def wTop : Nat → Int
  | 0 => 1
  | k + 1 => wTop k * 201
theorem wTop_pos : ∀ k, 1 ≤ wTop k
  | 0 => Int.le_refl _
  | k + 1 => by have := wTop_pos k; show 1 ≤ wTop k * 201; omega
theorem wTop_six {k : Nat} (h : k ≤ 6) : wTop k ≤ 100000000000000 := by
  have : k = 0 ∨ k = 1 ∨ k = 2 ∨ k = 3 ∨ k = 4 ∨ k = 5 ∨ k = 6 := by omega
  rcases this with rfl | rfl | rfl | rfl | rfl | rfl | rfl <;> decide
theorem wsum_le_to {f : Nat → Int} {c : Nat} {B : Int} (hc : 1 ≤ c) : ∀ t y, (∀ z, z ≤ y → 0 ≤ f z ∧ f z ≤ B) → 0 ≤ wsum f c t y ∧ wsum f c t y ≤ B * (y + 1)
  | 0, y, h => by
    have := h y (Nat.le_refl _)
    have h2 : 0 ≤ B * (y : Int) := Int.mul_nonneg (by omega) (by omega)
    unfold wsum
    rw [Int.mul_add, Int.mul_one]
    omega
  | t + 1, y, h => by
    have := h y (Nat.le_refl _)
    have h2 : 0 ≤ B * (y : Int) := Int.mul_nonneg (by omega) (by omega)
    unfold wsum
    rw [Int.mul_add, Int.mul_one]
    by_cases e : c ≤ y
    · have ih := wsum_le_to hc t (y - c) fun z hz => h z (by omega)
      have h3 : B * (((y - c : Nat) : Int) + 1) ≤ B * (y : Int) := Int.mul_le_mul_of_nonneg_left (by omega) (by omega)
      rw [if_pos e]
      omega
    · rw [if_neg e]
      omega
theorem W_le {L : List Int} (hP : SysP L) : ∀ k, k ≤ L.length → ∀ y, y ≤ 200 → 0 ≤ W L k y ∧ W L k y ≤ wTop k
  | 0, _, y, _ => by
    show 0 ≤ (if y = 0 then (1 : Int) else 0) ∧ (if y = 0 then (1 : Int) else 0) ≤ 1
    split <;> omega
  | k + 1, hk, y, hy => by
    have ih := fun z (hz : z ≤ y) => W_le hP k (by omega) z (by omega)
    have h1 := wsum_le_to (f := W L k) (hP.coin (k := k) (by omega)).2.1 y y ih
    have h2 : wTop k * ((y : Int) + 1) ≤ wTop k * 201 := Int.mul_le_mul_of_nonneg_left (by omega) (by have := wTop_pos k; omega)
    show 0 ≤ wsum (W L k) (cn L k) y y ∧ wsum (W L k) (cn L k) y y ≤ wTop k * 201
    omega
theorem W_fit {L : List Int} (hP : SysP L) {k y : Nat} (hk : k ≤ L.length) (hy : y ≤ 200) : 0 ≤ W L k y ∧ W L k y ≤ 100000000000000 := by
  have h1 := W_le hP k hk y hy
  have h2 := wTop_six (k := k) (by have := hP.1.1; omega)
  omega
theorem W_grow {L : List Int} (hP : SysP L) {k y : Nat} (hk : k < L.length) (hy : y ≤ 200) : W L k y ≤ W L (k + 1) y := by
  rcases Nat.lt_or_ge y (cn L k) with h | h
  · rw [W_low h]; exact Int.le_refl _
  · rw [W_step (hP.coin hk).2.1 h]
    have := W_le hP (k + 1) (by omega) (y - cn L k) (by omega)
    omega
theorem W_pos {L : List Int} (hP : SysP L) : ∀ k, k + 1 ≤ L.length → ∀ y, y ≤ 200 → 1 ≤ W L (k + 1) y
  | 0, hk, y, hy => by
    induction y with
    | zero => exact Int.le_refl 1
    | succ y ih =>
      have h0 := W_le hP 0 (by omega) (y + 1) hy
      have h1 : 1 ≤ W L 1 y := ih (by omega)
      rw [W_step (by rw [hP.first]; exact Nat.le_refl _) (by rw [hP.first]; omega), hP.first]
      show 1 ≤ W L 0 (y + 1) + W L 1 y
      omega
  | k + 1, hk, y, hy => by
    have h1 := W_pos hP k (by omega) y hy
    have h2 := W_grow hP (k := k + 1) (y := y) (by omega) hy
    omega
theorem W_congr {L M : List Int} : ∀ k, (∀ i, i < k → cn L i = cn M i) → ∀ y, W L k y = W M k y
  | 0, _, _ => rfl
  | k + 1, h, y => by
    show wsum (W L k) (cn L k) y y = wsum (W M k) (cn M k) y y
    rw [h k (by omega), show W L k = W M k from funext fun y => W_congr k (fun i hi => h i (by omega)) y]
theorem cn_take {L : List Int} {k i : Nat} (h : i < k) : cn (L.take k) i = cn L i := by
  unfold cn
  rw [List.getD_eq_getElem?_getD, List.getD_eq_getElem?_getD, List.getElem?_take, if_pos h]
theorem sysP_take {L : List Int} (hP : SysP L) {k : Nat} (h1 : 1 ≤ k) (h2 : k ≤ L.length) : SysP (L.take k) := by
  have hl : (L.take k).length = k := by rw [List.length_take]; omega
  have hg : ∀ i, i < k → (L.take k).getD i 0 = L.getD i 0 := fun i hi => by
    rw [List.getD_eq_getElem?_getD, List.getD_eq_getElem?_getD, List.getElem?_take, if_pos hi]
  have h0 := hP.1.1
  refine ⟨⟨by omega, by rw [hg 0 (by omega)]; exact hP.1.2⟩, fun j hj => ?_⟩
  rw [hl] at hj
  have := hP.2 j (by omega)
  unfold FineC at this ⊢
  rw [hg j hj]
  refine ⟨this.1, fun g => ?_⟩
  rw [hg (j - 1) (by omega)]
  exact this.2 g
def cntA (L : List Int) (n : Int) : Int := if sysB L = true ∧ 0 ≤ n ∧ n ≤ 200 then W L L.length n.toNat else 0
theorem cntA_yes {L : List Int} {n : Nat} (h : sysB L = true) (hn : n ≤ 200) : cntA L n = W L L.length n := by
  unfold cntA
  rw [if_pos ⟨h, by omega, by omega⟩, Int.toNat_natCast]
theorem cntA_no {L : List Int} {n : Int} (h : ¬ (sysB L = true ∧ 0 ≤ n ∧ n ≤ 200)) : cntA L n = 0 := if_neg h
/-- The ways without the last coin, and with it. -/
theorem W_last {L : List Int} (hP : SysP L) {k m : Nat} (hk : L.length = k + 1) (h1 : 1 ≤ k) (hm : m ≤ 200) :
    cntA L m = (if cn L k ≤ m then cntA L ((m - cn L k : Nat) : Int) else 0) + cntA (L.take k) m := by
  have e : cntA (L.take k) m = W L k m := by
    rw [cntA_yes (decide_eq_true (sysP_take hP h1 (by omega))) hm, List.length_take, show min k L.length = k by omega]
    exact W_congr k (fun i hi => cn_take hi) m
  rw [e, cntA_yes (decide_eq_true hP) hm, hk]
  by_cases h : cn L k ≤ m
  · rw [if_pos h, cntA_yes (decide_eq_true hP) (by omega), hk, W_step (hP.coin (by omega)).2.1 h]
    omega
  · rw [if_neg h, W_low (by omega)]
    omega

/-- The table of ways while the coin at k is added, for amounts below x. -/
def wst (L : List Int) (k x y : Nat) : Int := if y < x then W L (k + 1) y else W L k y
theorem wst_first (L : List Int) (n : Nat) : (List.replicate (n + 1) 0).set 0 1 = tb n (W L 0) := by
  rw [tb_zeros (f := fun _ => 0) fun y _ => rfl]
  refine tb_set_to (by omega) rfl fun y hy h => ?_
  show (if y = 0 then (1 : Int) else 0) = 0
  rw [if_neg h]
theorem wst_start (L : List Int) (k n : Nat) : tb n (wst L k (cn L k)) = tb n (W L k) := by
  refine tb_congr fun y hy => ?_
  unfold wst
  split
  · exact W_low (by assumption)
  · rfl
theorem wst_end {L : List Int} {k n x : Nat} (h : n < x) : tb n (wst L k x) = tb n (W L (k + 1)) := by
  refine tb_congr fun y hy => ?_
  unfold wst
  rw [if_pos (by omega)]
theorem wst_set {L : List Int} {k n x : Nat} (hc : 1 ≤ cn L k) (h1 : cn L k ≤ x) (h2 : x ≤ n) : (tb n (wst L k x)).set x (W L k x + W L (k + 1) (x - cn L k)) = tb n (wst L k (x + 1)) := by
  refine tb_set_to h2 ?_ fun y hy h => ?_
  · unfold wst
    rw [if_pos (by omega), W_step hc h1]
  · unfold wst
    by_cases e : y < x
    · rw [if_pos e, if_pos (by omega)]
    · rw [if_neg e, if_neg (by omega)]
theorem wst_at {L : List Int} {k x : Nat} : wst L k x x = W L k x := by unfold wst; rw [if_neg (by omega)]
theorem wst_below {L : List Int} {k x y : Nat} (h : y < x) : wst L k x y = W L (k + 1) y := by unfold wst; rw [if_pos h]

/-! ### The table of the least numbers -/
def bst (L : List Int) (x y : Nat) : Int := if y < x then best L y else 0
def bin (L : List Int) (x v y : Nat) : Int := if y < x then best L y else if y = x then v else 0
theorem bst_first (L : List Int) (n : Nat) : List.replicate (n + 1) 0 = tb n (bst L 1) := tb_zeros fun y _ => by
  unfold bst
  split
  · obtain rfl : y = 0 := by omega
    rfl
  · rfl
theorem bst_set {L : List Int} {n x : Nat} (h : x ≤ n) (v : Nat) : (tb n (bst L x)).set x (v : Int) = tb n (bin L x v) := by
  refine tb_set_to h ?_ fun y hy e => ?_
  · unfold bin; rw [if_neg (by omega), if_pos rfl]
  · unfold bin bst; rw [if_neg e]
theorem bin_set {L : List Int} {n x v : Nat} (h : x ≤ n) (u : Nat) : (tb n (bin L x v)).set x (u : Int) = tb n (bin L x u) := by
  refine tb_set_to h ?_ fun y hy e => ?_
  · unfold bin; rw [if_neg (by omega), if_pos rfl]
  · unfold bin; rw [if_neg e, if_neg e]
theorem bin_end {L : List Int} {n x : Nat} : tb n (bin L x (best L x)) = tb n (bst L (x + 1)) := by
  refine tb_congr fun y hy => ?_
  unfold bin bst
  by_cases e : y < x
  · rw [if_pos e, if_pos (by omega)]
  · rw [if_neg e]
    by_cases e2 : y = x
    · subst e2; rw [if_pos rfl, if_pos (by omega)]
    · rw [if_neg e2, if_neg (by omega)]
theorem bst_below {L : List Int} {x y : Nat} (h : y < x) : bst L x y = best L y := by unfold bst; rw [if_pos h]
theorem bin_below {L : List Int} {x v y : Nat} (h : y < x) : bin L x v y = best L y := by unfold bin; rw [if_pos h]
theorem bin_at {L : List Int} {x v : Nat} : bin L x v x = v := by unfold bin; rw [if_neg (by omega), if_pos rfl]
theorem bst_all {L : List Int} {n : Nat} : tb n (bst L (n + 1)) = tb n (fun y => (best L y : Int)) := tb_congr fun y hy => bst_below (by omega)
theorem minTo_one {L : List Int} (hP : SysP L) (b : Nat → Nat) (x : Nat) : minTo L b x 1 = b (x - 1) + 1 := by
  rw [minTo_succ, hP.first]
  split <;> rfl
theorem minTo_stop {L : List Int} {b : Nat → Nat} {x k : Nat} (h : ∀ i, k ≤ i → i < L.length → x < cn L i) : ∀ d, k + d ≤ L.length → minTo L b x (k + d) = minTo L b x k
  | 0, _ => rfl
  | d + 1, hd => by
    show minTo L b x (k + d + 1) = _
    have := h (k + d) (by omega) (by omega)
    rw [minTo_succ, if_neg (by omega), minTo_stop h d (by omega)]
theorem minTo_min {L : List Int} {b : Nat → Nat} {x k : Nat} (h : cn L k ≤ x) : minTo L b x (k + 1) = min (minTo L b x k) (b (x - cn L k) + 1) := by
  rw [minTo_succ]
  by_cases e : b (x - cn L k) + 1 < minTo L b x k
  · rw [if_pos ⟨h, e⟩]; omega
  · rw [if_neg fun g => e g.2]; omega
theorem minTo_range {L : List Int} {b : Nat → Nat} {x : Nat} (k : Nat) (hx : 1 ≤ x) (hb : ∀ y, b y ≤ y) : minTo L b x k ≤ x := by
  have h1 := (minTo_le (L := L) (b := b) (x := x) k).1
  have h2 := hb (x - 1)
  omega
/-- The table of choices. -/
def cst (L : List Int) (x y : Nat) : Int := if y < x then choi L y else 0
def cin (L : List Int) (x v y : Nat) : Int := if y < x then choi L y else if y = x then v else 0
theorem chTo_zero {L : List Int} (hP : SysP L) (b : Nat → Nat) : ∀ k, k ≤ L.length → chTo L b 0 k = 0
  | 0, _ => rfl
  | k + 1, hk => by
    have := (hP.coin (k := k) (by omega)).2.1
    rw [chTo_succ, if_neg (by omega), chTo_zero hP b k (by omega)]
theorem cst_first {L : List Int} (hP : SysP L) (n : Nat) : List.replicate (n + 1) 0 = tb n (cst L 1) := tb_zeros fun y _ => by
  unfold cst
  split
  · obtain rfl : y = 0 := by omega
    unfold choi
    rw [chTo_zero hP _ _ (Nat.le_refl _)]; rfl
  · rfl
theorem cst_cin {L : List Int} {n x : Nat} : tb n (cst L x) = tb n (cin L x 0) := by
  refine tb_congr fun y hy => ?_
  unfold cst cin
  by_cases e : y < x
  · rw [if_pos e, if_pos e]
  · rw [if_neg e, if_neg e]
    split <;> rfl
theorem cin_set {L : List Int} {n x v : Nat} (h : x ≤ n) (u : Nat) : (tb n (cin L x v)).set x (u : Int) = tb n (cin L x u) := by
  refine tb_set_to h ?_ fun y hy e => ?_
  · unfold cin; rw [if_neg (by omega), if_pos rfl]
  · unfold cin; rw [if_neg e, if_neg e]
theorem cin_end {L : List Int} {n x : Nat} : tb n (cin L x (choi L x)) = tb n (cst L (x + 1)) := by
  refine tb_congr fun y hy => ?_
  unfold cin cst
  by_cases e : y < x
  · rw [if_pos e, if_pos (by omega)]
  · rw [if_neg e]
    by_cases e2 : y = x
    · subst e2; rw [if_pos rfl, if_pos (by omega)]
    · rw [if_neg e2, if_neg (by omega)]
theorem cst_all {L : List Int} {n : Nat} : tb n (cst L (n + 1)) = tb n (fun y => (choi L y : Int)) := tb_congr fun y hy => by unfold cst; rw [if_pos (by omega)]

/-! ### What the functions answer -/
def greA (L : List Int) (n : Int) : List Int := if sysB L = true ∧ 0 ≤ n ∧ n ≤ 1000 then gL L n.toNat else []
def fewC (L : List Int) (n : Int) : Int := if sysB L = true ∧ 0 ≤ n ∧ n ≤ 1000 then best L n.toNat else -1
theorem greA_yes {L : List Int} {n : Nat} (h : sysB L = true) (hn : n ≤ 1000) : greA L n = gL L n := by unfold greA; rw [if_pos ⟨h, by omega, by omega⟩, Int.toNat_natCast]
theorem greA_no {L : List Int} {n : Int} (h : ¬ (sysB L = true ∧ 0 ≤ n ∧ n ≤ 1000)) : greA L n = [] := if_neg h
theorem fewC_yes {L : List Int} {n : Nat} (h : sysB L = true) (hn : n ≤ 1000) : fewC L n = best L n := by unfold fewC; rw [if_pos ⟨h, by omega, by omega⟩, Int.toNat_natCast]
theorem fewC_no {L : List Int} {n : Int} (h : ¬ (sysB L = true ∧ 0 ≤ n ∧ n ≤ 1000)) : fewC L n = -1 := if_neg h
theorem greA_length (L : List Int) (n : Int) : (greA L n).length ≤ L.length := by
  unfold greA
  split
  · rw [gL_length]; exact Nat.le_refl _
  · exact Nat.zero_le _
theorem greA_six (L : List Int) (n : Int) : (greA L n).length ≤ 6 := by
  unfold greA
  split
  · rename_i h
    rw [gL_length]
    exact (sysB_P h.1).1.1.2
  · exact Nat.zero_le _
end Go.Proofs.Ytjjedicjaojkcaa
