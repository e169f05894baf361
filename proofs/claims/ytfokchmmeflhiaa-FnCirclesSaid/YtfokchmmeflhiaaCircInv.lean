/-
  A set of marks that measures every arc once still does when it is turned or stretched. Ints and lists only, no program's walk; that a number without a common divisor has an inverse is reckoned for circles of at most 31.
-/
import Derived.Test.YtfokchmmeflhiaaCircTurn
namespace Go.Proofs.Ytfokchmmeflhiaa

theorem CircP.range {n : Int} {L : List Int} (h : CircP n L) {a : Int} (ha : a ∈ L) : 0 ≤ a ∧ a < n := by
  obtain ⟨j, hj, rfl⟩ := List.mem_iff_getElem.1 ha
  have := h.2 j hj
  unfold FineC at this
  rw [List.getD_eq_getElem?_getD, List.getElem?_eq_getElem hj] at this
  exact ⟨this.1.1, this.2.1⟩
theorem CircP.pair {n : Int} {L : List Int} (h : CircP n L) : L.Pairwise fun a b => a ≠ b := by
  refine List.pairwise_iff_getElem.2 fun i j hi hj hij => ?_
  have := h.asc hij hj
  rw [List.getD_eq_getElem?_getD, List.getD_eq_getElem?_getD, List.getElem?_eq_getElem hi, List.getElem?_eq_getElem hj] at this
  simp only [Option.getD_some] at this
  omega
theorem circ_sorted {n : Int} {M : List Int} (hn : 1 ≤ n ∧ n ≤ 60) (hl : 1 ≤ M.length ∧ M.length ≤ 8) (hr : ∀ z ∈ M, 0 ≤ z ∧ z < n) (hp : M.Pairwise fun a b => a ≠ b) : CircP n (sortL M) := by
  refine ⟨⟨hn, by rw [sortL_length]; exact hl⟩, fun j hj => ?_⟩
  have hr2 : ∀ i, i < (sortL M).length → 0 ≤ (sortL M).getD i 0 ∧ (sortL M).getD i 0 < n := fun i hi => by
    rw [List.getD_eq_getElem?_getD, List.getElem?_eq_getElem hi]
    exact hr _ ((sortL_perm M).mem_iff.1 (List.getElem_mem hi))
  have hnd : (sortL M).Nodup := (sortL_perm M).symm.nodup hp
  have h1 := hr2 j hj
  refine ⟨by omega, h1.2, fun h0 => ?_⟩
  have h2 := sortL_sorted M (j - 1) j (by omega) hj
  have h3 : (sortL M).getD (j - 1) 0 ≠ (sortL M).getD j 0 := by
    have := List.pairwise_iff_getElem.1 hnd (j - 1) j (by omega) hj (by omega)
    rw [List.getD_eq_getElem?_getD, List.getD_eq_getElem?_getD, List.getElem?_eq_getElem hj, List.getElem?_eq_getElem (show j - 1 < (sortL M).length by omega)]
    exact this
  omega
/-- The arc between two marks that were moved. -/
theorem moved_arc (n f b x y : Int) : ((y * f + b) % n - (x * f + b) % n + n) % n = (((y - x + n) % n) * f) % n := by
  rw [Int.add_emod_right, Int.emod_sub_emod, Int.sub_emod_emod, Int.add_emod_right]
  rw [Int.mul_emod ((y - x) % n), Int.emod_emod, ← Int.mul_emod, Int.sub_mul]
  congr 1
  omega
/-- Marks that are moved by a map that is one to one. -/
theorem moved_circ {n f b : Int} {L : List Int} (h : CircP n L) (hf : ∀ x y, 0 ≤ x → x < n → 0 ≤ y → y < n → (x * f + b) % n = (y * f + b) % n → x = y) : CircP n (sortL (movL n f b L)) := by
  have hn := h.1.1
  refine circ_sorted hn (by rw [movL_len]; exact h.1.2) (fun z hz => ?_) ?_
  · obtain ⟨x, -, rfl⟩ := List.mem_map.1 hz
    exact ⟨Int.emod_nonneg _ (by omega), Int.emod_lt_of_pos _ (by omega)⟩
  · unfold movL
    rw [List.pairwise_map]
    exact h.pair.imp_of_mem fun {x y} hx hy hne e => hne (hf x y (h.range hx).1 (h.range hx).2 (h.range hy).1 (h.range hy).2 e)
/-- The counts of marks that are moved: an arc d becomes e. -/
theorem moved_hits {n f b : Int} {L : List Int} (h : CircP n L) (hf : ∀ x y, 0 ≤ x → x < n → 0 ≤ y → y < n → (x * f + b) % n = (y * f + b) % n → x = y)
    {d e : Int} (hd : ∀ a, 0 ≤ a → a < n → ((a * f) % n = e ↔ a = d)) : hits n (sortL (movL n f b L)) e = hits n L d := by
  rw [hits_perm (sortL_perm _)]
  have hn := h.1.1
  refine hits_map fun x hx y hy => ?_
  have e1 : ((x * f + b) % n ≠ (y * f + b) % n) ↔ x ≠ y := not_congr ⟨hf x y (h.range hx).1 (h.range hx).2 (h.range hy).1 (h.range hy).2, fun g => by rw [g]⟩
  have e2 : (((y * f + b) % n - (x * f + b) % n + n) % n = e) ↔ ((y - x + n) % n = d) := by
    rw [moved_arc]
    exact hd _ (Int.emod_nonneg _ (by omega)) (Int.emod_lt_of_pos _ (by omega))
  unfold hit
  by_cases g : x ≠ y ∧ (y - x + n) % n = d
  · rw [if_pos g, if_pos ⟨e1.2 g.1, e2.2 g.2⟩]
  · rw [if_neg g, if_neg fun g' => g ⟨e1.1 g'.1, e2.1 g'.2⟩]
theorem turn_one {n b : Int} (x y : Int) (hx : 0 ≤ x) (hx2 : x < n) (hy : 0 ≤ y) (hy2 : y < n) (h : (x * 1 + b) % n = (y * 1 + b) % n) : x = y := by
  rw [Int.mul_one, Int.mul_one] at h
  have h2 := Int.emod_eq_emod_iff_emod_sub_eq_zero.1 h
  rw [show x + b - (y + b) = x - y by omega] at h2
  have h3 := Int.emod_eq_emod_iff_emod_sub_eq_zero.2 h2
  rw [Int.emod_eq_of_lt hx hx2, Int.emod_eq_of_lt hy hy2] at h3
  exact h3
theorem turn_circ {n b : Int} {L : List Int} (h : CircP n L) : CircP n (sortL (movL n 1 b L)) := moved_circ h turn_one
theorem turn_arcs {n b : Int} {L : List Int} (h : CircP n L) : arcsL n (sortL (movL n 1 b L)) = arcsL n L :=
  arcs_same (turn_circ h) h fun d => moved_hits h turn_one fun a h0 h1 => by rw [Int.mul_one, Int.emod_eq_of_lt h0 h1]
theorem dif_same {n : Int} {L M : List Int} (hL : CircP n L) (hM : CircP n M) (h : 1 < n → ((∀ d, d < n.toNat → 0 < d → (arcsL n L).getD d 0 = 1) ↔ (∀ d, d < n.toNat → 0 < d → (arcsL n M).getD d 0 = 1))) : difB n L = difB n M := by
  have c1 : circB n L = true := decide_eq_true hL
  have c2 : circB n M = true := decide_eq_true hM
  rw [Bool.eq_iff_iff]
  constructor
  · intro g
    obtain ⟨-, h1, h2⟩ := difB_P g
    exact difB_yes c2 h1 ((h h1).1 h2)
  · intro g
    obtain ⟨-, h1, h2⟩ := difB_P g
    exact difB_yes c1 h1 ((h h1).2 h2)
theorem turn_dif {n b : Int} {L : List Int} (h : CircP n L) : difB n (sortL (movL n 1 b L)) = difB n L :=
  dif_same (turn_circ h) h fun _ => by rw [turn_arcs h]

theorem inverse_nat : ∀ n : Nat, n < 32 → ∀ m : Nat, m < n → Nat.gcd m n = 1 → ∃ c, c < n ∧ m * c % n = 1 % n := by decide +kernel
theorem inverse_int {n m : Int} (hn : 1 ≤ n ∧ n ≤ 31) (hm : 1 ≤ m ∧ m < n) (hg : Int.gcd m n = 1) : ∃ c : Int, m * c % n = 1 % n := by
  obtain ⟨N, rfl⟩ := Int.eq_ofNat_of_zero_le (a := n) (by omega)
  obtain ⟨M, rfl⟩ := Int.eq_ofNat_of_zero_le (a := m) (by omega)
  obtain ⟨c, -, hc⟩ := inverse_nat N (by omega) M (by omega) hg
  refine ⟨c, ?_⟩
  have := congrArg (fun x : Nat => (x : Int)) hc
  simpa using this
theorem inv_mul {n m c d : Int} (h : m * c % n = 1 % n) : ((d * m) % n * c) % n = d % n := by
  rw [Int.mul_emod ((d * m) % n), Int.emod_emod, ← Int.mul_emod, Int.mul_assoc, Int.mul_emod d, h, ← Int.mul_emod, Int.mul_one]
theorem str_one {n m c : Int} (h : m * c % n = 1 % n) (x y : Int) (hx : 0 ≤ x) (hx2 : x < n) (hy : 0 ≤ y) (hy2 : y < n) (e : (x * m) % n = (y * m) % n) : x = y := by
  have e1 := inv_mul (d := x) h
  have e2 := inv_mul (d := y) h
  rw [e, e2, Int.emod_eq_of_lt hy hy2, Int.emod_eq_of_lt hx hx2] at e1
  exact e1.symm
theorem str_one0 {n m c : Int} (h : m * c % n = 1 % n) (x y : Int) (hx : 0 ≤ x) (hx2 : x < n) (hy : 0 ≤ y) (hy2 : y < n) (e : (x * m + 0) % n = (y * m + 0) % n) : x = y := by
  rw [Int.add_zero, Int.add_zero] at e
  exact str_one h x y hx hx2 hy hy2 e
theorem str_circ {n m : Int} {L : List Int} (h : CircP n L) (hn : n ≤ 31) (hm : 1 ≤ m ∧ m < n) (hg : Int.gcd m n = 1) : CircP n (sortL (movL n m 0 L)) := by
  obtain ⟨c, hc⟩ := inverse_int ⟨h.1.1.1, hn⟩ hm hg
  exact moved_circ h (str_one0 hc)
theorem str_get {n m c : Int} {L : List Int} (h : CircP n L) (hc : m * c % n = 1 % n) {d : Int} (h0 : 0 ≤ d) (h1 : d < n) : hits n (sortL (movL n m 0 L)) (d * m % n) = hits n L d :=
  moved_hits h (str_one0 hc) fun a a0 a1 => ⟨fun e => str_one hc a d a0 a1 h0 h1 e, fun e => by rw [e]⟩
theorem str_dif {n m : Int} {L : List Int} (h : CircP n L) (hn : n ≤ 31) (hm : 1 ≤ m ∧ m < n) (hg : Int.gcd m n = 1) : difB n (sortL (movL n m 0 L)) = difB n L := by
  obtain ⟨c, hc⟩ := inverse_int ⟨h.1.1.1, hn⟩ hm hg
  have hM : CircP n (sortL (movL n m 0 L)) := moved_circ h (str_one0 hc)
  have hc2 : c * m % n = 1 % n := by rw [Int.mul_comm]; exact hc
  refine dif_same hM h fun hn1 => ⟨fun g d hd h0 => ?_, fun g d hd h0 => ?_⟩
  · -- the arc d becomes d * m
    have e0 := Int.emod_nonneg ((d : Int) * m) (b := n) (by omega)
    have e1 := Int.emod_lt_of_pos ((d : Int) * m) (b := n) (by omega)
    have e2 : (d : Int) * m % n ≠ 0 := fun e => by
      have := str_one hc (d : Int) 0 (by omega) (by omega) (by omega) (by omega) (by rw [e, Int.zero_mul, Int.zero_emod])
      omega
    have := g ((d : Int) * m % n).toNat (by omega) (by omega)
    rw [hM.get, show (((((d : Int) * m % n).toNat : Nat)) : Int) = (d : Int) * m % n by omega, str_get h hc (by omega) (by omega)] at this
    rw [h.get]
    exact this
  · -- the arc d comes from d * c
    have e0 := Int.emod_nonneg ((d : Int) * c) (b := n) (by omega)
    have e1 := Int.emod_lt_of_pos ((d : Int) * c) (b := n) (by omega)
    have e3 : ((d : Int) * c % n) * m % n = (d : Int) := by rw [inv_mul hc2, Int.emod_eq_of_lt (by omega) (by omega)]
    have e2 : (d : Int) * c % n ≠ 0 := fun e => by
      rw [e, Int.zero_mul, Int.zero_emod] at e3
      omega
    have := g ((d : Int) * c % n).toNat (by omega) (by omega)
    rw [h.get, show (((((d : Int) * c % n).toNat : Nat)) : Int) = (d : Int) * c % n by omega] at this
    rw [hM.get]
    have e4 := str_get h hc e0 e1
    rw [e3] at e4
    rw [e4]
    exact this
end Go.Proofs.Ytfokchmmeflhiaa
