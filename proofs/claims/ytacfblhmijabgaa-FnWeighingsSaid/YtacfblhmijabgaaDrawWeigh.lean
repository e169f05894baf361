/-
  The draw of a weighing: valid coins and a valid load, in memory of the call's own; and what weighing says of turned loads and of equally heavier coins.
-/
import Derived.Test.YtacfblhmijabgaaDrawCoins
import Derived.Test.YtacfblhmijabgaaTurn
namespace Go.Proofs.Ytacfblhmijabgaa
open Go.ChangeShapes Go.WideShapes Go.ChangeAt Go.RowKit Go.PlainAid

def DrawnWL (B : Nat) (w : World) (e : Ending) (w' : World) : Prop :=
  ∃ (A : Option Addr) (c : Nat) (W : List Int) (A' : Option Addr) (c' : Nat) (L : List Int), 1 ≤ W.length ∧ W.length ≤ 8 ∧ L.length = W.length ∧ (∀ z ∈ W, 0 ≤ z ∧ z ≤ 29) ∧ (∀ z ∈ L, -1 ≤ z ∧ z ≤ 1) ∧
    e = .returned (.tuple #[.slice A W.length c, .slice A' L.length c']) ∧ IntRow w' A W ∧ IntRow w' A' L ∧ Below B w w'

theorem drawWeighing_any (B : Nat) (a : Option Addr) (len cap : Nat) (w : World) (hB : B = w.heap.size) (hl : len ≤ 1048576) (hr : Bytes w w.heap.size a len) :
    Calls Try.prog 11 #[.slice a len cap] w (DrawnWL B w) := by
  go_enter Try.func11, Try.ntmps11
  go_wp2_with fail
  refine (new_any a len cap w hl hr).mono ?_
  rintro e w0 ⟨rfl, C0, b0, s0⟩
  have bel : ∀ w2 : World, w0.grownBy w2 (some w.heap.size) → Below B w w2 := fun w2 g => hB ▸ b0.trans (below_of_grown g (Nat.le_refl _) (by omega))
  have hp0 : w.heap.size < w0.heap.size := by omega
  clear b0 s0 hr hl hB
  generalize w.heap.size = p at C0 bel hp0 ⊢
  go_wp2_with fail
  refine (coinsDraw_any p len cap a _ C0).mono ?_
  rintro e w1 ⟨A, c, W, ⟨n1, n2⟩, hW, rfl, C1, o1, g1⟩
  have hL := loadDraw_any W.length p len cap (by omega) a w1 C1
  have hs1 := g1.size
  have n1' : (0 : Int) ≤ W.length := by omega
  clear C0 C1
  go_wp2_with fail
  refine hL.mono ?_
  rintro e w2 ⟨A', c', L, hn, hL2, rfl, C2, o2, g2⟩
  have o1' : w2.ownsRow w0.heap.size 3 1 (.slice A W.length c) W.length (ints W) := o1.kept g2 (by
    rcases q : (Value.slice A W.length c).ownBlock with _ | k
    · exact .inl rfl
    · refine .inr fun h => ?_
      injection h with h
      have := (o1.lt k q).1
      omega)
  have hend : DrawnWL B w (.returned (.tuple #[.slice A W.length c, .slice A' L.length c'])) w2 := ⟨A, c, W, A', c', L, n1, n2, hn, hW, hL2, rfl, intRow_own o1', intRow_own o2, bel _ (grown_trans g1 g2)⟩
  clear hL o1 o2 o1' g1 g2 hW hL2 bel n1 n2 n1' hn C2 hs1 hp0
  go_wp2_with fail
  go_ret2
  exact hend

theorem getD_of_mem {Q : Int → Prop} {L : List Int} (h : ∀ z ∈ L, Q z) : ∀ j, j < L.length → Q (L.getD j 0) := fun j hj => by
  rw [List.getD_eq_getElem?_getD, List.getElem?_eq_getElem hj]
  exact h _ (List.getElem_mem hj)

/-! ### What weighing says -/
theorem negs_get (L : List Int) (j : Nat) : (negs L).getD j 0 = -(L.getD j 0) := by
  unfold negs
  rw [List.getD_eq_getElem?_getD, List.getD_eq_getElem?_getD, List.getElem?_map]
  cases L[j]? <;> rfl
theorem dotTo_negs (W L : List Int) : ∀ k, dotTo W (negs L) k = -dotTo W L k
  | 0 => rfl
  | k + 1 => by
    show dotTo W (negs L) k + (negs L).getD k 0 * W.getD k 0 = -(dotTo W L k + L.getD k 0 * W.getD k 0)
    rw [dotTo_negs W L k, negs_get, Int.neg_mul]
    omega
theorem signI_neg (n : Int) : signI (-n) = -signI n := by
  unfold signI
  by_cases h1 : 0 < n
  · rw [if_neg (by omega), if_pos (by omega), if_pos h1]
  · by_cases h2 : n < 0
    · rw [if_pos (by omega), if_neg h1, if_pos h2]; rfl
    · rw [if_neg (by omega), if_neg (by omega), if_neg h1, if_neg h2]; rfl
def more (W : List Int) : List Int := W.map fun z => z + 7
theorem more_length (W : List Int) : (more W).length = W.length := by simp [more]
theorem more_get {W : List Int} {j : Nat} (h : j < W.length) : (more W).getD j 0 = W.getD j 0 + 7 := by
  unfold more
  rw [List.getD_eq_getElem?_getD, List.getD_eq_getElem?_getD, List.getElem?_map, List.getElem?_eq_getElem h]
  rfl
theorem more_take {W : List Int} {k : Nat} (h : k < W.length) : more (W.take (k + 1)) = more (W.take k) ++ [W.getD k 0 + 7] := by
  unfold more
  rw [List.take_succ_eq_append_getElem h, List.map_append, List.getD_eq_getElem?_getD, List.getElem?_eq_getElem h]; rfl
theorem dotTo_more {W L : List Int} (hL : ∀ j, j < L.length → -1 ≤ L.getD j 0 ∧ L.getD j 0 ≤ 1) : ∀ k, k ≤ W.length → k ≤ L.length → dotTo (more W) L k = dotTo W L k + 7 * (cntTo L 1 k - cntTo L (-1) k)
  | 0, _, _ => rfl
  | k + 1, h1, h2 => by
    have ih := dotTo_more (W := W) hL k (by omega) (by omega)
    have a := hL k (by omega)
    show dotTo (more W) L k + L.getD k 0 * (more W).getD k 0 = dotTo W L k + L.getD k 0 * W.getD k 0 + 7 * (cntTo L 1 k + (if L.getD k 0 = 1 then 1 else 0) - (cntTo L (-1) k + if L.getD k 0 = -1 then 1 else 0))
    rw [ih, more_get (W := W) (j := k) (by omega), Int.mul_add]
    generalize L.getD k 0 = z at a
    rcases (show z = -1 ∨ z = 0 ∨ z = 1 by omega) with rfl | rfl | rfl <;> simp <;> omega

theorem coinsB_yes {W : List Int} (h0 : 1 ≤ W.length) (h1 : W.length ≤ 12) (h : ∀ j, j < W.length → 0 ≤ W.getD j 0 ∧ W.getD j 0 ≤ 10000) : coinsB W = true := by
  unfold coinsB
  rw [allIn_iff.2 h, decide_eq_true ⟨by omega, by omega⟩]; rfl
theorem loadB_yes {n : Nat} {L : List Int} (h0 : 1 ≤ n) (h1 : n ≤ 12) (h2 : L.length = n) (h : signsB L = true) : loadB n L = true := by
  unfold loadB
  rw [h, decide_eq_true ⟨by omega, by omega⟩, decide_eq_true (by omega)]; rfl
theorem signsB_negs {L : List Int} (h : signsB L = true) : signsB (negs L) = true :=
  allIn_iff.2 fun j hj => by
    rw [negs_length] at hj
    have := allIn_iff.1 h j hj
    rw [negs_get]
    omega
theorem negs_negs (L : List Int) : negs (negs L) = L := by
  unfold negs
  rw [List.map_map]
  have : ((fun z : Int => -z) ∘ fun z => -z) = id := by funext z; simp
  rw [this, List.map_id]
end Go.Proofs.Ytacfblhmijabgaa
