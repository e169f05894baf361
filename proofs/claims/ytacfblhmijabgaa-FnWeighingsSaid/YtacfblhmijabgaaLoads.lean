/-
  The contracts of the model's load check, sign, weighing, counting, fairness and turning. Nothing but new memory is written.
-/
import Derived.Test.YtacfblhmijabgaaCoins
namespace Go.Proofs.Ytacfblhmijabgaa
open Go.ChangeShapes Go.WideShapes Go.ChangeAt Go.RowKit Go.PlainAid

def loadB (n : Int) (L : List Int) : Bool := decide (1 ≤ n ∧ n ≤ 12) && decide ((L.length : Int) = n) && signsB L

theorem specLoad_any (m : Int) (A : Option Addr) (c n : Nat) (L : List Int) (w : World) (hn : L.length = n) (hm : n ≤ 1000000000) (h : IntRow w A L) :
    Calls Try.prog 21 #[.int .i64 m, .slice A n c] w (Tells (loadB m L) w) := by
  by_cases h1 : 1 ≤ m ∧ m ≤ 12
  · have hI := in_to true m 1 12 w (decide_eq_true h1)
    by_cases h2 : (n : Int) = m
    · have hS := specSigns_any A c n L w hn hm h
      have hb : loadB m L = signsB L := by unfold loadB; rw [decide_eq_true h1, hn, decide_eq_true h2]; rfl
      have hend : Tells (loadB m L) w (.returned (.bool (signsB L))) w := ⟨by rw [hb], rfl⟩
      clear h hn h1 hb
      generalize signsB L = b at hS hend
      go_enter Try.func21, Try.ntmps21
      go_wp2_with fail
      refine hI.mono ?_
      rintro e w' ⟨rfl, rfl⟩
      go_wp2_with fail
      refine hS.mono ?_
      rintro e w' ⟨rfl, rfl⟩
      go_wp2_with fail
      go_ret
      exact hend
    · have hb : loadB m L = false := by unfold loadB; rw [hn, decide_eq_false h2, Bool.and_false, Bool.false_and]
      have hend : Tells (loadB m L) w (.returned (.bool false)) w := ⟨by rw [hb], rfl⟩
      clear h hn h1 hb
      go_enter Try.func21, Try.ntmps21
      go_wp2_with fail
      refine hI.mono ?_
      rintro e w' ⟨rfl, rfl⟩
      go_wp2_with fail
      go_ret
      exact hend
  · have hI := in_to false m 1 12 w (decide_eq_false h1)
    have hb : loadB m L = false := by unfold loadB; rw [decide_eq_false h1]; rfl
    have hend : Tells (loadB m L) w (.returned (.bool false)) w := ⟨by rw [hb], rfl⟩
    clear h hn h1 hb
    go_enter Try.func21, Try.ntmps21
    go_wp2_with fail
    refine hI.mono ?_
    rintro e w' ⟨rfl, rfl⟩
    go_wp2_with fail
    go_ret
    exact hend

def signI (n : Int) : Int := if 0 < n then 1 else if n < 0 then -1 else 0
theorem specSign_any (n : Int) (w : World) : Calls Try.prog 36 #[.int .i64 n] w fun e w' => e = .returned (.int .i64 (signI n)) ∧ w = w' := by
  by_cases h1 : 0 < n
  · have e : signI n = 1 := by unfold signI; rw [if_pos h1]
    rw [e]
    clear e
    go_enter Try.func36, Try.ntmps36
    go_wp2_with fail
    go_ret
    exact ⟨rfl, rfl⟩
  · by_cases h2 : n < 0
    · have e : signI n = -1 := by unfold signI; rw [if_neg h1, if_pos h2]
      rw [e]
      clear e
      go_enter Try.func36, Try.ntmps36
      go_wp2_with fail
      go_ret
      exact ⟨rfl, rfl⟩
    · have e : signI n = 0 := by unfold signI; rw [if_neg h1, if_neg h2]
      rw [e]
      clear e
      go_enter Try.func36, Try.ntmps36
      go_wp2_with fail
      go_ret
      exact ⟨rfl, rfl⟩

/-- The right pan less the left one, over the first k coins. -/
def dotTo (W L : List Int) : Nat → Int
  | 0 => 0
  | k + 1 => dotTo W L k + L.getD k 0 * W.getD k 0
def dot (W L : List Int) : Int := dotTo W L L.length

theorem mul_small {x y : Int} (h0 : -1 ≤ x) (h1 : x ≤ 1) (h2 : 0 ≤ y) (h3 : y ≤ 10000) : -10000 ≤ x * y ∧ x * y ≤ 10000 := by
  rcases (show x = -1 ∨ x = 0 ∨ x = 1 by omega) with rfl | rfl | rfl <;> omega

theorem dotTo_le {W L : List Int} (hW : ∀ j, j < W.length → 0 ≤ W.getD j 0 ∧ W.getD j 0 ≤ 10000) (hL : ∀ j, j < L.length → -1 ≤ L.getD j 0 ∧ L.getD j 0 ≤ 1) : ∀ k, k ≤ W.length → k ≤ L.length → -(10000 * (k : Int)) ≤ dotTo W L k ∧ dotTo W L k ≤ 10000 * (k : Int)
  | 0, _, _ => by simp [dotTo]
  | k + 1, h1, h2 => by
    have ih := dotTo_le hW hL k (by omega) (by omega)
    have a := hW k (by omega)
    have b := hL k (by omega)
    have m := mul_small b.1 b.2 a.1 a.2
    show -(10000 * ((k + 1 : Nat) : Int)) ≤ dotTo W L k + L.getD k 0 * W.getD k 0 ∧ dotTo W L k + L.getD k 0 * W.getD k 0 ≤ 10000 * ((k + 1 : Nat) : Int)
    omega

def weighB (W L : List Int) : Bool := coinsB W && loadB W.length L
def weighI (W L : List Int) : Int := if weighB W L then signI (dot W L) else 0
/-- An int and a bool are answered, only new memory is written. -/
def SaysIB (x : Int) (b : Bool) (w : World) (e : Ending) (w' : World) : Prop := e = .returned (.tuple #[.int .i64 x, .bool b]) ∧ Below w.heap.size w w'

theorem specWeigh_any (A A' : Option Addr) (c c' n n' : Nat) (W L : List Int) (w : World) (hn : W.length = n) (hn' : L.length = n') (hm : n ≤ 1000000000) (hm' : n' ≤ 1000000000) (h : IntRow w A W) (h' : IntRow w A' L) :
    Calls Try.prog 23 #[.slice A n c, .slice A' n' c'] w (SaysIB (weighI W L) (weighB W L) w) := by
  have hC := specCoins_any A c n W w hn hm h
  cases hc : coinsB W
  · have hend : ∀ w', Below w.heap.size w w' → SaysIB (weighI W L) (weighB W L) w (.returned (.tuple #[.int .i64 0, .bool false])) w' := fun w' b => ⟨by unfold weighI weighB; rw [hc]; rfl, b⟩
    rw [hc] at hC
    clear hc h h' hn hn'
    go_enter Try.func23, Try.ntmps23
    go_wp2_with fail
    refine hC.mono ?_
    rintro e w1 ⟨rfl, b1⟩
    replace hend := hend _ b1
    clear hC
    go_wp2_with fail
    go_ret2
    exact hend
  · rw [hc] at hC
    have hLo := fun W => specLoad_any (n : Int) A' c' n' L W hn' hm'
    cases hl : loadB (n : Int) L
    · have hend : ∀ w', Below w.heap.size w w' → SaysIB (weighI W L) (weighB W L) w (.returned (.tuple #[.int .i64 0, .bool false])) w' := fun w' b => ⟨by unfold weighI weighB; rw [hc, hn, hl]; rfl, b⟩
      rw [hl] at hLo
      clear hc hn hn' hl
      go_enter Try.func23, Try.ntmps23
      go_wp2_with fail
      refine hC.mono ?_
      rintro e w1 ⟨rfl, b1⟩
      replace hend := hend _ b1
      have hL1 := hLo w1 (h'.keep b1)
      clear hC h h' hLo
      go_wp2_with fail
      refine hL1.mono ?_
      rintro e w2 ⟨rfl, rfl⟩
      clear hL1
      go_wp2_with fail
      go_ret2
      exact hend
    · have hcc : allIn 0 10000 W = true ∧ n ≤ 12 := by
        unfold coinsB at hc
        simp only [Bool.and_eq_true, decide_eq_true_eq] at hc
        exact ⟨hc.1, by omega⟩
      have hll : signsB L = true ∧ n' = n := by
        unfold loadB at hl
        simp only [Bool.and_eq_true, decide_eq_true_eq] at hl
        exact ⟨hl.2, by omega⟩
      obtain ⟨hll, rfl⟩ := hll
      have hW := allIn_iff.1 hcc.1
      have hL := allIn_iff.1 hll
      have hlim := hcc.2
      have hS := specSign_any (dot W L)
      have hend : ∀ w', Below w.heap.size w w' → SaysIB (weighI W L) (weighB W L) w (.returned (.tuple #[.int .i64 (signI (dot W L)), .bool true])) w' := fun w' b => ⟨by unfold weighI weighB; rw [hc, hn, hl]; rfl, b⟩
      have hd : dot W L = dotTo W L n' := by unfold dot; rw [hn']
      rw [hd] at hS hend
      rw [hl] at hLo
      clear hc hl hll hcc hd
      go_enter Try.func23, Try.ntmps23
      go_wp2_with fail
      refine hC.mono ?_
      rintro e w1 ⟨rfl, b1⟩
      have hL1 := hLo w1 (h'.keep b1)
      have r := h.keep b1
      have r' := h'.keep b1
      clear hC h h' hLo
      go_wp2_with fail
      refine hL1.mono ?_
      rintro e w2 ⟨rfl, rfl⟩
      clear hL1
      go_wp2_with fail
      go_loopw [6, 7] (fun s i wr => ∃ k q : Nat, k ≤ n' ∧ i = .int .i64 k ∧ s = .int .i64 (dotTo W L k) ∧ wr = w1.drewN q) (fun _ i _ => n' - (intOf i).toNat)
      case atStart => exact ⟨0, 0, by omega, rfl, rfl, rfl⟩
      case round =>
        obtain ⟨k, q, hk, rfl, rfl, rfl⟩ := hrel
        by_cases hlt : k < n'
        · obtain ⟨x, rfl, -, hx⟩ := r k (by omega)
          obtain ⟨y, rfl, -, hy⟩ := r' k (by omega)
          have hb := dotTo_le hW hL k (by omega) (by omega)
          have a := hW k (by omega)
          have b := hL k (by omega)
          have m := mul_small b.1 b.2 a.1 a.2
          have he : dotTo W L (k + 1) = dotTo W L k + L.getD k 0 * W.getD k 0 := rfl
          clear hend hS hW hL r r' a b
          generalize W.getD k 0 = u at hx m he
          generalize L.getD k 0 = v at hy m he
          generalize hp : v * u = p at m he
          generalize dotTo W L k = d at hb he
          go_wp2
          go_quiet (fail)
          go_wp2
          go_roundw
          case rel => exact ⟨k + 1, _, by omega, by go_num, by rw [he], rfl⟩
          case measure => simp [intOf]; omega
        · obtain rfl : k = n' := by omega
          have he := hend _ (below_drewN b1 q)
          have hS1 := hS (w1.drewN q)
          clear hend hS hW hL r r' b1
          generalize dotTo W L k = d at hS1 he
          go_wp2_with fail
          refine hS1.mono ?_
          rintro e w3 ⟨rfl, rfl⟩
          clear hS1
          go_wp2
          go_ret2
          exact he

/-- How many of the first k are x. -/
def cntTo (L : List Int) (x : Int) : Nat → Int
  | 0 => 0
  | k + 1 => cntTo L x k + if L.getD k 0 = x then 1 else 0
theorem cntTo_le (L : List Int) (x : Int) : ∀ k, 0 ≤ cntTo L x k ∧ cntTo L x k ≤ k
  | 0 => by simp [cntTo]
  | k + 1 => by
    have ih := cntTo_le L x k
    show 0 ≤ cntTo L x k + (if L.getD k 0 = x then 1 else 0) ∧ cntTo L x k + (if L.getD k 0 = x then 1 else 0) ≤ ((k + 1 : Nat) : Int)
    split <;> omega
def cnt (L : List Int) (x : Int) : Int := cntTo L x L.length
/-- Two ints are answered, the world is as it was but for draws. -/
def Tells2 (x y : Int) (w : World) (e : Ending) (w' : World) : Prop := e = .returned (.tuple #[.int .i64 x, .int .i64 y]) ∧ ∃ q, w' = w.drewN q

theorem specCount_any (A : Option Addr) (c n : Nat) (L : List Int) (w : World) (hn : L.length = n) (hm : n ≤ 1000000000) (h : IntRow w A L) :
    Calls Try.prog 24 #[.slice A n c] w (Tells2 (cnt L 1) (cnt L (-1)) w) := by
  have hend : Tells2 (cnt L 1) (cnt L (-1)) w (.returned (.tuple #[.int .i64 (cntTo L 1 n), .int .i64 (cntTo L (-1) n)])) w := ⟨by unfold cnt; rw [hn], 0, rfl⟩
  go_enter Try.func24, Try.ntmps24
  go_wp2
  go_loopw [4, 5, 6] (fun a b i wr => ∃ k : Nat, k ≤ n ∧ i = .int .i64 k ∧ a = .int .i64 (cntTo L 1 k) ∧ b = .int .i64 (cntTo L (-1) k) ∧ w = wr) (fun _ _ i _ => n - (intOf i).toNat)
  case atStart => exact ⟨0, by omega, rfl, rfl, rfl, rfl⟩
  case round =>
    obtain ⟨k, hk, rfl, rfl, rfl, rfl⟩ := hrel
    by_cases hlt : k < n
    · obtain ⟨x, rfl, -, hx⟩ := h k (by omega)
      have l1 := cntTo_le L 1 k
      have l2 := cntTo_le L (-1) k
      have e1 : cntTo L 1 (k + 1) = cntTo L 1 k + if L.getD k 0 = 1 then 1 else 0 := rfl
      have e2 : cntTo L (-1) (k + 1) = cntTo L (-1) k + if L.getD k 0 = -1 then 1 else 0 := rfl
      clear h hend
      generalize L.getD k 0 = z at hx e1 e2
      generalize cntTo L 1 k = p at l1 e1
      generalize cntTo L (-1) k = q at l2 e2
      by_cases z1 : z = 1
      · subst z1
        rw [if_pos rfl] at e1
        rw [if_neg (by decide)] at e2
        go_wp2
        go_roundw
        case rel => exact ⟨k + 1, by omega, by go_num, by rw [e1], by rw [e2, Int.add_zero], by first | rfl | trivial⟩
        case measure => simp [intOf]; omega
      · by_cases z2 : z = -1
        · subst z2
          rw [if_neg (by decide)] at e1
          rw [if_pos rfl] at e2
          go_wp2
          go_roundw
          case rel => exact ⟨k + 1, by omega, by go_num, by rw [e1, Int.add_zero], by rw [e2], by first | rfl | trivial⟩
          case measure => simp [intOf]; omega
        · rw [if_neg z1] at e1
          rw [if_neg z2] at e2
          go_wp2
          go_roundw
          case rel => exact ⟨k + 1, by omega, by go_num, by rw [e1, Int.add_zero], by rw [e2, Int.add_zero], by first | rfl | trivial⟩
          case measure => simp [intOf]; omega
    · obtain rfl : k = n := by omega
      clear h
      go_wp2
      go_ret2
      exact hend

def fairB (m : Int) (L : List Int) : Bool := loadB m L && decide (cnt L 1 = cnt L (-1)) && decide (0 < cnt L 1)

theorem specFair_any (m : Int) (A : Option Addr) (c n : Nat) (L : List Int) (w : World) (hn : L.length = n) (hm : n ≤ 1000000000) (h : IntRow w A L) :
    Calls Try.prog 25 #[.int .i64 m, .slice A n c] w (SaysB (fairB m L) w) := by
  have hC := specCount_any A c n L w hn hm h
  have hLo := fun W => specLoad_any m A c n L W hn hm
  have hend : ∀ w' b, Below w.heap.size w w' → b = fairB m L → SaysB (fairB m L) w (.returned (.bool b)) w' := fun w' b k e => ⟨by rw [e], k⟩
  unfold fairB at hend ⊢
  generalize loadB m L = o at hLo hend
  generalize cnt L 1 = p at hC hend
  generalize cnt L (-1) = q at hC hend
  go_enter Try.func25, Try.ntmps25
  go_wp2_with fail
  refine hC.mono ?_
  rintro e w1 ⟨rfl, r, rfl⟩
  have hL1 := hLo (w.drewN r) h
  have hend1 := fun b => hend (w.drewN r) b (below_drewN (Below.refl _ _) r)
  clear hC hLo h hend
  cases o
  · go_wp2_with fail
    refine hL1.mono ?_
    rintro e w2 ⟨rfl, rfl⟩
    have he := hend1 false rfl
    clear hL1 hend1
    go_wp2_with fail
    go_ret
    exact he
  · by_cases h1 : p = q
    · have he := hend1 (decide (0 < p)) (by rw [decide_eq_true h1]; rfl)
      subst h1
      clear hend1
      go_wp2_with fail
      refine hL1.mono ?_
      rintro e w2 ⟨rfl, rfl⟩
      clear hL1
      go_wp2_with fail
      go_ret
      exact he
    · have he := hend1 false (by rw [decide_eq_false h1]; rfl)
      clear hend1
      go_wp2_with fail
      refine hL1.mono ?_
      rintro e w2 ⟨rfl, rfl⟩
      clear hL1
      go_wp2_with fail
      go_ret
      exact he
end Go.Proofs.Ytacfblhmijabgaa
