/-
  The contracts of the model's checks of coins and loads. Nothing is written.
-/
import Derived.Test.YtacfblhmijabgaaInts
namespace Go.Proofs.Ytacfblhmijabgaa
open Go.ChangeShapes Go.WideShapes Go.ChangeAt Go.RowKit Go.PlainAid

/-- All of these ints are in the range. -/
def allIn (lo hi : Int) (L : List Int) : Bool := L.all fun z => decide (lo ≤ z ∧ z ≤ hi)
theorem allIn_iff {lo hi : Int} {L : List Int} : allIn lo hi L = true ↔ ∀ j, j < L.length → lo ≤ L.getD j 0 ∧ L.getD j 0 ≤ hi := by
  unfold allIn
  rw [List.all_eq_true]
  constructor
  · intro h j hj
    have := h _ (List.getElem_mem hj)
    rw [List.getD_eq_getElem?_getD, List.getElem?_eq_getElem hj]
    simpa using this
  · intro h z hz
    obtain ⟨j, hj, rfl⟩ := List.mem_iff_getElem.1 hz
    have := h j hj
    rw [List.getD_eq_getElem?_getD, List.getElem?_eq_getElem hj] at this
    simpa using this
theorem allIn_no {lo hi : Int} {L : List Int} {j : Nat} (hj : j < L.length) (h : ¬ (lo ≤ L.getD j 0 ∧ L.getD j 0 ≤ hi)) : allIn lo hi L = false := by
  rcases e : allIn lo hi L with _ | _
  · rfl
  · exact absurd (allIn_iff.1 e j hj) h

/-- A bool is answered, only new memory is written. -/
def SaysB (x : Bool) (w : World) (e : Ending) (w' : World) : Prop := e = .returned (.bool x) ∧ Below w.heap.size w w'

/-- A bool is answered, the world is as it was. -/
def Tells (x : Bool) (w : World) (e : Ending) (w' : World) : Prop := e = .returned (.bool x) ∧ w = w'

theorem below_more {B : Nat} {a b c : World} (h : Below B a b) (hB : B ≤ b.heap.size) (g : Below b.heap.size b c) : Below B a c := h.trans (g.mono hB)

theorem in_any (n lo hi : Int) (w : World) : Calls Try.prog 34 #[.int .i64 n, .int .i64 lo, .int .i64 hi] w fun e w' => e = .returned (.bool (decide (lo ≤ n ∧ n ≤ hi))) ∧ w = w' := by
  by_cases h1 : lo ≤ n
  · by_cases h2 : n ≤ hi
    · rw [decide_eq_true ⟨h1, h2⟩]
      go_enter Try.func34, Try.ntmps34
      go_wp2_with fail
      go_ret
      exact ⟨rfl, rfl⟩
    · rw [decide_eq_false (fun h => h2 h.2)]
      go_enter Try.func34, Try.ntmps34
      go_wp2_with fail
      go_ret
      exact ⟨rfl, rfl⟩
  · rw [decide_eq_false (fun h => h1 h.1)]
    go_enter Try.func34, Try.ntmps34
    go_wp2_with fail
    go_ret
    exact ⟨rfl, rfl⟩
theorem in_to (x : Bool) (n lo hi : Int) (w : World) (h : decide (lo ≤ n ∧ n ≤ hi) = x) : Calls Try.prog 34 #[.int .i64 n, .int .i64 lo, .int .i64 hi] w fun e w' => e = .returned (.bool x) ∧ w = w' := h ▸ in_any n lo hi w

def coinsB (L : List Int) : Bool := allIn 0 10000 L && decide ((1 : Int) ≤ L.length ∧ (L.length : Int) ≤ 12)

theorem specCoins_any (A : Option Addr) (c n : Nat) (L : List Int) (w : World) (hn : L.length = n) (hm : n ≤ 1000000000) (h : IntRow w A L) :
    Calls Try.prog 17 #[.slice A n c] w (SaysB (coinsB L) w) := by
  go_enter Try.func17, Try.ntmps17
  go_wp2
  go_loopw [3] (fun i wr => ∃ k : Nat, k ≤ n ∧ i = .int .i64 k ∧ (∀ j, j < k → 0 ≤ L.getD j 0 ∧ L.getD j 0 ≤ 10000) ∧ wr = w) (fun i _ => n - (intOf i).toNat)
  case atStart => exact ⟨0, by omega, rfl, fun j hj => by omega, rfl⟩
  case round =>
    obtain ⟨k, hk, rfl, hall, rfl⟩ := hrel
    by_cases hlt : k < n
    · obtain ⟨x, rfl, -, hc⟩ := h k (by omega)
      by_cases hin : 0 ≤ L.getD k 0 ∧ L.getD k 0 ≤ 10000
      · have hI := in_to true (L.getD k 0) 0 10000 wr (decide_eq_true hin)
        have hall2 : ∀ j, j < k + 1 → 0 ≤ L.getD j 0 ∧ L.getD j 0 ≤ 10000 := fun j hj => by
          rcases Nat.lt_or_ge j k with hj2 | hj2
          · exact hall j hj2
          · obtain rfl : j = k := by omega
            exact hin
        clear h hall hin
        generalize L.getD k 0 = z at hc hI
        go_wp2_with fail
        refine hI.mono ?_
        rintro e w' ⟨rfl, rfl⟩
        clear hI hc
        go_wp2
        go_roundw
        case rel => exact ⟨k + 1, by omega, by go_num, hall2, by first | rfl | trivial⟩
        case measure => simp [intOf]; omega
      · have hI := in_to false (L.getD k 0) 0 10000 wr (decide_eq_false hin)
        have hb : coinsB L = false := by unfold coinsB; rw [allIn_no (j := k) (by omega) hin]; rfl
        have hend : SaysB (coinsB L) wr (.returned (.bool false)) wr := ⟨by rw [hb], Below.refl _ _⟩
        clear h hall hin hb
        generalize L.getD k 0 = z at hc hI
        go_wp2_with fail
        refine hI.mono ?_
        rintro e w' ⟨rfl, rfl⟩
        clear hI hc
        go_wp2
        go_ret
        exact hend
    · obtain rfl : k = n := by omega
      have ha : allIn 0 10000 L = true := allIn_iff.2 (by rw [hn]; exact hall)
      have hI := in_any (k : Int) 1 12 wr
      have hb : coinsB L = decide ((1 : Int) ≤ k ∧ (k : Int) ≤ 12) := by unfold coinsB; rw [ha, hn]; rfl
      have hend : SaysB (coinsB L) wr (.returned (.bool (decide ((1 : Int) ≤ k ∧ (k : Int) ≤ 12)))) wr := ⟨by rw [hb], Below.refl _ _⟩
      clear h hall ha hb hn
      generalize decide ((1 : Int) ≤ k ∧ (k : Int) ≤ 12) = b at hI hend
      go_wp2_with fail
      refine hI.mono ?_
      rintro e w' ⟨rfl, rfl⟩
      clear hI
      go_wp2
      go_ret
      exact hend

def signsB (L : List Int) : Bool := allIn (-1) 1 L

theorem specSigns_any (A : Option Addr) (c n : Nat) (L : List Int) (w : World) (hn : L.length = n) (hm : n ≤ 1000000000) (h : IntRow w A L) :
    Calls Try.prog 35 #[.slice A n c] w (Tells (signsB L) w) := by
  go_enter Try.func35, Try.ntmps35
  go_wp2
  go_loopw [3] (fun i wr => ∃ k : Nat, k ≤ n ∧ i = .int .i64 k ∧ (∀ j, j < k → -1 ≤ L.getD j 0 ∧ L.getD j 0 ≤ 1) ∧ wr = w) (fun i _ => n - (intOf i).toNat)
  case atStart => exact ⟨0, by omega, rfl, fun j hj => by omega, rfl⟩
  case round =>
    obtain ⟨k, hk, rfl, hall, rfl⟩ := hrel
    by_cases hlt : k < n
    · obtain ⟨x, rfl, -, hc⟩ := h k (by omega)
      by_cases hin : -1 ≤ L.getD k 0 ∧ L.getD k 0 ≤ 1
      · have hI := in_to true (L.getD k 0) (-1) 1 wr (decide_eq_true hin)
        have hall2 : ∀ j, j < k + 1 → -1 ≤ L.getD j 0 ∧ L.getD j 0 ≤ 1 := fun j hj => by
          rcases Nat.lt_or_ge j k with hj2 | hj2
          · exact hall j hj2
          · obtain rfl : j = k := by omega
            exact hin
        clear h hall hin
        generalize L.getD k 0 = z at hc hI
        go_wp2_with fail
        refine hI.mono ?_
        rintro e w' ⟨rfl, rfl⟩
        clear hI hc
        go_wp2
        go_roundw
        case rel => exact ⟨k + 1, by omega, by go_num, hall2, by first | rfl | trivial⟩
        case measure => simp [intOf]; omega
      · have hI := in_to false (L.getD k 0) (-1) 1 wr (decide_eq_false hin)
        have hb : signsB L = false := allIn_no (j := k) (by omega) hin
        have hend : Tells (signsB L) wr (.returned (.bool false)) wr := ⟨by rw [hb], rfl⟩
        clear h hall hin hb
        generalize L.getD k 0 = z at hc hI
        go_wp2_with fail
        refine hI.mono ?_
        rintro e w' ⟨rfl, rfl⟩
        clear hI hc
        go_wp2
        go_ret
        exact hend
    · obtain rfl : k = n := by omega
      have ha : signsB L = true := allIn_iff.2 (by rw [hn]; exact hall)
      have hend : Tells (signsB L) wr (.returned (.bool true)) wr := ⟨by rw [ha], rfl⟩
      clear h hall ha hn
      go_wp2
      go_ret
      exact hend
end Go.Proofs.Ytacfblhmijabgaa
