/-
  The contracts of the program's and the model's check of a beam, torque and load. No condition but that the slice is short.
-/
import Derived.Test.YtajndcggafjmeaaHangExact
import Derived.Test.YtajndcggafjmeaaBeam
namespace Go.Proofs.Ytajndcggafjmeaa
open Go.ChangeShapes Go.WideShapes Go.ChangeAt Go.RowKit Go.PlainAid

def SaysI (x : Int) (w : World) (e : Ending) (w' : World) : Prop := e = .returned (.int .i64 x) ∧ Below w.heap.size w w'

set_option maxHeartbeats 1000000 in
theorem implOk_beam (A : Option Addr) (n c : Nat) (L : List Hg) (w : World) (hn : L.length = n) (r : HangRow w A L) :
    Calls Try.prog 23 #[.slice A n c] w (SaysB (bok L) w) := by
  by_cases h12 : 12 < n
  · rw [bok_no (fun h => by have := h.1; omega)]
    have h12i : (12 : Int) < n := by omega
    clear r hn
    go_enter Try.func23, Try.ntmps23
    go_wp2_with fail
    go_ret
    exact ⟨rfl, Below.refl _ _⟩
  · have h12i : ¬ (12 : Int) < n := by omega
    obtain ⟨z, hz⟩ : ∃ z, bok L = z := ⟨_, rfl⟩
    rw [hz]
    go_enter Try.func23, Try.ntmps23
    go_wp2_with fail
    go_loopw [10] (fun i wr => ∃ k : Nat, k ≤ n ∧ i = .int .i64 k ∧ AllOk L k ∧ Below w.heap.size w wr) (fun i _ => n - (intOf i).toNat)
    case atStart => exact ⟨0, by omega, rfl, AllOk.zero L, Below.refl _ _⟩
    case round =>
      obtain ⟨k, hk, rfl, P, b⟩ := hrel
      by_cases hlt : k < n
      · obtain ⟨x, rfl, hx, hc0, hc, hc2⟩ := (r.keep b).at (j := k) (by omega)
        have Q : Hok (hget L k) → AllOk L (k + 1) := P.succ
        have Z : ¬ Hok (hget L k) → z = false := fun h => by rw [← hz]; exact bok_no fun g => h (g.2 k (by omega))
        obtain ⟨X, Y, hXY⟩ : ∃ X Y, hget L k = (X, Y) := ⟨_, _, rfl⟩
        rw [hXY] at hc0 hc hc2 Q Z
        have hQ : (-100 ≤ X ∧ X ≤ 100) ∧ 0 ≤ Y ∧ Y ≤ 1000 → AllOk L (k + 1) := Q
        have hZ : ¬ ((-100 ≤ X ∧ X ≤ 100) ∧ 0 ≤ Y ∧ Y ≤ 1000) → z = false := Z
        have bs := b.size
        clear Q Z hXY P r hz hn
        by_cases h1 : X < -100
        · obtain rfl : z = false := hZ (by omega)
          clear hQ hZ
          go_wp2_with fail
          go_ret
          exact ⟨rfl, b.alloc bs _⟩
        by_cases h2 : 100 < X
        · obtain rfl : z = false := hZ (by omega)
          clear hQ hZ
          go_wp2_with fail
          go_ret
          exact ⟨rfl, b.alloc bs _⟩
        by_cases h3 : Y < 0
        · obtain rfl : z = false := hZ (by omega)
          clear hQ hZ
          go_wp2_with fail
          go_ret
          exact ⟨rfl, b.alloc bs _⟩
        by_cases h4 : 1000 < Y
        · obtain rfl : z = false := hZ (by omega)
          clear hQ hZ
          go_wp2_with fail
          go_ret
          exact ⟨rfl, b.alloc bs _⟩
        have P2 := hQ (by omega)
        clear hQ hZ
        go_wp2_with fail
        go_roundw
        case rel => exact ⟨k + 1, by omega, by go_num, P2, b.alloc bs _⟩
        case measure => simp [intOf]; omega
      · obtain rfl : k = n := by omega
        obtain rfl : z = true := by rw [← hz]; exact bok_yes ⟨by omega, by rw [hn]; exact P⟩
        clear r P hz
        go_wp2_with fail
        go_ret
        exact ⟨rfl, b⟩

set_option maxHeartbeats 1000000 in
theorem implTorqAll (A : Option Addr) (n c : Nat) (L : List Hg) (w : World) (hn : L.length = n) (h : BOk L) (r : HangRow w A L) :
    Calls Try.prog 38 #[.slice A n c] w (SaysI (torq L n) w) := by
  have h12 : n ≤ 12 := by have := h.1; omega
  go_enter Try.func38, Try.ntmps38
  go_wp2_with fail
  go_loopw [8, 3] (fun i t wr => ∃ k : Nat, k ≤ n ∧ i = .int .i64 k ∧ t = .int .i64 (torq L k) ∧ Below w.heap.size w wr) (fun i _ _ => n - (intOf i).toNat)
  case atStart => exact ⟨0, by omega, rfl, rfl, Below.refl _ _⟩
  case round =>
    obtain ⟨k, hk, rfl, rfl, b⟩ := hrel
    by_cases hlt : k < n
    · obtain ⟨x, rfl, hx, hc0, hc, hc2⟩ := (r.keep b).at (j := k) (by omega)
      have t0 := torq_le (L := L) (k := k) fun j hj => h.2 j (by omega)
      have t1 := prod_le (h.2 k (by omega))
      have e : torq L (k + 1) = torq L k + (hget L k).1 * (hget L k).2 := rfl
      obtain ⟨X, Y, hXY⟩ : ∃ X Y, hget L k = (X, Y) := ⟨_, _, rfl⟩
      rw [hXY] at hc0 hc hc2 t1 e
      dsimp only at hc0 hc hc2 t1 e
      have bs := b.size
      generalize torq L k = T at t0 e ⊢
      obtain ⟨p, hp⟩ : ∃ p, X * Y = p := ⟨_, rfl⟩
      rw [hp] at t1 e
      clear hXY r h hn
      go_wp2_with fail
      go_roundw
      case rel => exact ⟨k + 1, by omega, by go_num, by rw [e], b.alloc bs _⟩
      case measure => simp [intOf]; omega
    · obtain rfl : k = n := by omega
      clear r h hn
      go_wp2_with fail
      go_ret
      exact ⟨rfl, b⟩
set_option maxHeartbeats 1000000 in
theorem implTorq (A : Option Addr) (n c : Nat) (L : List Hg) (w : World) (hn : L.length = n) (r : HangRow w A L) :
    Calls Try.prog 16 #[.slice A n c] w (SaysI (tq L) w) := by
  have hB := fun W (r : HangRow W A L) => implOk_beam A n c L W hn r
  by_cases h : BOk L
  · have hT := fun W (r : HangRow W A L) => implTorqAll A n c L W hn h r
    rw [bok_yes h] at hB
    rw [tq_yes h, hn]
    generalize torq L n = t at hT ⊢
    go_enter Try.func16, Try.ntmps16
    go_wp2_with fail
    refine (hB _ r).mono ?_
    rintro e w1 ⟨rfl, b⟩
    replace r := r.keep b
    clear hB
    go_wp2_with fail
    refine (hT _ r).mono ?_
    rintro e w2 ⟨rfl, b2⟩
    clear hT
    go_wp2_with fail
    go_ret
    exact ⟨rfl, below_more b b.size b2⟩
  · rw [bok_no h] at hB
    rw [tq_no h]
    go_enter Try.func16, Try.ntmps16
    go_wp2_with fail
    refine (hB _ r).mono ?_
    rintro e w1 ⟨rfl, b⟩
    clear hB r
    go_wp2_with fail
    go_ret
    exact ⟨rfl, b⟩
theorem implLevel (A : Option Addr) (n c : Nat) (L : List Hg) (w : World) (hn : L.length = n) (r : HangRow w A L) :
    Calls Try.prog 19 #[.slice A n c] w (SaysB (bok L && decide (tq L = 0)) w) := by
  have hB := fun W (r : HangRow W A L) => implOk_beam A n c L W hn r
  have hT := fun W (r : HangRow W A L) => implTorq A n c L W hn r
  generalize tq L = t at hT ⊢
  cases h : bok L
  · rw [h] at hB
    go_enter Try.func19, Try.ntmps19
    go_wp2_with fail
    refine (hB _ r).mono ?_
    rintro e w1 ⟨rfl, b⟩
    clear hB r hT
    go_wp2_with fail
    go_ret
    exact ⟨rfl, b⟩
  · rw [h] at hB
    go_enter Try.func19, Try.ntmps19
    go_wp2_with fail
    refine (hB _ r).mono ?_
    rintro e w1 ⟨rfl, b⟩
    replace r := r.keep b
    clear hB
    go_wp2_with fail
    refine (hT _ r).mono ?_
    rintro e w2 ⟨rfl, b2⟩
    clear hT r
    replace b2 := below_more b b.size b2
    by_cases ht : t = 0
    · go_wp2_with fail
      go_ret
      exact ⟨by simp [ht], b2⟩
    · go_wp2_with fail
      go_ret
      exact ⟨by simp [ht], b2⟩
end Go.Proofs.Ytajndcggafjmeaa
