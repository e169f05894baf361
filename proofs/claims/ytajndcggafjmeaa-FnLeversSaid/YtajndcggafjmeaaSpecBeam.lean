/-
  The contracts of the model's check of a beam, torque, load and level. No condition but that the slice is short.
-/
import Derived.Test.YtajndcggafjmeaaImplBeam
namespace Go.Proofs.Ytajndcggafjmeaa
open Go.ChangeShapes Go.WideShapes Go.ChangeAt Go.RowKit Go.PlainAid

set_option maxHeartbeats 1000000 in
theorem specOk_beam (A : Option Addr) (n c : Nat) (L : List Hg) (w : World) (hn : L.length = n) (hm : n ≤ 1048576) (r : HangRow w A L) :
    Calls Try.prog 21 #[.slice A n c] w (SaysB (bok L) w) := by
  obtain ⟨z, hz⟩ : ∃ z, bok L = z := ⟨_, rfl⟩
  rw [hz]
  go_enter Try.func21, Try.ntmps21
  go_wp2_with fail
  go_loopw [3] (fun i wr => ∃ k : Nat, k ≤ n ∧ i = .int .i64 k ∧ AllOk L k ∧ Below w.heap.size w wr) (fun i _ => n - (intOf i).toNat)
  case atStart => exact ⟨0, by omega, rfl, AllOk.zero L, Below.refl _ _⟩
  case round =>
    obtain ⟨k, hk, rfl, P, b⟩ := hrel
    by_cases hlt : k < n
    · obtain ⟨x, rfl, hx, hc0, hc, hc2⟩ := (r.keep b).at (j := k) (by omega)
      have Q : Hok (hget L k) → AllOk L (k + 1) := P.succ
      have Z : ¬ Hok (hget L k) → z = false := fun h => by rw [← hz]; exact bok_no fun g => h (g.2 k (by omega))
      obtain ⟨X, Y, hXY⟩ : ∃ X Y, hget L k = (X, Y) := ⟨_, _, rfl⟩
      rw [hXY] at hc0 hc hc2 Q Z
      have hQ : (-100 ≤ X ∧ X ≤ 100) ∧ 0 ≤ Y ∧ Y ≤ 1000 → AllOk L (k + 1) := Q
      have hZ : ¬ ((-100 ≤ X ∧ X ≤ 100) ∧ 0 ≤ Y ∧ Y ≤ 1000) → z = false := Z
      dsimp only at hc0 hc hc2
      clear Q Z hXY P r hz hn
      by_cases h1 : -100 ≤ X ∧ X ≤ 100
      · by_cases h2 : 0 ≤ Y ∧ Y ≤ 1000
        · have P2 := hQ ⟨h1, h2⟩
          have hI := fun W => in_to true X (-100) 100 W (decide_eq_true h1)
          have hJ := fun W => in_to true Y 0 1000 W (decide_eq_true h2)
          clear hQ hZ h1 h2
          go_wp2_with fail
          refine (hI _).mono ?_
          rintro e w1 ⟨rfl, rfl⟩
          go_wp2_with fail
          refine (hJ _).mono ?_
          rintro e w1 ⟨rfl, rfl⟩
          go_wp2_with fail
          go_roundw
          case rel => exact ⟨k + 1, by omega, by go_num, P2, b⟩
          case measure => simp [intOf]; omega
        · obtain rfl : z = false := hZ (fun h => h2 h.2)
          have hI := fun W => in_to true X (-100) 100 W (decide_eq_true h1)
          have hJ := fun W => in_to false Y 0 1000 W (decide_eq_false h2)
          clear hQ hZ h1 h2
          go_wp2_with fail
          refine (hI _).mono ?_
          rintro e w1 ⟨rfl, rfl⟩
          go_wp2_with fail
          refine (hJ _).mono ?_
          rintro e w1 ⟨rfl, rfl⟩
          go_wp2_with fail
          go_ret
          exact ⟨rfl, b⟩
      · obtain rfl : z = false := hZ (fun h => h1 h.1)
        have hI := fun W => in_to false X (-100) 100 W (decide_eq_false h1)
        clear hQ hZ h1
        go_wp2_with fail
        refine (hI _).mono ?_
        rintro e w1 ⟨rfl, rfl⟩
        go_wp2_with fail
        go_ret
        exact ⟨rfl, b⟩
    · obtain rfl : k = n := by omega
      by_cases h12 : k ≤ 12
      · obtain rfl : z = true := by rw [← hz]; exact bok_yes ⟨by omega, by rw [hn]; exact P⟩
        have h12i : (k : Int) ≤ 12 := by omega
        clear r P hz
        go_wp2_with fail
        go_ret
        exact ⟨by simp, b⟩
      · obtain rfl : z = false := by rw [← hz]; exact bok_no fun g => h12 (by have := g.1; omega)
        have h12i : ¬ (k : Int) ≤ 12 := by omega
        clear r P hz
        go_wp2_with fail
        go_ret
        exact ⟨by simp, b⟩

set_option maxHeartbeats 1000000 in
theorem specTorq (A : Option Addr) (n c : Nat) (L : List Hg) (w : World) (hn : L.length = n) (hm : n ≤ 1048576) (r : HangRow w A L) :
    Calls Try.prog 25 #[.slice A n c] w (SaysI (tq L) w) := by
  have hB := fun W (r : HangRow W A L) => specOk_beam A n c L W hn hm r
  by_cases h : BOk L
  · have h12 : n ≤ 12 := by have := h.1; omega
    rw [bok_yes h] at hB
    rw [tq_yes h, hn]
    go_enter Try.func25, Try.ntmps25
    go_wp2_with fail
    go_loopw [4, 3] (fun i t wr => ∃ k : Nat, k ≤ n ∧ i = .int .i64 k ∧ t = .int .i64 (torq L k) ∧ Below w.heap.size w wr) (fun i _ _ => n - (intOf i).toNat)
    case atStart => exact ⟨0, by omega, rfl, rfl, Below.refl _ _⟩
    case round =>
      obtain ⟨k, hk, rfl, rfl, b⟩ := hrel
      by_cases hlt : k < n
      · have t0 := torq_le (L := L) (k := k) fun j hj => h.2 j (by omega)
        have t1 := prod_le (h.2 k (by omega))
        have e : torq L (k + 1) = torq L k + (hget L k).1 * (hget L k).2 := rfl
        generalize torq L k = T at t0 e ⊢
        go_wp2_with fail
        refine (hB _ (r.keep b)).mono ?_
        rintro e' w1 ⟨rfl, b1⟩
        replace b1 := below_more b b.size b1
        obtain ⟨x, rfl, hx, hc0, hc, hc2⟩ := (r.keep b1).at (j := k) (by omega)
        obtain ⟨X, Y, hXY⟩ : ∃ X Y, hget L k = (X, Y) := ⟨_, _, rfl⟩
        rw [hXY] at hc0 hc hc2 t1 e
        dsimp only at hc0 hc hc2 t1 e
        obtain ⟨p, hp⟩ : ∃ p, X * Y = p := ⟨_, rfl⟩
        rw [hp] at t1 e
        clear hXY r h hn hB b
        go_wp2_with fail
        go_region
        all_goals
          go_wp2_with fail
          go_roundw
          case rel => exact ⟨k + 1, by omega, by go_num, by rw [e], below_drewN b1 1⟩
          case measure => simp [intOf]; omega
      · obtain rfl : k = n := by omega
        clear r h hn hB
        go_wp2_with fail
        go_ret
        exact ⟨rfl, b⟩
  · rw [bok_no h] at hB
    rw [tq_no h]
    go_enter Try.func25, Try.ntmps25
    go_wp2_with fail
    refine wp_loop_rounds 1 ?_
    rw [rounds_succ]
    by_cases h0 : 0 < n
    · go_wp2_with fail
      refine (hB _ r).mono ?_
      rintro e w1 ⟨rfl, b⟩
      clear hB r
      go_wp2_with fail
      go_ret
      exact ⟨rfl, b⟩
    · obtain rfl : n = 0 := by omega
      clear hB r
      go_wp2_with fail
      go_ret
      exact ⟨rfl, Below.refl _ _⟩

set_option maxHeartbeats 1000000 in
theorem specLoad (A : Option Addr) (n c : Nat) (L : List Hg) (w : World) (hn : L.length = n) (h : BOk L) (r : HangRow w A L) :
    Calls Try.prog 46 #[.slice A n c] w (SaysI (ld L) w) := by
  have h12 : n ≤ 12 := by have := h.1; omega
  have hl : ld L = load L n := by unfold ld; rw [hn]
  rw [hl]
  go_enter Try.func46, Try.ntmps46
  go_wp2_with fail
  go_loopw [4, 3] (fun i t wr => ∃ k : Nat, k ≤ n ∧ i = .int .i64 k ∧ t = .int .i64 (load L k) ∧ Below w.heap.size w wr) (fun i _ _ => n - (intOf i).toNat)
  case atStart => exact ⟨0, by omega, rfl, rfl, Below.refl _ _⟩
  case round =>
    obtain ⟨k, hk, rfl, rfl, b⟩ := hrel
    by_cases hlt : k < n
    · obtain ⟨x, rfl, hx, hc0, hc, hc2⟩ := (r.keep b).at (j := k) (by omega)
      have t0 := load_le (L := L) (k := k) fun j hj => h.2 j (by omega)
      have t1 := (h.2 k (by omega)).2
      have e : load L (k + 1) = load L k + (hget L k).2 := rfl
      obtain ⟨X, Y, hXY⟩ : ∃ X Y, hget L k = (X, Y) := ⟨_, _, rfl⟩
      rw [hXY] at hc0 hc hc2 t1 e
      dsimp only at hc0 hc hc2 t1 e
      generalize load L k = T at t0 e ⊢
      clear hXY r h hn hl
      go_wp2_with fail
      go_roundw
      case rel => exact ⟨k + 1, by omega, by go_num, by rw [e], b⟩
      case measure => simp [intOf]; omega
    · obtain rfl : k = n := by omega
      clear r h hn hl
      go_wp2_with fail
      go_ret
      exact ⟨rfl, b⟩

theorem specLevel (A : Option Addr) (n c : Nat) (L : List Hg) (w : World) (hn : L.length = n) (hm : n ≤ 1048576) (r : HangRow w A L) :
    Calls Try.prog 26 #[.slice A n c] w (SaysB (bok L && decide (tq L = 0)) w) := by
  have hB := fun W (r : HangRow W A L) => specOk_beam A n c L W hn hm r
  have hT := fun W (r : HangRow W A L) => specTorq A n c L W hn hm r
  generalize tq L = t at hT ⊢
  cases h : bok L
  · rw [h] at hB
    go_enter Try.func26, Try.ntmps26
    go_wp2_with fail
    refine (hB _ r).mono ?_
    rintro e w1 ⟨rfl, b⟩
    clear hB r hT
    go_wp2_with fail
    go_ret
    exact ⟨rfl, b⟩
  · rw [h] at hB
    go_enter Try.func26, Try.ntmps26
    go_wp2_with fail
    refine (hB _ r).mono ?_
    rintro e w1 ⟨rfl, b⟩
    replace r := r.keep b
    clear hB
    go_wp2_with fail
    refine (hT _ r).mono ?_
    rintro e w2 ⟨rfl, b2⟩
    clear hT r
    replace b2 := below_more b b.size b2
    by_cases ht : t = 0
    · go_wp2_with fail
      go_ret
      exact ⟨by simp [ht], b2⟩
    · go_wp2_with fail
      go_ret
      exact ⟨by simp [ht], b2⟩
end Go.Proofs.Ytajndcggafjmeaa
