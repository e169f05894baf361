/-
  The draw of a set of weights: 1 to 5 weights, ascending and in the range, in memory of the call's own.
-/
import Derived.Test.YtjdkihinfilbkaaPick
import Derived.Test.YtjdkihinfilbkaaSetOk
import Derived.OwnWalk
namespace Go.Proofs.Ytjdkihinfilbkaa
open Go.ChangeShapes Go.WideShapes Go.ChangeAt Go.RowKit Go.PlainAid

/-- Weights as they must be, none above x. -/
def Asc (xs : List Int) (x : Int) : Prop := ∀ j, j < xs.length → FineAt xs j ∧ xs.getD j 0 ≤ x
theorem asc_app {xs : List Int} {x y : Int} (h : Asc xs x) (h1 : 1 ≤ x) (h2 : x ≤ 1000) (hy : x ≤ y) : Asc (xs ++ [x]) y := fun j hj => by
  rw [List.length_append] at hj
  have hj2 : j ≤ xs.length := by simp at hj; omega
  have e1 := getD_app xs x j hj2
  have e2 := getD_app xs x (j - 1) (by omega)
  unfold FineAt
  rw [e1, e2]
  rcases Nat.lt_or_ge j xs.length with h3 | h3
  · obtain ⟨⟨a, b⟩, c⟩ := h j h3
    rw [if_pos h3, if_pos (show j - 1 < xs.length by omega)]
    exact ⟨⟨a, b⟩, by omega⟩
  · rw [if_neg (by omega)]
    refine ⟨⟨⟨h1, h2⟩, fun h0 => ?_⟩, hy⟩
    rw [if_pos (show j - 1 < xs.length by omega)]
    exact (h (j - 1) (by omega)).2
theorem grow_le : ∀ {k : Nat}, k ≤ 5 → (5 : Int) * 3 ^ k ≤ 1215 := by
  intro k hk
  have : k = 0 ∨ k = 1 ∨ k = 2 ∨ k = 3 ∨ k = 4 ∨ k = 5 := by omega
  rcases this with rfl | rfl | rfl | rfl | rfl | rfl <;> decide

def DrawnSet (w : World) (p : Nat) (a : Option Addr) (len cap : Nat) (e : Ending) (w' : World) : Prop :=
  ∃ (A : Option Addr) (c : Nat) (L : List Int), SetP L ∧ L.length ≤ 5 ∧ e = .returned (.slice A L.length c) ∧ Cur w' p a len cap ∧ IntRow w' A L ∧ w.grownBy w' (some p)

set_option maxHeartbeats 2000000 in
theorem setDraw_any (p len cap : Nat) (a : Option Addr) (w : World) (C : Cur w p a len cap) :
    Calls Try.prog 27 #[.pointer (some ⟨p, 0, none⟩)] w (DrawnSet w p a len cap) := by
  obtain ⟨i0, hi, hz0, hz1, hz2⟩ := info_parts Try.infoIntT
  have hp := C.lt
  have S0 := LSt.start C
  clear C
  go_enter Try.func27, Try.ntmps27
  go_wp2_with fail
  refine (below_any 5 p len cap a _ S0.cur).mono ?_
  rintro e w1 ⟨u, ⟨-, hu⟩, rfl, C1, g1⟩
  obtain ⟨u0, u1⟩ := hu (by omega)
  replace S0 := S0.drawn hp C1 g1
  obtain ⟨n, rfl⟩ := Int.eq_ofNat_of_zero_le u0
  clear hu C1 g1 u0
  go_wp2_with fail
  refine (below_any 2 p len cap a _ S0.cur).mono ?_
  rintro e w2 ⟨x, ⟨-, hx⟩, rfl, C1, g1⟩
  obtain ⟨x0, x1⟩ := hx (by omega)
  replace S0 := S0.drawn hp C1 g1
  clear hx C1 g1
  go_wp2_with fail
  go_loopw [3, 5, 6] (fun v y i wr => ∃ (k : Nat) (xs : List Int) (x : Int), k ≤ n + 1 ∧ xs.length = k ∧ i = .int .i64 k ∧ y = .int .i64 x ∧ 1 ≤ x ∧ 2 * x + 1 ≤ 5 * 3 ^ k ∧ Asc xs x ∧ LSt w p a len cap v xs wr) (fun _ _ i _ => n + 1 - (intOf i).toNat)
  case atStart => exact ⟨0, [], 1 + x, by omega, rfl, rfl, rfl, by omega, by rw [Int.pow_zero]; omega, fun j hj => by simp at hj, S0⟩
  case round =>
    clear S0 x0 x1
    obtain ⟨k, xs, z, hk, hl, rfl, rfl, z1, zk, hA, S⟩ := hrel
    by_cases hlt : k < n + 1
    · have hlt2 : (k : Int) < 1 + n := by omega
      have hk1 := grow_le (k := k + 1) (by omega)
      have e3 : (3 : Int) ^ (k + 1) = 3 ^ k * 3 := Int.pow_succ 3 k
      rw [e3] at hk1
      have zb : z ≤ 404 := by omega
      have hown := S.own
      rw [hl] at hown
      have hsz := S.grown.size
      have hkl : k ≤ 5 := by omega
      go_wp2_with (at_builtin; refine wpList_append_own _ rfl (.tmp 19) (.tmp 21) 24 rfl w.heap.size 3 i0 (.int .i64 0) 1 8 Try.underlying24 hi hz0 hz1 hz2 rfl (by decide) u3 k _ rfl (hown.alloc _) ⟨wr.heap.size, 0, none⟩ 1 1 [_] rfl rfl (news_new _ [_] _) (by simp [Value.oneCell']) (by unfold maxLen; omega) (by omega) (by simp; omega) ?_; intro v' w3 hown1 hgrow1 _)
      rw [← hl] at hown1
      have S1 := S.app hp hown1 hgrow1
      clear hown1 hgrow1 hown S
      have hP1 := pick_new [1, 2, 2, 3, 3] (by decide) (by decide) 3 5 p len cap a _ S1.cur
      go_wp2_with fail
      refine hP1.mono ?_
      rintro e w4 ⟨u, hu, rfl, C1, g1⟩
      replace S1 := S1.drawn hp C1 g1
      have hub : z ≤ z * u ∧ z * u ≤ 3 * z := by
        have : u = 1 ∨ u = 2 ∨ u = 3 := by simpa using hu
        rcases this with rfl | rfl | rfl <;> omega
      clear hP1 C1 g1 hu
      have hP1 := pick_new [0, 0, 0, 1] (by decide) (by decide) 3 4 p len cap a _ S1.cur
      go_wp2_with fail
      refine hP1.mono ?_
      rintro e w5 ⟨t, ht, rfl, C1, g1⟩
      replace S1 := S1.drawn hp C1 g1
      have htb : 0 ≤ t ∧ t ≤ 1 := by
        have : t = 0 ∨ t = 1 := by simpa using ht
        omega
      clear hP1 C1 g1 ht
      go_wp2
      go_roundw
      case rel => exact ⟨k + 1, xs ++ [z], z * u + t, by omega, by rw [List.length_append, hl]; rfl, by go_num, rfl, by omega, by rw [e3]; omega, asc_app hA z1 (by omega) (by omega), S1⟩
      case measure => simp [intOf]; omega
    · obtain rfl : k = n + 1 := by omega
      have hge : ¬ ((n + 1 : Nat) : Int) < 1 + n := by omega
      obtain ⟨A, c, rfl⟩ := own_slice S.own
      have hend : DrawnSet w p a len cap (.returned (.slice A xs.length c)) wr := ⟨A, c, xs, ⟨by omega, fun j hj => (hA j hj).1⟩, by omega, rfl, S.cur, intRow_own S.own, S.grown⟩
      rw [hl] at hend
      clear S hA
      go_wp2
      go_ret
      exact hend

/-- What the law's draw answers. -/
def DrawnSetL (B : Nat) (w : World) (e : Ending) (w' : World) : Prop :=
  ∃ (A : Option Addr) (c : Nat) (L : List Int), SetP L ∧ L.length ≤ 5 ∧ e = .returned (.slice A L.length c) ∧ IntRow w' A L ∧ Below B w w'

theorem drawSet_any (B : Nat) (a : Option Addr) (len cap : Nat) (w : World) (hB : B = w.heap.size) (hl : len ≤ 1048576) (hr : Bytes w w.heap.size a len) :
    Calls Try.prog 11 #[.slice a len cap] w (DrawnSetL B w) := by
  go_enter Try.func11, Try.ntmps11
  go_wp2_with fail
  refine (new_any a len cap w hl hr).mono ?_
  rintro e w0 ⟨rfl, C0, b0, s0⟩
  have bel : ∀ w2 : World, w0.grownBy w2 (some w.heap.size) → Below B w w2 := fun w2 g => hB ▸ b0.trans (below_of_grown g (Nat.le_refl _) (by omega))
  clear b0 s0 hr hl hB
  generalize w.heap.size = p at C0 bel ⊢
  go_wp2_with fail
  refine (setDraw_any p len cap a _ C0).mono ?_
  rintro e w1 ⟨A, c, L, hP, h5, rfl, C1, r, g1⟩
  have hend : DrawnSetL B w (.returned (.slice A L.length c)) w1 := ⟨A, c, L, hP, h5, rfl, r, bel _ g1⟩
  clear bel hP h5 C0 C1 r g1
  go_wp2_with fail
  go_ret
  exact hend
end Go.Proofs.Ytjdkihinfilbkaa
