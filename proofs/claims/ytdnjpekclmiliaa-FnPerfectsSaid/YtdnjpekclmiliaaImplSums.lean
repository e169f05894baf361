/-
  The contracts of the program's factors of a weight and of its list of all sums, in memory of the call's own.
-/
import Derived.Test.YtdnjpekclmiliaaImplAdd
namespace Go.Proofs.Ytdnjpekclmiliaa
open Go.ChangeShapes Go.WideShapes Go.ChangeAt Go.RowKit Go.PlainAid

theorem implSigns_any (p : Int) (w : World) :
    Calls Try.prog 46 #[.int .i64 p] w (Copied (gOf p) w) := by
  unfold gOf
  by_cases h1 : p = 1
  · subst h1
    go_enter Try.func46, Try.ntmps46
    go_wp2
    go_ret
    exact ((Own.none w).lit [0, 1] 2 rfl (by decide)).copied
  · by_cases h2 : p = 2
    · subst h2
      go_enter Try.func46, Try.ntmps46
      go_wp2
      go_ret
      exact ((Own.none w).lit [-1, 0, 1] 3 rfl (by decide)).copied
    · rw [if_neg h1, if_neg h2]
      go_enter Try.func46, Try.ntmps46
      go_wp2
      go_ret
      exact ⟨none, 0, rfl, ⟨rfl, .inl ⟨rfl, rfl⟩⟩, Below.refl _ _⟩

/-- The sums that the program lists. -/
def sumsV (p : Int) (L : List Int) : List Int := if setB L then sumsOf (gOf p) L L.length else []

set_option maxHeartbeats 1000000 in
theorem implSums_any (p : Int) (A : Option Addr) (c n : Nat) (L : List Int) (w : World) (hn : L.length = n) (h : IntRow w A L)
    (hS : Calls Try.prog 30 #[.slice A n c] w (SaysB (setB L) w)) :
    Calls Try.prog 43 #[.slice A n c, .int .i64 p] w (Copied (sumsV p L) w) := by
  cases hs : setB L
  · have e : sumsV p L = [] := by unfold sumsV; rw [hs]; rfl
    rw [hs] at hS
    rw [e]
    clear e hs h hn
    go_enter Try.func43, Try.ntmps43
    go_wp2_with fail
    refine hS.mono ?_
    rintro e w1 ⟨rfl, b1⟩
    clear hS
    go_wp2_with fail
    go_ret
    exact ⟨none, 0, rfl, ⟨rfl, .inl ⟨rfl, rfl⟩⟩, b1⟩
  · have hP := setB_P hs
    have e : sumsV p L = sumsOf (gOf p) L n := by unfold sumsV; rw [hs, hn]; rfl
    rw [hs] at hS
    rw [e]
    have F := fun k (hk : k < n) => fits_of p hP (k := k) (by omega)
    have hn8 : n ≤ 8 := by have := hP.1; omega
    have hX : ∀ k, k ≤ n → (sumsOf (gOf p) L k).length ≤ 6561 := fun k hk => by
      have h1 := sums_len p L k
      have h2 : (3 : Nat) ^ k ≤ 3 ^ 8 := Nat.pow_le_pow_right (by decide) (by omega)
      have h3 : (3 : Nat) ^ 8 = 6561 := by decide
      omega
    have hG := fun W => implSigns_any p W
    have h3 : (gOf p).length ≤ 3 := gOf_len p
    have hst : sumsOf (gOf p) L 0 = [0] := rfl
    have hsu : ∀ k, more (gOf p) (L.getD k 0) (sumsOf (gOf p) L k) = sumsOf (gOf p) L (k + 1) := fun k => rfl
    generalize sumsOf (gOf p) L = X at F hX hst hsu ⊢
    generalize gOf p = G at F hG h3 hsu
    clear e hs hP
    go_enter Try.func43, Try.ntmps43
    go_wp2_with fail
    refine hS.mono ?_
    rintro e w1 ⟨rfl, b1⟩
    clear hS
    go_wp2_with fail
    refine (hG _).mono ?_
    rintro e w2 ⟨A2, c2, rfl, o, b2⟩
    clear hG
    have O0 := (((Own.none w).keep b1).add b2 o).start
    have hb := O0.bel
    have r0 := h.keep hb
    have g1e : w2.heap.size + 1 + 1 = w2.heap.size + 1 + 1 := rfl
    clear b1 b2 o g1e hb
    go_wp2_with fail
    clear r0
    go_loopw [19] (fun i wr => ∃ (k : Nat) (sv : Value), k ≤ n ∧ i = .int .i64 k ∧ Own w wr [vrow (w2.heap.size + 1 + 1) sv, vrow w2.heap.size (.slice A2 G.length c2), irow sv (X k), irow (.slice A2 G.length c2) G]) (fun i _ => n - (intOf i).toNat)
    case atStart => exact ⟨0, _, by omega, rfl, by rw [hst]; exact O0⟩
    case round =>
      clear O0
      obtain ⟨k, sv, hk, rfl, O⟩ := hrel
      by_cases hlt : k < n
      · have Fk := F k hlt
        have hs1 := hsu k
        obtain ⟨x, rfl, -, hx⟩ := h.keep O.bel k (by omega)
        clear F hsu hX hst
        generalize L.getD k 0 = z at hx Fk hs1
        have hc := implAdd_any z G (X k) Fk _ _ sv _ w wr O
        rw [hs1] at hc
        clear O Fk hs1
        go_wp2_with fail
        with_reducible refine hc.mono ?_
        rintro e w3 ⟨rfl, sv', O⟩
        clear hc hx
        go_wp2_with fail
        go_roundw
        case rel => exact ⟨k + 1, sv', by omega, by go_num, O⟩
        case measure => simp [intOf]; omega
      · obtain rfl : k = n := by omega
        obtain ⟨B, c3, hu⟩ := own_slice O.tl.tl.hd
        replace hu : sv = .slice B (X k).length c3 := hu
        subst hu
        have hc := O.vcell (g := w2.heap.size + 1 + 1) (v := .slice B (X k).length c3) (by simp)
        have ho := (O.tl.tl.perm (.swap _ _ _)).tl.copied
        clear O F hsu hX hst
        go_wp2
        go_ret
        exact ho
end Go.Proofs.Ytdnjpekclmiliaa
