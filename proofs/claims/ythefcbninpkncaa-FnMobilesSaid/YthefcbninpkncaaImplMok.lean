/-
  The contract of the program's check of a mobile. Only new memory is written.
-/
import Derived.Test.YthefcbninpkncaaImplHung
namespace Go.Proofs.Ythefcbninpkncaa
open Go.ChangeShapes Go.WideShapes Go.ChangeAt Go.RowKit Go.PlainAid

set_option maxRecDepth 100000 in
set_option maxHeartbeats 3000000 in
theorem implMok (A : Option Addr) (n c : Nat) (L : List PartT) (w : World) (hn : L.length = n) (hm : n ≤ 1048576) (r : PartRow w A L) :
    Calls Try.prog 20 #[.slice A n c] w (SaysB (mok L) w) := by
  by_cases hlen : 1 ≤ n ∧ n ≤ 15
  · obtain ⟨n1, n15⟩ := hlen
    have hH := fun (P : ∀ j, j < n → PtOk n j (ptget L j)) => implHung A n c L w hn n1 n15 r P
    have hz : ∀ k, k < n → ¬ PtOk n k (ptget L k) → mok L = false := fun k hk q => mok_no fun m => q (by have := m.part k (by omega); rwa [hn] at this)
    generalize mok L = z at hH hz ⊢
    go_enter Try.func20, Try.ntmps20
    go_wp2_with fail
    go_loopw [15] (fun i wr => ∃ k : Nat, k ≤ n ∧ i = .int .i64 k ∧ (∀ j, j < k → PtOk n j (ptget L j)) ∧ wr = w) (fun i _ => n - (intOf i).toNat)
    case atStart => exact ⟨0, by omega, rfl, (fun j h => by omega), rfl⟩
    case round =>
      obtain ⟨k, hk, rfl, P, rfl⟩ := hrel
      by_cases hlt : k < n
      · obtain ⟨x, rfl, pt⟩ := r.ptAt (j := k) (by omega)
        have hW := isWt_any _ _ wr pt
        have hO := isWtOk_any _ _ wr pt
        have hB := isBmOk_any _ n k _ _ wr rfl (by omega) (by omega) pt
        have hQ : PtOk n k (ptget L k) → ∀ j, j < k + 1 → PtOk n j (ptget L j) := fun q j hj => by
          by_cases e : j = k
          · subst e; exact q
          · exact P j (by omega)
        have hZ := hz k hlt
        unfold PtOk at hQ hZ
        clear pt hH hz P
        by_cases hl : (ptget L k).left = -1
        · rw [if_pos hl] at hQ hZ
          rw [decide_eq_true hl] at hW
          clear hB hl
          by_cases ho : WtOk (ptget L k)
          · replace hQ := hQ ho
            rw [decide_eq_true ho] at hO
            clear hZ ho
            go_wp2_with fail
            refine hW.mono ?_
            rintro e w1 ⟨rfl, rfl⟩
            go_wp2_with fail
            refine hO.mono ?_
            rintro e w1 ⟨rfl, rfl⟩
            go_wp2_with fail
            refine hW.mono ?_
            rintro e w1 ⟨rfl, rfl⟩
            clear hW hO
            go_wp2_with fail
            go_roundw
            case rel => exact ⟨k + 1, by omega, by go_num, hQ, trivial⟩
            case measure => simp [intOf]; omega
          · obtain rfl : z = false := hZ ho
            rw [decide_eq_false ho] at hO
            clear hZ hQ ho
            go_wp2_with fail
            refine hW.mono ?_
            rintro e w1 ⟨rfl, rfl⟩
            go_wp2_with fail
            refine hO.mono ?_
            rintro e w1 ⟨rfl, rfl⟩
            clear hW hO
            go_wp2_with fail
            go_ret
            exact ⟨rfl, Below.refl _ _⟩
        · rw [if_neg hl] at hQ hZ
          rw [decide_eq_false hl] at hW
          clear hO hl
          by_cases ho : BmOk n k (ptget L k)
          · replace hQ := hQ ho
            rw [decide_eq_true ho] at hB
            clear hZ ho
            go_wp2_with fail
            refine hW.mono ?_
            rintro e w1 ⟨rfl, rfl⟩
            go_wp2_with fail
            refine hW.mono ?_
            rintro e w1 ⟨rfl, rfl⟩
            go_wp2_with fail
            refine hB.mono ?_
            rintro e w1 ⟨rfl, rfl⟩
            clear hW hB
            go_wp2_with fail
            go_roundw
            case rel => exact ⟨k + 1, by omega, by go_num, hQ, trivial⟩
            case measure => simp [intOf]; omega
          · obtain rfl : z = false := hZ ho
            rw [decide_eq_false ho] at hB
            clear hZ hQ ho
            go_wp2_with fail
            refine hW.mono ?_
            rintro e w1 ⟨rfl, rfl⟩
            go_wp2_with fail
            refine hW.mono ?_
            rintro e w1 ⟨rfl, rfl⟩
            go_wp2_with fail
            refine hB.mono ?_
            rintro e w1 ⟨rfl, rfl⟩
            clear hW hB
            go_wp2_with fail
            go_ret
            exact ⟨rfl, Below.refl _ _⟩
      · obtain rfl : k = n := by omega
        replace hH := hH P
        clear hz P
        go_wp2_with fail
        refine hH.mono ?_
        rintro e w1 ⟨rfl, b⟩
        clear hH
        go_wp2_with fail
        go_ret
        exact ⟨rfl, b⟩
  · rw [mok_no fun m => hlen ⟨by have := m.one; omega, by have := m.len; omega⟩]
    clear r hn
    rcases Nat.lt_or_ge n 1 with h | h
    · obtain rfl : n = 0 := by omega
      clear hlen h
      go_enter Try.func20, Try.ntmps20
      go_wp2_with fail
      go_ret
      exact ⟨rfl, Below.refl _ _⟩
    · have h2 : 15 < n := by omega
      have h3 : ¬ (n : Int) < 1 := by omega
      have h4 : (15 : Int) < n := by omega
      clear hlen
      go_enter Try.func20, Try.ntmps20
      go_wp2_with fail
      go_ret
      exact ⟨rfl, Below.refl _ _⟩
end Go.Proofs.Ythefcbninpkncaa
