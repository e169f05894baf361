/-
  The contract of the program's list of amounts that are not payable. Only new memory is written.
-/
import Derived.Test.YtajocneggcofgaaImplTable
import Derived.Test.YtajocneggcofgaaPurseFar
import Derived.BigQuiet
import Derived.BigRegion
import Derived.Lib.Hide
namespace Go.Proofs.Ytajocneggcofgaa
open Go.ChangeShapes Go.WideShapes Go.ChangeAt Go.RowKit Go.PlainAid

/-- An empty row of ints that is nil. -/
theorem own_nilInts (w : World) : Own w w [irow (.slice none 0 0) []] := by
  have o : w.ownsRow w.heap.size 3 1 (.slice none 0 0) 0 [] := World.ownsRow_nil _ _ _ _
  exact (Own.none w).add (Below.refl _ _) o
set_option maxHeartbeats 2000000 in
theorem implNone_any (A : Option Addr) (c n : Nat) (L : List Int) (w : World) (hP : PursP L) (hn : L.length = n) (h : IntRow w A L) :
    Calls Try.prog 29 #[.slice A n c] w (Copied (noP (payB L) (cn L 0 * cn L (L.length - 1) + 1)) w) := by
  obtain ⟨i0, hi, hz0, hz1, hz2⟩ := info_parts Try.infoIntT
  have hn4 := hP.1
  have c0 := hP.coin (k := 0) (by omega)
  have cl := hP.coin (k := L.length - 1) (by omega)
  obtain ⟨x, rfl, hx0, hx⟩ := h 0 (by omega)
  obtain ⟨x', hxx, -, hy⟩ := h (L.length - 1) (by omega)
  injection hxx with hxx
  subst hxx
  rw [addr_add_nil, c0.1] at hx
  rw [cl.1] at hy
  have hle : cn L 0 * cn L (L.length - 1) ≤ 400 := Nat.mul_le_mul (by omega : cn L 0 ≤ 20) (by omega : cn L (L.length - 1) ≤ 20)
  obtain ⟨T, hT⟩ : ∃ T, cn L 0 * cn L (L.length - 1) = T := ⟨_, rfl⟩
  have hTi : (cn L 0 : Int) * (cn L (L.length - 1) : Int) = (T : Int) := by rw [← hT]; omega
  rw [hT] at hle ⊢
  obtain ⟨M, hM⟩ : ∃ M, T + 1 = M := ⟨_, rfl⟩
  rw [hM]
  have hTab := fun W (r : IntRow W (some x) L) => implTable_any (some x) c n T L W hP hn (by omega) r
  obtain ⟨p, hp⟩ : ∃ p, L.length - 1 = p := ⟨_, rfl⟩
  rw [hp] at hy hTi cl
  rw [hn] at hn4 hp
  have hpi : (n : Int) - 1 = (p : Int) := by omega
  have hpn : (p : Int) < n := by omega
  have hn0 : (0 : Int) < n := by omega
  have c2 := c0.2
  have l2 := cl.2
  clear c0 cl hp hT
  generalize cn L 0 = u0 at hx hTi c2
  generalize cn L p = u1 at hy hTi l2
  replace hTab := Lib.hid hTab
  go_enter Try.func29, Try.ntmps29
  go_wp2_with fail
  go_quiet (fail)
  have kb := below_drewN (Below.refl w.heap.size w) nq
  replace h := h.keep kb
  replace hTab := hTab.out _ h
  clear hx hy h hx0 hP
  have hw : IntKind.i64.wrap ((u0 : Int) * (u1 : Int)) = (T : Int) := by rw [hTi, IntKind.wrap_i64] <;> omega
  try rw [hw]
  generalize w.drewN nq = w1 at kb hTab ⊢
  clear hTi hw
  go_wp2_with fail
  refine hTab.mono ?_
  clear hTab
  rintro e w2 ⟨g, cb, rfl, hcb, B, b⟩
  replace kb := below_more kb kb.size b
  have O0 := own_nilInts w2
  rw [hM] at B hcb ⊢
  have hMle : M ≤ 401 := by omega
  clear b hM hle
  go_wp2_with fail
  go_loopw [4, 21] (fun v i wr => ∃ k : Nat, k ≤ M ∧ i = .int .i64 k ∧ Own w2 wr [irow v (noP (payB L) k)]) (fun _ i _ => M - (intOf i).toNat)
  case atStart => exact ⟨0, by omega, rfl, O0⟩
  case round =>
    clear O0
    obtain ⟨k, hk, rfl, O⟩ := hrel
    by_cases hlt : k < M
    · have hki : (k : Int) < M := by omega
      obtain ⟨-, hc⟩ := (B.keep O.bel) k hlt
      clear B
      have ec : noP (payB L) (k + 1) = if payB L k then noP (payB L) k else noP (payB L) k ++ [(k : Int)] := rfl
      have hsz := noP_length (payB L) k
      have hsz2 := cntP_le (payB L) k
      rcases hp : payB L k with _ | _
      · rw [hp] at hc ec
        rw [if_neg (by decide)] at ec
        have hown := O.hd
        replace ec := Lib.hid ec
        generalize noP (payB L) k = Y at O hown ec hsz
        have hY : Y.length ≤ 401 := by omega
        replace hown : wr.ownsRow w2.heap.size 3 1 u4 Y.length (ints Y) := hown
        have hws := O.bel.size
        have O2 := Lib.hid O
        clear hsz hsz2 hp O
        go_wp2_with (at_builtin; refine wpList_append_one rfl (.tmp 28) (.tmp 30) 24 rfl w2.heap.size 3 i0 (.int .i64 0) Try.underlying24 hi hz0 hz1 hz2 rfl u4 Y.length _ rfl (hown.alloc _) ⟨wr.heap.size, 0, none⟩ 1 _ rfl (new_one _ _ _) rfl (by omega) (by simp; omega) ?_; intro v' w3 hown1 hg1 hb1)
        have O3 := O2.out.iapp hown1 hg1 hb1
        rw [← ec.out] at O3
        clear hown1 hg1 hb1 O2 hown
        go_wp2_with fail
        go_roundw
        case rel => exact ⟨k + 1, by omega, by go_num, O3⟩
        case measure => simp [intOf]; omega
      · rw [hp] at hc ec
        rw [if_pos rfl] at ec
        rw [← ec] at O
        clear ec hp hsz hsz2
        go_wp2_with fail
        go_roundw
        case rel => exact ⟨k + 1, by omega, by go_num, O⟩
        case measure => simp [intOf]; omega
    · obtain rfl : k = M := by omega
      have hge : ¬ (k : Int) < k := by omega
      have hc := (((Own.none w).keep kb).join O).copied
      clear O B
      go_wp2_with fail
      go_ret
      exact hc
end Go.Proofs.Ytajocneggcofgaa
