/-
  The contract of the program's ruler read from the other end. Only new memory is written.
-/
import Derived.Test.YtokengeaiknmhaaRulerLen
import Derived.Test.YtokengeaiknmhaaImplCounts
import Derived.Test.YtokengeaiknmhaaImplLen
import Derived.Test.YtokengeaiknmhaaOwnMore
import Derived.Deep.RegionLaw
namespace Go.Proofs.Ytokengeaiknmhaa
open Go.ChangeShapes Go.WideShapes Go.ChangeAt Go.RowKit Go.PlainAid Go.Maps

set_option maxRecDepth 100000 in
set_option maxHeartbeats 2000000 in
theorem implMirror_any (A : Option Addr) (c n : Nat) (L : List Int) (w : World) (hn : L.length = n) (hm : n ≤ 9223372036854775807) (h : IntRow w A L) :
    Calls Try.prog 14 #[.slice A n c] w (Copied (mirA L) w) := by
  obtain ⟨i0, hi, hz0, hz1, hz2⟩ := info_parts Try.infoIntT
  have hR := implRuler_any A c n L w hn hm h
  obtain ⟨X, hX⟩ : ∃ X, mirA L = X := ⟨_, rfl⟩
  rw [hX]
  replace hX : Hid (mirA L = X) := hX
  go_enter Try.func14, Try.ntmps14
  go_wp2_with fail
  refine hR.mono ?_
  clear hR
  rintro e w1 ⟨rfl, q, rfl⟩
  have kb := below_drewN (Below.refl w.heap.size w) q
  generalize w.drewN q = w1 at kb ⊢
  have O0 := (Own.none w).keep kb
  rcases hb : rulB L with _ | _
  · obtain rfl : X = [] := hX.out.symm.trans (mirA_no hb)
    have hc := (nil_row O0).copied
    clear h hX hb O0 kb
    go_wp2_with fail
    go_ret
    exact hc
  · have hP := rulB_P hb
    have hn8 := hP.1.1
    rw [hn] at hn8
    rw [mirA_yes hb, ← half_all, hn] at hX
    obtain ⟨p, hp⟩ : ∃ p, n = p + 1 := ⟨n - 1, by omega⟩
    obtain ⟨x, rfl, hx0, hx1⟩ := h p (by omega)
    have el : L.getD p 0 = lastL L := by unfold lastL; rw [hn, hp, Nat.add_sub_cancel]
    rw [el] at hx1
    have hpi : (n : Int) - 1 = p := by omega
    have hpn : (p : Int) < n := by omega
    have hl := hP.last
    have hlen : ∀ k, k ≤ n → (half L k).length = n := fun k hk => by rw [half_length (by omega), hn]
    clear hb el kb hp
    go_wp2_with (at_make; refine wpList_make_full _ rfl _ _ 24 rfl w1.heap.size 3 i0 (.int .i64 0) 1 Try.underlying24 hi hz0 hz1 .i64 .i64 _ _ n rfl rfl rfl rfl (by rw [hz2]; omega) (by unfold maxLen; omega) (Nat.le_refl _) ?_; intro w0 hown0 hgrow0; have M1 := O0.made hown0 hgrow0; clear hown0 hgrow0)
    rw [← hn, ← half_zero, hn] at M1
    have hsz1 := O0.bel.size
    go_loopw [18] (fun i wr => ∃ k : Nat, k ≤ n ∧ i = .int .i64 k ∧ Own w wr [irow (.slice (some ⟨w1.heap.size, 0, none⟩) n n) (half L k)]) (fun i _ => n - (intOf i).toNat)
    case atStart => exact ⟨0, by omega, rfl, M1⟩
    case round =>
      clear M1 O0
      obtain ⟨k, hk, rfl, O⟩ := hrel
      by_cases hlt : k < n
      · obtain ⟨y, hxy, -, hy1⟩ := h k (by omega)
        injection hxy with hxy
        subst hxy
        have hx := (O.bel.cell (by rw [addr_add_block]; exact hx0)).trans hx1
        have hy := (O.bel.cell (by rw [addr_add_block]; exact hx0)).trans hy1
        have es := half_set (L := L) (k := k) (by omega)
        obtain ⟨v, hv⟩ : ∃ v, L.length - 1 - k = v := ⟨_, rfl⟩
        rw [hv] at es
        have hvn : v < n := by omega
        have hvi : (p : Int) - k = (v : Int) := by omega
        have hvn2 : (v : Int) < n := by omega
        have hb2 := (hP.2 k (by omega)).1
        obtain ⟨⟨u, hu⟩, hf, O2⟩ := O.store (hlen k hk) hvn (lastL L - L.getD k 0)
        rw [es] at O2
        clear h hP O hx1 hy1 es hv hn
        generalize L.getD k 0 = y at hy hb2 O2
        generalize lastL L = t at hx hl O2
        go_wp2_with fail
        go_roundw
        case rel => exact ⟨k + 1, by omega, by go_num, O2⟩
        case measure => simp [intOf]; omega
      · obtain rfl : k = n := by omega
        have hc := O.copied
        rw [hX.out] at hc
        clear h hP O hx1
        go_wp2_with fail
        go_ret
        exact hc
end Go.Proofs.Ytokengeaiknmhaa
