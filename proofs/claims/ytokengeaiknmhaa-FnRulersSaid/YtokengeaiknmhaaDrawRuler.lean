/-
  The draw of a ruler: marks 1 to 6 apart, from 0 on, in memory of the call's own.
-/
import Derived.Test.YtokengeaiknmhaaLst
import Derived.Test.YtokengeaiknmhaaRulFacts
import Derived.Test.YtokengeaiknmhaaSpillOne
import Derived.Test.YtokengeaiknmhaaCapOwn
import Derived.OwnWalk
import Derived.BigRegion
import Derived.BigQuiet
import Derived.Deep.RegionLaw
namespace Go.Proofs.Ytokengeaiknmhaa
open Go.ChangeShapes Go.WideShapes Go.ChangeAt Go.RowKit Go.PlainAid

def DrawnRuler (w : World) (p : Nat) (a : Option Addr) (len cap : Nat) (e : Ending) (w' : World) : Prop :=
  ∃ (A : Option Addr) (c : Nat) (L : List Int), Gap L ∧ L.length ≤ 6 ∧ L.length ≤ c ∧ e = .returned (.slice A L.length c) ∧ Cur w' p a len cap ∧ IntRow w' A L ∧ w.grownBy w' (some p)

theorem LSt.one {w : World} {p : Nat} {a : Option Addr} {len cap : Nat} (C : Cur w p a len cap) (z : Int) : LSt w p a len cap (.slice (some ⟨w.heap.size, 0, .none⟩) 1 1) [z] (w.alloc (.cells #[.int .i64 z] 3)) :=
  ⟨C.alloc _, (own_one (Own.none w) z).hd, World.grownBy_alloc w _ _⟩
theorem LSt.form {w wr : World} {p : Nat} {a : Option Addr} {len cap : Nat} {v : Value} {xs : List Int} (h : LSt w p a len cap v xs wr) {k : Nat} (hk : xs.length = k + 1) : ∃ g c, v = .slice (some ⟨g, 0, none⟩) (k + 1) c := by
  have o := h.own
  obtain ⟨g, c, hv, -, -⟩ := o.form (by omega)
  exact ⟨g, c, by rw [hv, hk]⟩
theorem LSt.cell {w wr : World} {p : Nat} {a : Option Addr} {len cap g c k : Nat} {xs : List Int} (h : LSt w p a len cap (.slice (some ⟨g, 0, none⟩) (k + 1) c) xs wr) (hk : xs.length = k + 1) {z : Int} (hz : Hid (xs.getD k 0 = z)) : wr.cell? ⟨g, k, none⟩ = some (.int .i64 z) := by
  have o := h.own
  rw [hk] at o
  rw [← hz.out]
  exact (o.cellAt k (by omega)).trans (ints_get (by omega))

set_option maxRecDepth 100000 in
set_option maxHeartbeats 4000000 in
theorem rulerDraw_any (p len cap : Nat) (a : Option Addr) (w : World) (C : Cur w p a len cap) :
    Calls Try.prog 33 #[.pointer (some ⟨p, 0, none⟩)] w (DrawnRuler w p a len cap) := by
  obtain ⟨i0, hi, hz0, hz1, hz2⟩ := info_parts Try.infoIntT
  have hp := C.lt
  have S0 := LSt.one C 0
  clear C
  go_enter Try.func33, Try.ntmps33
  go_wp2_with fail
  refine (below_any 6 p len cap a _ S0.cur).mono ?_
  rintro e w1 ⟨u, ⟨-, hu⟩, rfl, C1, g1⟩
  obtain ⟨u0, u1⟩ := hu (by omega)
  replace S0 := S0.drawn hp C1 g1
  obtain ⟨n, rfl⟩ := Int.eq_ofNat_of_zero_le u0
  clear hu C1 g1 u0
  go_wp2_with fail
  go_loopw [3, 5] (fun v i wr => ∃ (k : Nat) (xs : List Int), k ≤ n ∧ xs.length = k + 1 ∧ i = .int .i64 k ∧ Gap xs ∧ LSt w p a len cap v xs wr) (fun _ i _ => n - (intOf i).toNat)
  case atStart => exact ⟨0, [0], by omega, rfl, rfl, gap_zero, S0⟩
  case round =>
    clear S0
    obtain ⟨k, xs, hk, hl, rfl, hG, S⟩ := hrel
    by_cases hlt : k < n
    · have hlt2 : (k : Int) < n := by omega
      obtain ⟨g, c, rfl⟩ := S.form hl
      have zb := gap_le hG k (by omega)
      obtain ⟨z, hz⟩ : ∃ z, xs.getD k 0 = z := ⟨_, rfl⟩
      rw [hz] at zb
      replace hz : Hid (xs.getD k 0 = z) := hz
      have z0 : 0 ≤ z := by omega
      have z1 : z ≤ 36 := by omega
      have Sd := S.drawn hp (S.cur.drewN 1) (grown_drewN (World.grownBy.refl _ _) 1)
      have hc := S.cell hl hz
      have hcd := Sd.cell hl hz
      have hin : (k : Int) < (k : Int) + 1 := by omega
      clear zb
      go_wp2_with fail
      go_region_law (first
        | (refine step_append_spill _ rfl (.tmp 14) (.tmp 23) 24 rfl w.heap.size 3 i0 (.int .i64 0) Try.underlying24 hi hz0 hz1 hz2 rfl _ (k + 1) _ rfl (h1.alloc _) ⟨w2.heap.size, 0, none⟩ 1 (.int .i64 (IntKind.i64.wrap (IntKind.i64.wrap (z + 1) + d))) rfl (new_one w2 _ _) rfl (by omega) (by simp; omega) ?_; intro v' w3 o1 g1 _ _)
        | (go_simp; go_at_call 40; refine (below_any 6 p len cap a _ Sd.cur).mono ?_; rintro e w2 ⟨d, ⟨-, hd⟩, rfl, C1, g1⟩; obtain ⟨d0, d1⟩ := hd (by omega); have S1 := Sd.drawn hp C1 g1; have hs1 := S1.grown.size; have hc1 := S1.cell hl hz; have h1 := S1.own; rw [hl] at h1; clear hd C1 g1))
      all_goals
        have o2 : w3.ownsRow w.heap.size 3 1 v' (xs.length + 1) (ints xs ++ [.int .i64 (z + 1 + d)]) := by
          have hw : IntKind.i64.wrap (IntKind.i64.wrap (z + 1) + d) = z + 1 + d := by rw [IntKind.wrap_i64 (z + 1), IntKind.wrap_i64]; all_goals omega
          rw [hw] at o1
          rw [hl]; exact o1
        have S2 := S1.app hp o2 g1
        have G2 := gap_app hG hl d0 d1
        rw [hz.out] at G2
        clear o1 o2 g1 S1 hc1 Sd S hc hcd h1
        go_wp2
        go_roundw
        case rel => exact ⟨k + 1, _, by omega, by rw [List.length_append, hl]; rfl, by go_num, G2, S2⟩
        case measure => simp [intOf]; omega
    · obtain rfl : k = n := by omega
      have hge : ¬ (k : Int) < k := by omega
      obtain ⟨A, c, rfl⟩ := own_slice S.own
      have hend : DrawnRuler w p a len cap (.returned (.slice A xs.length c)) wr := ⟨A, c, xs, hG, by omega, cap_own S.own, rfl, S.cur, intRow_own S.own, S.grown⟩
      rw [hl] at hend
      clear S hG
      go_wp2
      go_ret
      exact hend

/-- What the law's draw answers. -/
def DrawnRulerL (B : Nat) (w : World) (e : Ending) (w' : World) : Prop :=
  ∃ (A : Option Addr) (c : Nat) (L : List Int), Gap L ∧ L.length ≤ 6 ∧ L.length ≤ c ∧ e = .returned (.slice A L.length c) ∧ IntRow w' A L ∧ Below B w w'

theorem drawRuler_any (B : Nat) (a : Option Addr) (len cap : Nat) (w : World) (hB : B = w.heap.size) (hl : len ≤ 1048576) (hr : Bytes w w.heap.size a len) :
    Calls Try.prog 12 #[.slice a len cap] w (DrawnRulerL B w) := by
  go_enter Try.func12, Try.ntmps12
  go_wp2_with fail
  refine (new_any a len cap w hl hr).mono ?_
  rintro e w0 ⟨rfl, C0, b0, s0⟩
  have bel : ∀ w2 : World, w0.grownBy w2 (some w.heap.size) → Below B w w2 := fun w2 g => hB ▸ b0.trans (below_of_grown g (Nat.le_refl _) (by omega))
  clear b0 s0 hr hl hB
  generalize w.heap.size = p at C0 bel ⊢
  go_wp2_with fail
  refine (rulerDraw_any p len cap a _ C0).mono ?_
  rintro e w1 ⟨A, c, L, hP, h6, hc, rfl, C1, r, g1⟩
  have hend : DrawnRulerL B w (.returned (.slice A L.length c)) w1 := ⟨A, c, L, hP, h6, hc, rfl, r, bel _ g1⟩
  clear bel hP h6 hc C0 C1 r g1
  go_wp2_with fail
  go_ret
  exact hend
end Go.Proofs.Ytokengeaiknmhaa
