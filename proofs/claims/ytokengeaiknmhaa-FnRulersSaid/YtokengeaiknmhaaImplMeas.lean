/-
  The contract of the program's check that each length occurs. Only new memory is written.
-/
import Derived.Test.YtokengeaiknmhaaImplCounts
import Derived.Test.YtokengeaiknmhaaRulerLen
import Derived.Deep.RegionLaw
namespace Go.Proofs.Ytokengeaiknmhaa
open Go.ChangeShapes Go.WideShapes Go.ChangeAt Go.RowKit Go.PlainAid Go.Maps

theorem step_len_counts {w : World} {ops : Array Oper} {o : Oper} {a : Act} {K : Act → World → Prop} {Q : Exit → Act → World → Prop} {E : Prop} {w0 : World} {B : Nat} {C : List Int}
    (hg : Region.wanted o (yielded ops a.tmps) = true) (m : Operand) (t : TypeId) (hop : o.op = Op.call { callee := Callee.builtin Builtin.len, args := #[m], argTypes := #[t] }) (ht : t = 37) (hs : MapSt w0 w B C) (hm : a.eval m = .map (some B))
    (hK : K (a.put o.dst (.int .i64 (dist C))) w) : if Region.wanted o (yielded ops a.tmps) = true then Oper.wp Try.prog o a w K Q else E := by
  subst ht
  obtain ⟨D, hown, hR, -⟩ := hs
  rw [if_pos hg]
  unfold Oper.wp
  simp [execOp, hop, resolve, invoke, builtin, hm, hown.len Try.underlyingMap o.type, Result.andThen]
  rw [hR.2.2.2]
  exact hK

set_option maxRecDepth 100000 in
set_option maxHeartbeats 4000000 in
theorem implMeasures_any (A : Option Addr) (c n : Nat) (L : List Int) (w : World) (hn : L.length = n) (hm : n ≤ 9223372036854775807) (hc : n ≤ c) (h : IntRow w A L) :
    Calls Try.prog 20 #[.slice A n c] w (SaysB (measB L) w) := by
  have kd : Below w.heap.size w w.drew := (Below.refl _ _).drew
  have hR := implRuler_any A c n L w.drew hn hm (h.keep kd)
  obtain ⟨z, hz⟩ : ∃ z, measB L = z := ⟨_, rfl⟩
  rw [hz]
  replace hz : Hid (measB L = z) := hz
  rcases hb : rulB L with _ | _
  · obtain rfl : z = false := hz.out.symm.trans (measB_no hb)
    have hQ := fun W r => implRuler_any A c n L W hn hm r
    rw [hb] at hQ
    clear hz hb hR kd
    go_enter Try.func20, Try.ntmps20
    go_wp2_with fail
    go_quiet (first | (go_at_call 21; refine Calls.quiet_of (hQ _ (h.keep (below_drewN (Below.refl _ _) _)))))
    go_wp2_with fail
    go_ret
    exact ⟨rfl, below_drewN (Below.refl _ _) _⟩
  · have hC := fun W r => (implCounts_any A c n L W hn hm hc r).mono (R' := fun e w' => ∃ B, e = .returned (.map (some B)) ∧ MapSt W w' B (lens L)) fun e w' g => by
      rcases g with ⟨g, -⟩ | ⟨-, g⟩
      · rw [hb] at g; cases g
      · exact g
    have hg := measB_dist hb
    rw [hz.out] at hg
    have hP := rulB_P hb
    have hn8 := hP.1.1
    rw [hn] at hn8
    have hl := hP.last
    rw [hb] at hR
    obtain ⟨p, hp⟩ : ∃ p, n = p + 1 := ⟨n - 1, by omega⟩
    obtain ⟨x, rfl, hx0, hx1⟩ := h p (by omega)
    have el : L.getD p 0 = lastL L := by unfold lastL; rw [hn, hp, Nat.add_sub_cancel]
    rw [el] at hx1
    have hpi : (n : Int) - 1 = p := by omega
    have hpn : (p : Int) < n := by omega
    have hw : IntKind.i64.wrap (p : Int) = p := IntWalk.i64_in _ (by omega)
    clear hb hz hP el hp
    generalize lastL L = t at hx1 hg hl
    generalize lens L = D at hC hg
    generalize hdd : dist D = d at hg
    replace hdd : Hid (dist D = d) := hdd
    go_enter Try.func20, Try.ntmps20
    go_wp2_with fail
    go_region_law (first
      | (go_simp; go_at_call 21; (with_reducible refine hR.mono ?_); rintro e w1 ⟨rfl, q, rfl⟩; have kb := kd.trans (below_drewN (Below.refl w.heap.size w.drew) q); generalize w.drew.drewN q = w1 at kb ⊢; have hx := (kb.cell (by rw [addr_add_block]; exact hx0)).trans hx1; have hC1 := hC w1 (h.keep kb); clear hR kd)
      | (go_simp; go_at_call 35; (with_reducible refine hC1.mono ?_); rintro e w2 ⟨B, rfl, M⟩; replace hx := (M.bel.cell (lt_of_cell hx)).trans hx; have kb2 := kb.trans (M.bel.mono kb.size); clear hC1)
      | (refine step_len_counts (by rfl) _ _ rfl rfl M rfl ?_; rw [hdd.out]))
    all_goals
      go_wp2_with fail
      go_ret
      refine ⟨?_, kb2⟩
      rw [show z = ((d : Int) == t) from hg]
      rfl
end Go.Proofs.Ytokengeaiknmhaa
