/-
  A region that draws its order, walked by hand where what a load reads is made in the region: one operation taken first; the only one that may come up carried out.
-/
import Derived.Test.YtgjcbcbnjgghaaaRows
import Derived.Deep.RegionHeld3
namespace Go.Proofs.Ytgjcbcbnjgghaaa

theorem held_take {P : Program} {md : Region.Mode} {ops : Array Oper} {Q : Exit → Act → World → Prop} {S : World → Prop} {fuel : Nat} {listed : Array Bool} {a : Act} {w : World} (i : Nat)
    (hs : Region.noSelect ops = true) (hf : Region.free md ops listed i = true) (hr : (Region.ready md ops listed).contains i = true) (hi : decide (i < ops.size) = true) (hS : S w)
    (h : ∀ o, ops[i]? = some o → ∃ v, (∀ c a w, Q (.panic c) (a.put o.dst v) w → Q (.panic c) a w) ∧ YieldsIf P ops S o v a ∧ wpAnyH P md ops Q S fuel (listed.setIfInBounds i true) (a.put o.dst v) w) :
    wpAnyH P md ops Q S (fuel + 1) listed a w := by
  obtain ⟨v, h1, h2, h3⟩ := h (ops[i]'(of_decide_eq_true hi)) (Array.getElem?_eq_getElem (of_decide_eq_true hi))
  exact wpAnyH_take (Array.getElem?_eq_getElem (of_decide_eq_true hi)) hs hf hr h1 h2 hS h3
theorem held_only {P : Program} {md : Region.Mode} {ops : Array Oper} {Q : Exit → Act → World → Prop} {S : World → Prop} {fuel : Nat} {listed : Array Bool} {a : Act} {w : World} (i : Nat)
    (hr : Region.ready md ops listed = [i]) (hi : decide (i < ops.size) = true)
    (h : ∀ o, ops[i]? = some o → ∀ K' : Act → World → Prop, Shut (∀ a w, S w → (S w → wpAnyH P md ops Q S fuel (listed.setIfInBounds i true) a w) → K' a w) → if Region.wanted o (yielded ops a.tmps) = true then Oper.wp P o a w K' Q else K' (a.put o.dst undef) w) :
    wpAnyH P md ops Q S (fuel + 1) listed a w :=
  wpAnyH_ready hr (by simp) (AllReadyH.cons (Array.getElem?_eq_getElem (of_decide_eq_true hi)) (h (ops[i]'(of_decide_eq_true hi)) (Array.getElem?_eq_getElem (of_decide_eq_true hi))) AllReadyH.nil)
/-- From one condition to another. -/
theorem held_drew {P : Program} {id : Nat} {ops : Array Oper} {Q : Exit → Act → World → Prop} (S : World → Prop) {a : Act} {w : World} (hm : P.follows .mixedOrders = true) (hS : S w.drew)
    (h : S w.drew → wpAnyH P .any ops Q S ops.size (Array.replicate ops.size false) a w.drew) : (Code.region id ops true).wp P Q a w :=
  wp_region_held_drew hm hS h
end Go.Proofs.Ytgjcbcbnjgghaaa
