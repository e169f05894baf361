/-
  ChainLines returns what the model returns, every field, at every argument. No condition.
  The frame below was written by the guide's program (proof-skeleton), with 'Below' in the place of 'Grown'; the walk is mine.
-/
import Derived.Test.YtploanbnbkhciaaRows
import Derived.Test.YtploanbnbkhciaaExactCh
import Derived.Test.YtploanbnbkhciaaOpenNest
import Derived.WalkKit
import Derived.ProofKit
import Derived.OpenShut
import Derived.ShutString
import Derived.ChangeOld
import Derived.Below
import Derived.Lib.SmallJoins
namespace Go.Proofs.Ytploanbnbkhciaa.fnExactChainLines
open Go.ChangeShapes Go.WideShapes Go.ChangeAt Go.RowKit Go.Joins
open Go.ChangeMaps (open_string shut_string)
set_option linter.unusedVariables false      -- a walk need not use every 'w<i>' (that an integer argument fits its kind)

theorem own : ownKnob Try.prog.godebug = none := by kernel_rfl
theorem cells39 : Try.prog.cellsOf 39 = 4 := by kernel_rfl
theorem laidOut : laidOutB Try.prog = true := by kernel_rfl

/-! ### STEP 1: THE WALK: the Go text returns true. 'Grown w w'': the world has at most new blocks (Derived/RowKit3.lean). Part the cases AHEAD of 'go_enter' where a test parts the walk; take each callee by a contract of your own. -/
theorem walk (a0f0 a0f1 a0f2 a0f3 : Int) (a1f0 a1f1 a1f2 a1f3 : Int) (w0f0 : (Lit.int .i64 a0f0).wf = true) (w0f1 : (Lit.int .i64 a0f1).wf = true) (w0f2 : (Lit.int .i64 a0f2).wf = true) (w0f3 : (Lit.int .i64 a0f3).wf = true) (w1f0 : (Lit.int .i64 a1f0).wf = true) (w1f1 : (Lit.int .i64 a1f1).wf = true) (w1f2 : (Lit.int .i64 a1f2).wf = true) (w1f3 : (Lit.int .i64 a1f3).wf = true) (w : World) :
    Calls Try.prog 8 #[.agg #[.int .i64 a0f0, .int .i64 a0f1, .int .i64 a0f2, .int .i64 a0f3], .agg #[.int .i64 a1f0, .int .i64 a1f1, .int .i64 a1f2, .int .i64 a1f3]] w fun e w' => e = .returned (.bool true) ∧ Below w.heap.size w w' := by
  exact exactCh_any a0f0 a0f1 a0f2 a0f3 a1f0 a1f1 a1f2 a1f3 w

/-! ### THE ROW's STEP: WRITTEN OUT: LEAVE IT -/
set_option maxRecDepth 100000 in
theorem lifted (os : Os) (started : os.Started) (H : Type) (enc : TypeId × Value → H) :
    ReturnsInHanded {} Try.checked os 8 .any (Rows.fnExactChainLinesSpec.pre6 enc Try.prog Try.f8 Rows.fnExactChainLinesRow.domain false) (Rows.fnExactChainLinesSpec.post enc Try.prog Try.f8 false true false false) := by
  refine returnsInHanded_of_change (C := Try.checked) own started (by kernel_rfl) Try.func8
    (ChangeSpec.witness6 (enc := enc) (C := Try.checked) false ⟨#[], #[.agg #[.int .i64 0, .int .i64 0, .int .i64 0, .int .i64 0], .agg #[.int .i64 0, .int .i64 0, .int .i64 0, .int .i64 0]], []⟩ 8 (by kernel_rfl) (by kernel_rfl) (by kernel_rfl) (by kernel_rfl)) ?_
  intro W base args ds gs before hval0 hW hcnd _
  have hval : ∀ (j : Nat) t v, Try.f8.params[j]? = some t → args[j]? = some v → Value.okWide Try.prog W .any base t v := hval0
  have hW' := hW
  obtain ⟨p, q, hA0, hV, rfl, hfz, hnd⟩ := hW
  have hA : DataW.TrodAll enc Try.prog W 0 (fun _ => true) true Try.f8.params.toList args.toList ds p := hA0
  rw [Try.params8] at hA hval
  obtain ⟨v0, vs0, d0, ds0, p0, q0, hargs, rfl, rfl, h0, r0⟩ := trodAll_cons hA
  obtain ⟨v1, vs1, d1, ds1, p1, q1, rfl, rfl, rfl, h1, r1⟩ := trodAll_cons r0
  obtain ⟨rfl, rfl, rfl⟩ := trodAll_nil r1
  obtain rfl : args = #[v0, v1] := by cases args; simp_all
  obtain ⟨rfl, rfl⟩ := trodVars_none hV
  have k0 := h0
  have lt0 : ∀ x ∈ p0, x.block < W.heap.size := by obtain ⟨m, hm⟩ := k0; exact DataW.trod_lt m _ _ _ hm
  obtain ⟨x0f0, x0f1, x0f2, x0f3, y0f0, y0f1, y0f2, y0f3, m0, n0, rfl, rfl, rfl, hf0f0, hf0f1, hf0f2, hf0f3⟩ := open_agg22 Try.underlying39 Try.underlying37 Try.underlying37 ⟨rfl, rfl, rfl, rfl⟩ ⟨cells39, by kernel_rfl, by kernel_rfl, by kernel_rfl, by kernel_rfl⟩ (hval 0 39 v0 rfl rfl) h0
  obtain ⟨a0f0, e0f0, rfl, w0f0⟩ := DataW.trod_int Try.underlying3 hf0f0
  obtain ⟨a0f1, e0f1, rfl, w0f1⟩ := DataW.trod_int Try.underlying3 hf0f1
  obtain ⟨a0f2, e0f2, rfl, w0f2⟩ := DataW.trod_int Try.underlying3 hf0f2
  obtain ⟨a0f3, e0f3, rfl, w0f3⟩ := DataW.trod_int Try.underlying3 hf0f3
  simp at e0f0 e0f1 e0f2 e0f3
  subst e0f0 e0f1 e0f2 e0f3
  have k1 := h1
  have lt1 : ∀ x ∈ p1, x.block < W.heap.size := by obtain ⟨m, hm⟩ := k1; exact DataW.trod_lt m _ _ _ hm
  obtain ⟨x1f0, x1f1, x1f2, x1f3, y1f0, y1f1, y1f2, y1f3, m1, n1, rfl, rfl, rfl, hf1f0, hf1f1, hf1f2, hf1f3⟩ := open_agg22 Try.underlying39 Try.underlying37 Try.underlying37 ⟨rfl, rfl, rfl, rfl⟩ ⟨cells39, by kernel_rfl, by kernel_rfl, by kernel_rfl, by kernel_rfl⟩ (hval 1 39 v1 rfl rfl) h1
  obtain ⟨a1f0, e1f0, rfl, w1f0⟩ := DataW.trod_int Try.underlying3 hf1f0
  obtain ⟨a1f1, e1f1, rfl, w1f1⟩ := DataW.trod_int Try.underlying3 hf1f1
  obtain ⟨a1f2, e1f2, rfl, w1f2⟩ := DataW.trod_int Try.underlying3 hf1f2
  obtain ⟨a1f3, e1f3, rfl, w1f3⟩ := DataW.trod_int Try.underlying3 hf1f3
  simp at e1f0 e1f1 e1f2 e1f3
  subst e1f0 e1f1 e1f2 e1f3
  clear hA0 hval0
  refine (walk a0f0 a0f1 a0f2 a0f3 a1f0 a1f1 a1f2 a1f3 w0f0 w0f1 w0f2 w0f3 w1f0 w1f1 w1f2 w1f3 W).mono fun e W' ⟨he, bel⟩ => ?_
  subst he
  exact ⟨_, rfl, _, _, _, [], _, [], hW', trodAll_mk1 (shut_bool Try.underlying4 _), (trodAll_cons_mk (Below.trod laidOut (by kernel_rfl) (of_decide_eq_true (by kernel_rfl)) k0 bel lt0) (trodAll_cons_mk (Below.trod laidOut (by kernel_rfl) (of_decide_eq_true (by kernel_rfl)) k1 bel lt1) trodAll_mk0)), rfl, bel.frame _, fun h => by cases h⟩

theorem over : Rows.fnExactChainLinesRow.holds Try.pinned (OpenSpec.ofChange Rows.fnExactChainLinesSpec) :=
  OpenClaim.holds_of_wide 8 Try.f8 rfl rfl rfl rfl rfl rfl rfl ⟨rfl, rfl, rfl, rfl, rfl⟩ rfl rfl rfl rfl rfl (by kernel_rfl) Try.func8 (by kernel_rfl)
    (of_decide_eq_true (by kernel_rfl)) (by unfold Func.isWrapper; first | (rw [if_pos (by decide +kernel)]; kernel_rfl) | (rw [if_neg (by decide +kernel)]; exact ⟨rfl, rfl⟩))
    (fun os started H enc _ => lifted os started H enc)

/-- ████ THE STATEMENT ████ -/
theorem proved : Rows.FnExactChainLinesSaid :=
  over
#print axioms proved
end Go.Proofs.Ytploanbnbkhciaa.fnExactChainLines
