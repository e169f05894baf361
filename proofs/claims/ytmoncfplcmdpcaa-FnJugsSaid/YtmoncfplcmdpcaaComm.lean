/-
  Walks of one goroutine past its own communications: a statement's walk in a frame that is no early one; a region with a send into a buffer with room, a receive from a buffer that holds something, a receive from a closed channel whose buffer is empty. No program's walk.
-/
import Derived.Test.YtmoncfplcmdpcaaOwn
import Derived.Conc.LoneCalls
import Derived.Tactics2
namespace Go.Proofs.Ytmoncfplcmdpcaa
open Go.Conc Go.RowKit

/-- The statement comes to an end in the frame b. -/
def Walks (P : Program) (b : Frame) (c : Code) (Q : Exit → Act → World → Prop) (a : Act) (w : World) : Prop :=
  ∀ (k : List Item) (cs : List Frame), ∃ e a' w', Q e a' w' ∧ Arrives P (lone (b.at a (.code c :: k)) cs w) b k cs e a' w'
/-- What is left of a region does. -/
def Does (P : Program) (b : Frame) (ops : Array Oper) (Q : Exit → Act → World → Prop) (l : List Nat) (a : Act) (w : World) : Prop :=
  ∀ (k : List Item) (cs : List Frame), ∃ e a' w', Q e a' w' ∧ Arrives P (lone (b.at a (.inRegion ops l :: k)) cs w) b k cs e a' w'
section
variable {P : Program} {b : Frame} {Q : Exit → Act → World → Prop} {a : Act} {w : World}
theorem walks_wp {c : Code} (h : c.wp P Q a w) : Walks P b c Q a w := h b
theorem walks_to {x : Item} (hx : x.plain = true) {m : Machine} {k : List Item} {cs : List Frame} {e : Exit} {a' : Act} {w' : World} (he : e ≠ .normal) (h : Arrives P m b (x :: k) cs e a' w') : Arrives P m b k cs e a' w' :=
  .pass hx (fun _ _ => .inl he) h
theorem walks_seq {x y : Code} (h : Walks P b x (Exit.then (Walks P b y Q) Q) a w) : Walks P b (.seq x y) Q a w := fun k cs => by
  obtain ⟨e, a1, w1, hq, har⟩ := h (.code y :: k) cs
  by_cases he : e = .normal
  · subst he
    obtain ⟨e2, a2, w2, hq2, har2⟩ := hq k cs
    exact ⟨e2, a2, w2, hq2, .of_steps (.head step_seq har) har2⟩
  · have hq' : Q e a1 w1 := by
      cases e with
      | normal => exact absurd rfl he
      | exit id => exact hq
      | goto l => exact hq
      | ret => exact hq
      | panic ch => exact hq
      | outgrown => exact hq
    exact ⟨e, a1, w1, hq', .of_steps (.one step_seq) (walks_to rfl he har)⟩
/-- A first statement that the kit's own walk goes through. -/
theorem walks_first {x y : Code} (h : ∀ K : Act → World → Prop, (∀ a w, Walks P b y Q a w → K a w) → x.wp P (Exit.then K Q) a w) : Walks P b (.seq x y) Q a w :=
  walks_seq (walks_wp (h _ fun _ _ h => h))
theorem walks_cond {c : Operand} {x y : Code} {t : Bool} (hc : a.eval c = .bool t) (h : Walks P b (if t then x else y) Q a w) : Walks P b (.cond c x y) Q a w := fun k cs =>
  let ⟨e, a', w', q, r⟩ := h k cs
  ⟨e, a', w', q, .of_steps (.one (step_cond hc)) r⟩
theorem walks_block {id : Nat} {c : Code} (h : Walks P b c (Exit.inBlock id Q) a w) : Walks P b (.block id c) Q a w := fun k cs => by
  obtain ⟨e, a1, w1, hq, har⟩ := h (.inBlock id :: k) cs
  cases e with
  | normal => exact ⟨.normal, a1, w1, hq, .head step_block (Steps.trans har (.one step_inBlock))⟩
  | exit id' =>
    by_cases hid : id' = id
    · have hq' : Q .normal a1 w1 := by simpa only [Exit.inBlock, hid, if_true] using hq
      exact ⟨.normal, a1, w1, hq', .head step_block (har k (by simp [exitTo, hid]))⟩
    · have hq' : Q (.exit id') a1 w1 := by simpa only [Exit.inBlock, hid, if_false] using hq
      refine ⟨.exit id', a1, w1, hq', fun k' hk => .head step_block (har k' ?_)⟩
      have : (id == id') = false := by simpa using fun h => hid h.symm
      simp [exitTo, this, hk]
  | goto l => exact ⟨_, a1, w1, hq, fun k' hk => .head step_block (har k' (by simp [gotoIn, hk]))⟩
  | ret => exact ⟨_, a1, w1, hq, .of_steps (.one step_block) har⟩
  | panic ch => exact ⟨_, a1, w1, hq, .of_steps (.one step_block) har⟩
  | outgrown => exact ⟨_, a1, w1, hq, .of_steps (b := b) (k := k) (cs := cs) (e := .outgrown) (.one step_block) har⟩
/-- A loop with a number that falls from round to round. -/
theorem walks_count {c : Code} (I : Nat → Act → World → Prop) (n : Nat) (h0 : I n a w)
    (round : ∀ n a w, I n a w → Walks P b c (Exit.then (fun a' w' => ∃ n', n' < n ∧ I n' a' w') Q) a w) : Walks P b (.loop c) Q a w := fun k cs => by
  have key : ∀ (n j : Nat) (a : Act) (w : World), j ≤ n → I j a w → ∃ e a' w', Q e a' w' ∧ Arrives P (lone (b.at a (.code c :: .inLoop c :: k)) cs w) b k cs e a' w' := by
    intro n
    induction n with
    | zero =>
      intro j a w hn hI
      obtain ⟨e, a1, w1, hq, har⟩ := round j a w hI (.inLoop c :: k) cs
      by_cases he : e = .normal
      · subst he
        obtain ⟨n', hlt, -⟩ := hq
        omega
      · have hq' : Q e a1 w1 := by
          cases e with
          | normal => exact absurd rfl he
          | exit id => exact hq
          | goto l => exact hq
          | ret => exact hq
          | panic ch => exact hq
          | outgrown => exact hq
        exact ⟨e, a1, w1, hq', walks_to rfl he har⟩
    | succ n ih =>
      intro j a w hn hI
      obtain ⟨e, a1, w1, hq, har⟩ := round j a w hI (.inLoop c :: k) cs
      by_cases he : e = .normal
      · subst he
        obtain ⟨n', hlt, hI1⟩ := hq
        obtain ⟨e2, a2, w2, hq2, har2⟩ := ih n' a1 w1 (by omega) hI1
        exact ⟨e2, a2, w2, hq2, .of_steps (Steps.trans har (.one step_inLoop)) har2⟩
      · have hq' : Q e a1 w1 := by
          cases e with
          | normal => exact absurd rfl he
          | exit id => exact hq
          | goto l => exact hq
          | ret => exact hq
          | panic ch => exact hq
          | outgrown => exact hq
        exact ⟨e, a1, w1, hq', walks_to rfl he har⟩
  obtain ⟨e, a', w', hq, har⟩ := key n n a w (Nat.le_refl _) h0
  exact ⟨e, a', w', hq, .of_steps (.one step_loop) har⟩
theorem walks_region {id : Nat} {ops : Array Oper} (h : Does P b ops Q (List.range ops.size) a w) : Walks P b (.region id ops false) Q a w := fun k cs =>
  let ⟨e, a', w', q, r⟩ := h k cs
  ⟨e, a', w', q, .of_steps (.one step_region) r⟩
theorem walks_mono {c : Code} {Q' : Exit → Act → World → Prop} (h : Walks P b c Q a w) (hq : ∀ e a w, Q e a w → Q' e a w) : Walks P b c Q' a w := fun k cs =>
  let ⟨e, a', w', q, r⟩ := h k cs
  ⟨e, a', w', hq _ _ _ q, r⟩

/-! ### a region with a communication, operation by operation -/
variable {ops : Array Oper} {i : Nat} {rest : List Nat} {o : Oper}
theorem does_end (h : Q .normal a w) : Does P b ops Q [] a w := fun _ _ => ⟨.normal, a, w, h, .one step_region_end⟩
theorem does_value {v : Value} (ho : ops[i]? = some o) (hw : Region.wanted o (yielded ops a.tmps) = true) (hr : (execOp a.eval o).run P w = .ok (.value v) w) (h : Does P b ops Q rest (a.put o.dst v) w) : Does P b ops Q (i :: rest) a w := fun k cs => by
  obtain ⟨e, a', w', hq, har⟩ := h k cs
  have hg := stepG_op (P := P) (b := b) (k := k) (cs := cs) (w := w) (rest := rest) ho hw
  refine ⟨e, a', w', hq, .of_steps (.one (step_lone_go ?_)) har⟩
  have hf : (b.at a (.inRegion ops (i :: rest) :: k)).finish v = b.at (a.put o.dst v) (.inRegion ops rest :: k) := by rw [Frame.finish_at, ho]; rfl
  rw [hg, ← hf]
  simp [stepG.apply, hr]
variable {c cap s r : Nat} {buf : Array Value} {z z' v : Value} {tm closed : Bool}
theorem does_send (hb : b.kind ≠ .early) (ho : ops[i]? = some o) (hw : Region.wanted o (yielded ops a.tmps) = true) (hr : (execOp a.eval o).run P w = .ok (.comm #[scase c v z'] true .send) w)
    (hc : w.heap[c]? = some (.chan cap buf false s r tm)) (hroom : buf.size < cap) (h : Does P b ops Q rest (a.put o.dst undef) (w.setChan c cap (buf.push v) false (s + 1) r tm)) : Does P b ops Q (i :: rest) a w := fun k cs => by
  obtain ⟨e, a', w', hq, har⟩ := h k cs
  have hs := step_lone_send_room (P := P) (stepG_comm (k := k) (cs := cs) (rest := rest) ho hw hb hr) hc hroom
  rw [Frame.finish_at, ho] at hs
  exact ⟨e, a', w', hq, .of_steps (.one hs) har⟩
theorem does_recv (ok : Bool) (hb : b.kind ≠ .early) (ho : ops[i]? = some o) (hw : Region.wanted o (yielded ops a.tmps) = true) (hr : (execOp a.eval o).run P w = .ok (.comm #[rcase c z] true (.recv ok)) w)
    (hc : w.heap[c]? = some (.chan cap buf closed s r tm)) (hsome : 0 < buf.size) (h : Does P b ops Q rest (a.put o.dst (got ok (buf.getD 0 undef) true)) (w.setChan c cap (buf.extract 1 buf.size) closed s (r + 1) tm)) : Does P b ops Q (i :: rest) a w := fun k cs => by
  obtain ⟨e, a', w', hq, har⟩ := h k cs
  have hs := step_lone_recv_buf (P := P) ok (stepG_comm (k := k) (cs := cs) (rest := rest) ho hw hb hr) hc hsome
  rw [Frame.finish_at, ho] at hs
  exact ⟨e, a', w', hq, .of_steps (.one hs) har⟩
theorem does_recv_shut (ok : Bool) (hb : b.kind ≠ .early) (ho : ops[i]? = some o) (hw : Region.wanted o (yielded ops a.tmps) = true) (hr : (execOp a.eval o).run P w = .ok (.comm #[rcase c z] true (.recv ok)) w)
    (hc : w.heap[c]? = some (.chan cap #[] true s r tm)) (h : Does P b ops Q rest (a.put o.dst (got ok z false)) w) : Does P b ops Q (i :: rest) a w := fun k cs => by
  obtain ⟨e, a', w', hq, har⟩ := h k cs
  have hs := step_lone_recv_shut (P := P) ok (stepG_comm (k := k) (cs := cs) (rest := rest) ho hw hb hr) hc
  rw [Frame.finish_at, ho] at hs
  exact ⟨e, a', w', hq, .of_steps (.one hs) har⟩
end

/-- A function's contract out of its body's walk. -/
theorem calls_of_walks {P : Program} {f : FuncId} {fn : Func} {c : Code} {args : Array Value} {w : World} {R : Ending → World → Prop} (hf : P.funcs[f]? = some fn) (hb : fn.body = some c)
    (h : ∀ b : Frame, b.kind = .normal → Walks P b c (bodyPost P fn R) { tmps := args ++ Array.replicate (fn.ntmps - args.size) undef, defers := [] } w) : Calls P f args w R := fun cs => by
  have hen : Frame.enter P f args .normal = ({ (default : Frame) with fn := f, kind := .normal } : Frame).at { tmps := args ++ Array.replicate (fn.ntmps - args.size) undef, defers := [] } [.code c] := by
    simp [Frame.enter, Frame.at, hf, hb]
  obtain ⟨e, a', w', hq, har⟩ := h { (default : Frame) with fn := f, kind := .normal } rfl [] cs
  rw [← hen] at har
  cases e with
  | normal =>
    obtain ⟨hd, v, hr, hR⟩ := hq
    exact ⟨.returned v, w', _, hR, Steps.trans har (.one step_end), rfl, rfl, hd, rfl, fn, hf, hr⟩
  | ret =>
    obtain ⟨hd, v, hr, hR⟩ := hq
    obtain ⟨todo, hs⟩ := har
    exact ⟨.returned v, w', _, hR, hs, rfl, rfl, hd, rfl, fn, hf, hr⟩
  | panic chain =>
    obtain ⟨hd, hR⟩ := hq
    obtain ⟨todo, hs⟩ := har
    exact ⟨.panicked chain, w', _, hR, hs, rfl, rfl, hd, fn, hf⟩
  | exit id => exact hq.elim
  | goto l => exact hq.elim
  | outgrown => exact ⟨.outgrown, w', { (default : Frame) with fn := f, kind := .normal }, hq, har.resolve_left (by simp), rfl, trivial⟩

/-! ### the channel's block -/
theorem grown_setChan (w : World) (c cap : Nat) (buf : Array Value) (cl : Bool) (s r : Nat) (tm : Bool) : w.grownBy (w.setChan c cap buf cl s r tm) (some c) :=
  ⟨rfl, rfl, rfl, by simp [World.setChan], fun k _ hk => by simp only [World.setChan]; rw [Array.getElem?_setIfInBounds_ne (fun e => hk (by rw [e]))]⟩
end Go.Proofs.Ytmoncfplcmdpcaa
