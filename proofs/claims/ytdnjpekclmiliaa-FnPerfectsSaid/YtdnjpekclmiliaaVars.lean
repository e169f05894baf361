/-
  Variables of the call's own that hold a slice, each in a block of its own; slices that were just built of given ints. No program's walk.
-/
import Derived.Test.YtdnjpekclmiliaaPans
import Derived.Test.YtdnjpekclmiliaaSays
namespace Go.Proofs.Ytdnjpekclmiliaa
open Go.ChangeShapes Go.WideShapes Go.ChangeAt Go.RowKit Go.PlainAid

/-- A variable that holds a slice. -/
def vrow (g : Nat) (v : Value) : Rw := ⟨27, 1, .slice (some ⟨g, 0, .none⟩) 1 1, 1, [v]⟩
theorem ownsRow_whole {w : World} {base n : Nat} {e : TypeId} {cur : Array Value} (hb : base ≤ w.heap.size) (hn : cur.size = n) (hm : n ≤ maxLen) : (w.alloc (.cells cur e)).ownsRow base e 1 (.slice (some ⟨w.heap.size, 0, .none⟩) n n) n cur.toList :=
  ⟨by simpa using hn, .inr ⟨w.heap.size, n, cur, rfl, hb, heap_alloc_new w _, Nat.le_refl _, hm, by omega, by rw [Nat.mul_one, ← hn, ← Array.length_toList, List.take_length]⟩⟩
theorem Own.vcell {w wr : World} {g : Nat} {v : Value} {R : List Rw} (h : Own w wr R) (hm : vrow g v ∈ R) : wr.cell? ⟨g, 0, .none⟩ = some v := by
  have o : wr.ownsRow w.heap.size 27 1 (.slice (some ⟨g, 0, .none⟩) 1 1) 1 [v] := h.own _ hm
  exact (o.cellAt 0 (by decide)).trans rfl
theorem Own.vstore {w wr : World} {g : Nat} {v : Value} {R : List Rw} (h : Own w wr (vrow g v :: R)) (u : Value) :
    wr.cell? ⟨g, 0, .none⟩ = some v ∧ wr.frozen? ⟨g, 0, .none⟩ = false ∧ Own w (wr.setCell ⟨g, 0, .none⟩ u) (vrow g u :: R) := by
  have o : wr.ownsRow w.heap.size 27 1 (.slice (some ⟨g, 0, .none⟩) 1 1) 1 [v] := h.hd
  obtain ⟨s1, s2⟩ := o.stored 0 u
  exact ⟨h.vcell List.mem_cons_self, o.frozenAt 0, h.head (r' := vrow g u) (grown_setCell (World.grownBy.refl wr _) 0 _) s1 (.inl rfl)⟩
theorem Own.var {w wr : World} {R : List Rw} (h : Own w wr R) (v : Value) : Own w (wr.alloc (.cells #[v] 27)) (vrow wr.heap.size v :: R) :=
  h.add ((Below.refl _ _).alloc (Nat.le_refl _) _) (ownsRow_whole (Nat.le_refl _) rfl (by decide))
theorem Own.lit {w wr : World} {R : List Rw} (h : Own w wr R) (L : List Int) (n : Nat) (hn : L.length = n) (hm : n ≤ 1000) : Own w (wr.alloc (.cells (ints L).toArray 3)) (irow (.slice (some ⟨wr.heap.size, 0, .none⟩) n n) L :: R) := by
  subst hn
  refine h.add ((Below.refl _ _).alloc (Nat.le_refl _) _) ?_
  have := ownsRow_whole (w := wr) (base := wr.heap.size) (n := L.length) (e := 3) (cur := (ints L).toArray) (Nat.le_refl _) (by simp [ints_length]) (by unfold maxLen; omega)
  simpa using this
theorem Own.fits {w wr w0 : World} {R : List Rw} {v : Value} (h : Own w wr R) (o : w0.ownsRow wr.heap.size 3 1 v 0 []) (g : wr.grownBy w0 .none) : Own w w0 (irow v [] :: R) :=
  h.add ((Below.refl _ _).grown g (Nat.le_refl _) (fun k e => by cases e)) o
theorem Own.keepFour {w wr : World} {a b c d e : Rw} (h : Own w wr [a, b, c, d, e]) : Own w wr [a, c, b, e] :=
  (((h.perm (.cons a (.swap c b [d, e]))).perm (List.perm_append_comm (l₁ := [a, c, b]) (l₂ := [d, e]))).tl.perm (List.perm_append_comm (l₁ := [e]) (l₂ := [a, c, b])))

/-- The two variables of the sums, at the start. -/
theorem Own.start {w w2 : World} {gv : Value} {G : List Int} (O : Own w w2 [irow gv G]) :
    Own w (((w2.alloc (.cells #[gv] 27)).alloc (.cells #[.int .i64 0] 3)).alloc (.cells #[.slice (some ⟨w2.heap.size + 1, 0, .none⟩) 1 1] 27))
      [vrow (w2.heap.size + 1 + 1) (.slice (some ⟨w2.heap.size + 1, 0, .none⟩) 1 1), vrow w2.heap.size gv, irow (.slice (some ⟨w2.heap.size + 1, 0, .none⟩) 1 1) [0], irow gv G] := by
  have s1 : (w2.alloc (.cells #[gv] 27)).heap.size = w2.heap.size + 1 := by simp
  have s2 : ((w2.alloc (.cells #[gv] 27)).alloc (.cells (ints [0]).toArray 3)).heap.size = w2.heap.size + 1 + 1 := by simp
  have h2 := (O.var gv).lit [0] 1 rfl (by decide)
  rw [s1] at h2
  have h3 := h2.var (.slice (some ⟨w2.heap.size + 1, 0, .none⟩) 1 1)
  rw [s2] at h3
  exact h3.perm (.cons _ (.swap _ _ _))

/-- The factors that the program takes: aside and right, left too, or none. -/
def gOf (p : Int) : List Int := if p = 1 then [0, 1] else if p = 2 then [-1, 0, 1] else []
theorem gOf_of {p : Int} (hp : 1 ≤ p ∧ p ≤ 2) : gOf p = signs (decide (p = 2)) := by
  have : p = 1 ∨ p = 2 := by omega
  rcases this with rfl | rfl <;> rfl
theorem gOf_not {p : Int} (hp : ¬ (1 ≤ p ∧ p ≤ 2)) : gOf p = [] := by
  unfold gOf
  rw [if_neg (by omega), if_neg (by omega)]
theorem gOf_len (p : Int) : (gOf p).length ≤ 3 := by
  unfold gOf
  split
  · decide
  · split <;> decide
theorem gOf_at (p : Int) : ∀ g ∈ gOf p, -1 ≤ g ∧ g ≤ 1 := by
  unfold gOf
  split
  · decide
  · split
    · decide
    · intro g hg; cases hg
theorem sums_len (p : Int) (L : List Int) : ∀ k, (sumsOf (gOf p) L k).length ≤ 3 ^ k
  | 0 => Nat.le_refl 1
  | k + 1 => by
    have ih := sums_len p L k
    have hG := gOf_len p
    show (more (gOf p) (L.getD k 0) (sumsOf (gOf p) L k)).length ≤ 3 ^ (k + 1)
    rw [more_length, Nat.pow_succ]
    exact Nat.mul_le_mul ih hG
theorem sums_bound (p : Int) {L : List Int} (h : SetP L) : ∀ k, k ≤ L.length → ∀ s ∈ sumsOf (gOf p) L k, -(1000 * (k : Int)) ≤ s ∧ s ≤ 1000 * (k : Int)
  | 0, _, s, hs => by
    obtain rfl : s = 0 := by simpa [sumsOf] using hs
    omega
  | k + 1, hk, s, hs => by
    have ih := sums_bound p h k (by omega)
    have hx := set_pos h k (by omega)
    have := more_bound (x := L.getD k 0) (by omega) (gOf_at p) ih s hs
    omega
/-- What a round needs of the sums so far. -/
structure Fits (G S : List Int) (x : Int) : Prop where
  x0 : 0 ≤ x
  x1 : x ≤ 1000
  gl : G.length ≤ 3
  sl : S.length ≤ 2187
  ga : ∀ j, j < G.length → ∃ y, G.getD j 0 * x = y ∧ -1000 ≤ y ∧ y ≤ 1000
  sa : ∀ j, j < S.length → -8000 ≤ S.getD j 0 ∧ S.getD j 0 ≤ 8000
theorem fits_of (p : Int) {L : List Int} {k : Nat} (h : SetP L) (hk : k < L.length) : Fits (gOf p) (sumsOf (gOf p) L k) (L.getD k 0) where
  x0 := by have := set_pos h k hk; omega
  x1 := (set_pos h k hk).2
  gl := gOf_len p
  sl := by
    have h1 := sums_len p L k
    have h2 : (3 : Nat) ^ k ≤ 3 ^ 7 := Nat.pow_le_pow_right (by decide) (by have := h.1.2; omega)
    have h3 : (3 : Nat) ^ 7 = 2187 := by decide
    omega
  ga j hj := by
    have h1 := set_pos h k hk
    have h2 := gOf_at p _ (getD_mem hj)
    have : (gOf p).getD j 0 = -1 ∨ (gOf p).getD j 0 = 0 ∨ (gOf p).getD j 0 = 1 := by omega
    refine ⟨_, rfl, ?_⟩
    rcases this with e | e | e <;> rw [e] <;> constructor <;> omega
  sa j hj := by
    have h1 := sums_bound p h k (by omega) _ (getD_mem hj)
    have := h.1.2
    omega
end Go.Proofs.Ytdnjpekclmiliaa
