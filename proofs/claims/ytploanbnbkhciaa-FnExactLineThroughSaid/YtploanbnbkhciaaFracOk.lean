/-
  The contracts of the two functions that say whether a fraction is valid, the program's and the model's: each answers okF of its two terms. Only new memory is written.
-/
import Derived.Test.YtploanbnbkhciaaGcd
import Derived.Laws.ResultCell
namespace Go.Proofs.Ytploanbnbkhciaa
open Go.ChangeShapes Go.WideShapes Go.ChangeAt Go.RowKit Go.PlainAid

/-- A bool is answered, only new memory is written. -/
def SaysB (x : Bool) (w : World) (e : Ending) (w' : World) : Prop := e = .returned (.bool x) ∧ Below w.heap.size w w'

theorem below_more {B : Nat} {a b c : World} (h : Below B a b) (hB : B ≤ b.heap.size) (g : Below b.heap.size b c) : Below B a c := h.trans (g.mono hB)

theorem valid_any (t b : Int) (w : World) : Calls Try.prog 33 #[.agg #[.int .i64 t, .int .i64 b]] w (SaysB (okF t b) w) := by
  have b1 : Below w.heap.size w (w.alloc (.cells #[.int .i64 t, .int .i64 b] 25)) := (Below.refl _ _).alloc (Nat.le_refl _) _
  by_cases h0 : t < -1000000
  · rw [okF_top t b (.inl h0)]
    go_enter Try.func33, Try.ntmps33
    go_wp2_with fail
    go_ret
    exact ⟨rfl, b1⟩
  · by_cases h1 : 1000000 < t
    · rw [okF_top t b (.inr h1)]
      go_enter Try.func33, Try.ntmps33
      go_wp2_with fail
      go_ret
      exact ⟨rfl, b1⟩
    · by_cases h2 : b < 1
      · rw [okF_bottom t b (.inl h2)]
        go_enter Try.func33, Try.ntmps33
        go_wp2_with fail
        go_ret
        exact ⟨rfl, b1⟩
      · by_cases h3 : 1000000 < b
        · rw [okF_bottom t b (.inr h3)]
          go_enter Try.func33, Try.ntmps33
          go_wp2_with fail
          go_ret
          exact ⟨rfl, b1⟩
        · rw [okF_in t b (by omega) (by omega) (by omega) (by omega)]
          have hG := implGcd_any t b (w.alloc (.cells #[.int .i64 t, .int .i64 b] 25)) (by omega) (by omega) (by omega) (by omega)
          generalize (Int.gcd t b : Int) = g at hG
          go_enter Try.func33, Try.ntmps33
          go_wp2_with fail
          refine hG.mono ?_
          rintro e w2 ⟨rfl, b2⟩
          go_wp2_with fail
          go_ret
          exact ⟨rfl, below_more b1 (by simp) b2⟩

theorem in_any (n lo hi : Int) (w : World) : Calls Try.prog 51 #[.int .i64 n, .int .i64 lo, .int .i64 hi] w fun e w' => e = .returned (.bool (decide (lo ≤ n ∧ n ≤ hi))) ∧ w = w' := by
  by_cases h1 : lo ≤ n
  · by_cases h2 : n ≤ hi
    · rw [decide_eq_true ⟨h1, h2⟩]
      go_enter Try.func51, Try.ntmps51
      go_wp2_with fail
      go_ret
      exact ⟨rfl, rfl⟩
    · rw [decide_eq_false (fun h => h2 h.2)]
      go_enter Try.func51, Try.ntmps51
      go_wp2_with fail
      go_ret
      exact ⟨rfl, rfl⟩
  · rw [decide_eq_false (fun h => h1 h.1)]
    go_enter Try.func51, Try.ntmps51
    go_wp2_with fail
    go_ret
    exact ⟨rfl, rfl⟩

theorem in_to (x : Bool) (n lo hi : Int) (w : World) (h : decide (lo ≤ n ∧ n ≤ hi) = x) : Calls Try.prog 51 #[.int .i64 n, .int .i64 lo, .int .i64 hi] w fun e w' => e = .returned (.bool x) ∧ w = w' := h ▸ in_any n lo hi w

theorem specOk_any (t b : Int) (w : World) : Calls Try.prog 38 #[.agg #[.int .i64 t, .int .i64 b]] w (SaysB (okF t b) w) := by
  have b1 : Below w.heap.size w (w.alloc (.cells #[.int .i64 t, .int .i64 b] 25)) := (Below.refl _ _).alloc (Nat.le_refl _) _
  by_cases h0 : t < -1000000 ∨ 1000000 < t
  · rw [okF_top t b h0]
    have hT := in_to false t (-1000000) 1000000 (w.alloc (.cells #[.int .i64 t, .int .i64 b] 25)) (decide_eq_false (by omega))
    clear h0
    go_enter Try.func38, Try.ntmps38
    go_wp2_with fail
    refine hT.mono ?_
    rintro e w2 ⟨rfl, rfl⟩
    go_wp2_with fail
    go_ret
    exact ⟨rfl, b1⟩
  · have hT := in_to true t (-1000000) 1000000 (w.alloc (.cells #[.int .i64 t, .int .i64 b] 25)) (decide_eq_true (by omega))
    by_cases h2 : b < 1 ∨ 1000000 < b
    · rw [okF_bottom t b h2]
      have hB := in_to false b 1 1000000 (w.alloc (.cells #[.int .i64 t, .int .i64 b] 25)) (decide_eq_false (by omega))
      clear h0 h2
      go_enter Try.func38, Try.ntmps38
      go_wp2_with fail
      refine hT.mono ?_
      rintro e w2 ⟨rfl, rfl⟩
      go_wp2_with fail
      refine hB.mono ?_
      rintro e w2 ⟨rfl, rfl⟩
      go_wp2_with fail
      go_ret
      exact ⟨rfl, b1⟩
    · have hB := in_to true b 1 1000000 (w.alloc (.cells #[.int .i64 t, .int .i64 b] 25)) (decide_eq_true (by omega))
      rw [okF_in t b (by omega) (by omega) (by omega) (by omega)]
      have hG := specGcd_any t b (w.alloc (.cells #[.int .i64 t, .int .i64 b] 25)) (by omega) (by omega) (by omega) (by omega)
      generalize (Int.gcd t b : Int) = g at hG
      clear h0 h2
      go_enter Try.func38, Try.ntmps38
      go_wp2_with fail
      refine hT.mono ?_
      rintro e w2 ⟨rfl, rfl⟩
      go_wp2_with fail
      refine hB.mono ?_
      rintro e w2 ⟨rfl, rfl⟩
      go_wp2_with fail
      refine hG.mono ?_
      rintro e w2 ⟨rfl, b2⟩
      go_wp2_with fail
      go_ret
      exact ⟨rfl, below_more b1 (by simp) b2⟩

theorem results_cell_one {fn : Func} {p : Tmp} {ty : TypeId} (h : fn.results = #[.cell p ty]) (tmps : Array Value) (P : Program) (w : World) :
    (results fn tmps).run P w = ((asAddr (tmps.getD p undef)).run P w).andThen fun a w₁ => (loadVar ty a).run P w₁ := by
  simp only [results, h]
  simp [Sem.run_bind, Result.andThen]

/-- A block of two ints. -/
def Box (w : World) (p : Nat) (t b : Int) (ty : TypeId) : Prop := w.heap[p]? = some (.cells #[.int .i64 t, .int .i64 b] ty)

theorem Box.keep {w w' : World} {p B : Nat} {t b : Int} {ty : TypeId} (h : Box w p t b ty) (k : Below B w w') (hp : p < B) : Box w' p t b ty := (k.block p hp).trans h
theorem Box.new (w : World) (t b : Int) (ty : TypeId) : Box (w.alloc (.cells #[.int .i64 t, .int .i64 b] ty)) w.heap.size t b ty := heap_alloc_new w _
theorem Box.alloc {w : World} {p : Nat} {t b : Int} {ty : TypeId} (h : Box w p t b ty) (o : Obj) : Box (w.alloc o) p t b ty := by
  have : p < w.heap.size := (Array.getElem?_eq_some_iff.1 h).1
  exact (Below.heap_alloc w o p this).trans h
theorem Box.lt {w : World} {p : Nat} {t b : Int} {ty : TypeId} (h : Box w p t b ty) : p < w.heap.size := (Array.getElem?_eq_some_iff.1 h).1
theorem Box.c0 {w : World} {p : Nat} {t b : Int} {ty : TypeId} (h : Box w p t b ty) : w.cell? ⟨p, 0, none⟩ = some (.int .i64 t) := by
  have h' : w.heap[p]? = _ := h
  simp [World.cell?, h']
theorem Box.c1 {w : World} {p : Nat} {t b : Int} {ty : TypeId} (h : Box w p t b ty) : w.cell? ⟨p, 1, none⟩ = some (.int .i64 b) := by
  have h' : w.heap[p]? = _ := h
  simp [World.cell?, h']
theorem Box.free0 {w : World} {p : Nat} {t b : Int} {ty : TypeId} (h : Box w p t b ty) : w.frozen? ⟨p, 0, none⟩ = false := by
  have h' : w.heap[p]? = _ := h
  simp [World.frozen?, h']
theorem Box.free1 {w : World} {p : Nat} {t b : Int} {ty : TypeId} (h : Box w p t b ty) : w.frozen? ⟨p, 1, none⟩ = false := by
  have h' : w.heap[p]? = _ := h
  simp [World.frozen?, h']

end Go.Proofs.Ytploanbnbkhciaa
