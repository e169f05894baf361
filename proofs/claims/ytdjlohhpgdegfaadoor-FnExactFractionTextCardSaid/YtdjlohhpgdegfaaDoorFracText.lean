/-
  The contracts of the program's and the model's text of a fraction: the same text; the program's where the library's table is as its initialiser lays it. Only new memory is written.
-/
import Derived.Test.YtdjlohhpgdegfaaDoorLaid
import Derived.Test.YtdjlohhpgdegfaaDoorFracOk
import Derived.Deep.RegionHeld3
namespace Go.Proofs.YtdjlohhpgdegfaaDoor
open Go.ChangeShapes Go.WideShapes Go.ChangeAt Go.RowKit Go.PlainAid

/-- A string is answered, only new memory is written. -/
def SaysT (x : ByteArray) (w : World) (e : Ending) (w' : World) : Prop := e = .returned (.string x) ∧ Below w.heap.size w w'

theorem Box.drew {w : World} {t b : Int} {ty : TypeId} {p : Nat} (h : Box w p t b ty) : Box w.drew p t b ty := h
theorem Box.under {w w' : World} {t b : Int} {ty : TypeId} {p : Nat} (h : Box w p t b ty) (k : Below w.heap.size w w') : Box w' p t b ty := h.keep k h.lt

set_option maxHeartbeats 1000000 in
theorem specText_long (t b : Int) (x y : ByteArray) (w : World) (hb : ¬ b = 1) (hx : x.size ≤ 30) (hy : y.size ≤ 30)
    (hX : ∀ W : World, Calls Tryd.prog 8 #[.int .i64 t] W (SaysT x W)) (hY : ∀ W : World, Calls Tryd.prog 8 #[.int .i64 b] W (SaysT y W))
    (hV : ∀ W : World, Calls Tryd.prog 7 #[.agg #[.int .i64 t, .int .i64 b]] W (SaysB true W)) :
    Calls Tryd.prog 4 #[.agg #[.int .i64 t, .int .i64 b]] w (SaysT (x ++ { data := #[47] } ++ y) w) := by
  have x0 := Box.new w t b 25
  have b0 : Below w.heap.size w (w.alloc (.cells #[.int .i64 t, .int .i64 b] 25)) := (Below.refl _ _).alloc (Nat.le_refl _) _
  go_enter Tryd.func4, Tryd.ntmps4
  go_wp2_with fail
  refine (hV _).mono ?_
  rintro e w1 ⟨rfl, k1⟩
  have x1 := x0.keep k1 x0.lt
  replace k1 := below_more b0 (by simp) k1
  clear hV b0 x0
  have n1 : ¬ 9223372036854775807 < x.size + 1 := by omega
  have n2 : ¬ 9223372036854775807 < x.size + 1 + y.size := by omega
  clear hx hy
  have c0 := x1.c0
  have c1 := x1.c1
  go_wp2_with fail
  go_region_held3 (fun W => W.cell? ⟨w.heap.size, 0, none⟩ = some (.int .i64 t) ∧ W.cell? ⟨w.heap.size, 1, none⟩ = some (.int .i64 b))
    (exact ⟨Box.c0 (b := b) (ty := 25) (by repeat' (first | with_reducible exact x1 | with_reducible refine Box.drew ?_ | with_reducible refine Box.under ?_ k3 | with_reducible refine Box.under ?_ k2)), Box.c1 (t := t) (ty := 25) (by repeat' (first | with_reducible exact x1 | with_reducible refine Box.drew ?_ | with_reducible refine Box.under ?_ k3 | with_reducible refine Box.under ?_ k2))⟩)
    (first | (go_at_call 8; (first | ((with_reducible refine (hX _).mono ?_); rintro e w2 ⟨rfl, k2⟩) | ((with_reducible refine (hY _).mono ?_); rintro e w3 ⟨rfl, k3⟩))))
  have k4 := (k1.drew.trans (k2.mono k1.size)).trans (k3.mono (Nat.le_trans k1.size k2.size))
  clear k1 k2 k3 hX hY
  go_wp2_with fail
  go_ret
  exact ⟨rfl, k4⟩

theorem specText_short (t : Int) (x : ByteArray) (w : World)
    (hX : ∀ W : World, Calls Tryd.prog 8 #[.int .i64 t] W (SaysT x W))
    (hV : ∀ W : World, Calls Tryd.prog 7 #[.agg #[.int .i64 t, .int .i64 1]] W (SaysB true W)) :
    Calls Tryd.prog 4 #[.agg #[.int .i64 t, .int .i64 1]] w (SaysT x w) := by
  have x0 := Box.new w t 1 25
  have b0 : Below w.heap.size w (w.alloc (.cells #[.int .i64 t, .int .i64 1] 25)) := (Below.refl _ _).alloc (Nat.le_refl _) _
  go_enter Tryd.func4, Tryd.ntmps4
  go_wp2_with fail
  refine (hV _).mono ?_
  rintro e w1 ⟨rfl, k1⟩
  have x1 := x0.keep k1 x0.lt
  replace k1 := below_more b0 (by simp) k1
  clear hV b0 x0
  have c0 := x1.c0
  have c1 := x1.c1
  go_wp2_with fail
  refine (hX _).mono ?_
  rintro e w2 ⟨rfl, k2⟩
  replace k2 := below_more k1 k1.size k2
  clear hX x1 c0 c1 k1
  go_wp2_with fail
  go_ret
  exact ⟨rfl, k2⟩

theorem specText_no (t b : Int) (w : World)
    (hV : ∀ W : World, Calls Tryd.prog 7 #[.agg #[.int .i64 t, .int .i64 b]] W (SaysB false W)) :
    Calls Tryd.prog 4 #[.agg #[.int .i64 t, .int .i64 b]] w (SaysT { data := #[] } w) := by
  have b0 : Below w.heap.size w (w.alloc (.cells #[.int .i64 t, .int .i64 b] 25)) := (Below.refl _ _).alloc (Nat.le_refl _) _
  go_enter Tryd.func4, Tryd.ntmps4
  go_wp2_with fail
  refine (hV _).mono ?_
  rintro e w1 ⟨rfl, k1⟩
  replace k1 := below_more b0 (by simp) k1
  clear hV b0
  go_wp2_with fail
  go_ret
  exact ⟨rfl, k1⟩

set_option maxHeartbeats 1000000 in
theorem text_long (t b : Int) (x y : ByteArray) (w : World) (hb : ¬ b = 1) (hx : x.size ≤ 30) (hy : y.size ≤ 30)
    (hX : ∀ W : World, Below w.heap.size w W → Calls Tryd.prog 15 #[.int .i64 t] W (SaysT x W)) (hY : ∀ W : World, Below w.heap.size w W → Calls Tryd.prog 15 #[.int .i64 b] W (SaysT y W)) :
    Calls Tryd.prog 10 #[.agg #[.int .i64 t, .int .i64 b]] w (SaysT (x ++ { data := #[47] } ++ y) w) := by
  have x1 := Box.new w t b 25
  have k1 : Below w.heap.size w (w.alloc (.cells #[.int .i64 t, .int .i64 b] 25)) := (Below.refl _ _).alloc (Nat.le_refl _) _
  have n1 : ¬ 9223372036854775807 < x.size + 1 := by omega
  have n2 : ¬ 9223372036854775807 < x.size + 1 + y.size := by omega
  clear hx hy
  have hX1 := hX _ k1.drew
  have hY1 := fun W (h : Below (w.alloc (.cells #[.int .i64 t, .int .i64 b] 25)).drew.heap.size (w.alloc (.cells #[.int .i64 t, .int .i64 b] 25)).drew W) => hY W (below_more k1.drew k1.size h)
  clear hX hY
  go_enter Tryd.func10, Tryd.ntmps10
  go_wp2_with fail
  go_region_held3 (fun W => W.cell? ⟨w.heap.size, 0, none⟩ = some (.int .i64 t) ∧ W.cell? ⟨w.heap.size, 1, none⟩ = some (.int .i64 b))
    (exact ⟨Box.c0 (b := b) (ty := 25) (by repeat' (first | with_reducible exact x1 | with_reducible refine Box.drew ?_ | with_reducible refine Box.under ?_ k3 | with_reducible refine Box.under ?_ k2)), Box.c1 (t := t) (ty := 25) (by repeat' (first | with_reducible exact x1 | with_reducible refine Box.drew ?_ | with_reducible refine Box.under ?_ k3 | with_reducible refine Box.under ?_ k2))⟩)
    (first | (go_at_call 15; (first | ((with_reducible refine hX1.mono ?_); rintro e w2 ⟨rfl, k2⟩) | ((with_reducible refine (hY1 _ k2).mono ?_); rintro e w3 ⟨rfl, k3⟩))))
  have k4 := (k1.drew.trans (k2.mono k1.size)).trans (k3.mono (Nat.le_trans k1.size k2.size))
  clear k1 k2 k3 hX1 hY1
  go_wp2_with fail
  go_ret
  exact ⟨rfl, k4⟩

theorem text_short (t : Int) (x : ByteArray) (w : World)
    (hX : ∀ W : World, Below w.heap.size w W → Calls Tryd.prog 15 #[.int .i64 t] W (SaysT x W)) :
    Calls Tryd.prog 10 #[.agg #[.int .i64 t, .int .i64 1]] w (SaysT x w) := by
  have b0 : Below w.heap.size w (w.alloc (.cells #[.int .i64 t, .int .i64 1] 25)) := (Below.refl _ _).alloc (Nat.le_refl _) _
  go_enter Tryd.func10, Tryd.ntmps10
  go_wp2_with fail
  refine (hX _ b0).mono ?_
  rintro e w2 ⟨rfl, k2⟩
  replace k2 := below_more b0 b0.size k2
  clear hX b0
  go_wp2_with fail
  go_ret
  exact ⟨rfl, k2⟩

theorem implText_no (t b : Int) (w : World)
    (hV : ∀ W : World, Calls Tryd.prog 9 #[.agg #[.int .i64 t, .int .i64 b]] W (SaysB false W)) :
    Calls Tryd.prog 6 #[.agg #[.int .i64 t, .int .i64 b]] w (SaysT { data := #[] } w) := by
  have b0 : Below w.heap.size w (w.alloc (.cells #[.int .i64 t, .int .i64 b] 25)) := (Below.refl _ _).alloc (Nat.le_refl _) _
  go_enter Tryd.func6, Tryd.ntmps6
  go_wp2_with fail
  refine (hV _).mono ?_
  rintro e w1 ⟨rfl, k1⟩
  replace k1 := below_more b0 (by simp) k1
  clear hV b0
  go_wp2_with fail
  go_ret
  exact ⟨rfl, k1⟩

theorem implText_yes (t b : Int) (x : ByteArray) (w : World)
    (hV : ∀ W : World, Calls Tryd.prog 9 #[.agg #[.int .i64 t, .int .i64 b]] W (SaysB true W))
    (hT : ∀ W : World, Below w.heap.size w W → Calls Tryd.prog 10 #[.agg #[.int .i64 t, .int .i64 b]] W (SaysT x W)) :
    Calls Tryd.prog 6 #[.agg #[.int .i64 t, .int .i64 b]] w (SaysT x w) := by
  have x0 := Box.new w t b 25
  have b0 : Below w.heap.size w (w.alloc (.cells #[.int .i64 t, .int .i64 b] 25)) := (Below.refl _ _).alloc (Nat.le_refl _) _
  go_enter Tryd.func6, Tryd.ntmps6
  go_wp2_with fail
  refine (hV _).mono ?_
  rintro e w1 ⟨rfl, k1⟩
  have x1 := x0.keep k1 x0.lt
  replace k1 := below_more b0 (by simp) k1
  clear hV b0 x0
  have c0 := x1.c0
  have c1 := x1.c1
  have hT1 := hT _ k1
  clear hT
  go_wp2_with fail
  refine hT1.mono ?_
  rintro e w2 ⟨rfl, k2⟩
  replace k2 := below_more k1 k1.size k2
  clear hT1 x1 c0 c1 k1
  go_wp2_with fail
  go_ret
  exact ⟨rfl, k2⟩

theorem decS_small (n : Int) (h0 : -9223372036854775808 ≤ n) (h1 : n ≤ 9223372036854775807) : (decS n).size ≤ 30 := by
  have h2 := Lib.itoa_length_le n h0 h1
  have e : (decS n).size = (Lib.itoa n).length := by
    rw [← decS_data n]; simp
  omega

theorem text_both (t b : Int) (w : World) (ht : Tab w) (t0 : -9223372036854775808 ≤ t) (t1 : t ≤ 9223372036854775807) (b0 : -9223372036854775808 ≤ b) (b1 : b ≤ 9223372036854775807) : ∃ x : ByteArray,
    (∀ W : World, Calls Tryd.prog 4 #[.agg #[.int .i64 t, .int .i64 b]] W (SaysT x W)) ∧
    ∀ W : World, Below w.heap.size w W → Calls Tryd.prog 6 #[.agg #[.int .i64 t, .int .i64 b]] W (SaysT x W) := by
  cases hv : okF t b
  · have hS := fun W => specOk_any t b W
    have hI := fun W => valid_any t b W
    rw [hv] at hS hI
    exact ⟨_, fun W => specText_no t b W hS, fun W _ => implText_no t b W hI⟩
  · have hS := fun W => specOk_any t b W
    have hI := fun W => valid_any t b W
    rw [hv] at hS hI
    have hX : ∀ W : World, Below w.heap.size w W → Calls Tryd.prog 15 #[.int .i64 t] W (SaysT (decS t) W) := fun W h => implFmt_any t W t0 t1 (tab_keep ht h)
    have hY : ∀ W : World, Below w.heap.size w W → Calls Tryd.prog 15 #[.int .i64 b] W (SaysT (decS b) W) := fun W h => implFmt_any b W b0 b1 (tab_keep ht h)
    have hX' : ∀ W : World, Calls Tryd.prog 8 #[.int .i64 t] W (SaysT (decS t) W) := fun W => specFmt_any t W t0 t1
    have hY' : ∀ W : World, Calls Tryd.prog 8 #[.int .i64 b] W (SaysT (decS b) W) := fun W => specFmt_any b W b0 b1
    have tr : ∀ V W : World, Below w.heap.size w V → Below V.heap.size V W → Below w.heap.size w W := fun V W h k => h.trans (k.mono h.size)
    by_cases hb : b = 1
    · subst hb
      exact ⟨_, fun W => specText_short t _ W hX' hS, fun W h => implText_yes t 1 _ W hI fun V k => text_short t _ V fun U j => hX U (tr V U (tr W V h k) j)⟩
    · exact ⟨_, fun W => specText_long t b _ _ W hb (decS_small t t0 t1) (decS_small b b0 b1) hX' hY' hS, fun W h => implText_yes t b _ W hI fun V k => text_long t b _ _ V hb (decS_small t t0 t1) (decS_small b b0 b1) (fun U j => hX U (tr V U (tr W V h k) j)) (fun U j => hY U (tr V U (tr W V h k) j))⟩

theorem exactText_walk (t b : Int) (w : World) (ht : Tab w) (t0 : -9223372036854775808 ≤ t) (t1 : t ≤ 9223372036854775807) (b0 : -9223372036854775808 ≤ b) (b1 : b ≤ 9223372036854775807) :
    Calls Tryd.prog 3 #[.agg #[.int .i64 t, .int .i64 b]] w fun e w' => e = .returned (.bool true) ∧ Below w.heap.size w w' := by
  obtain ⟨x, hS, hI⟩ := text_both t b w ht t0 t1 b0 b1
  have hT := fun W => to_any t b W
  have k0 : Below w.heap.size w (w.alloc (.cells #[.int .i64 t, .int .i64 b] 23)) := (Below.refl _ _).alloc (Nat.le_refl _) _
  have x0 := Box.new w t b 23
  clear ht t0 t1 b0 b1
  go_enter Tryd.func3, Tryd.ntmps3
  go_wp2_with fail
  refine (hT _).mono ?_
  rintro e w1 ⟨rfl, b1⟩
  have x1 := x0.keep b1 x0.lt
  replace b1 := below_more k0 (by simp) b1
  clear k0 x0
  go_wp2_with fail
  refine (hS _).mono ?_
  rintro e w2 ⟨rfl, b2⟩
  have x2 := x1.keep b2 x1.lt
  replace b2 := below_more b1 b1.size b2
  have c0 := x2.c0
  have c1 := x2.c1
  clear b1 x1 hS
  go_wp2_with fail
  refine (hT _).mono ?_
  rintro e w3 ⟨rfl, b3⟩
  replace b3 := below_more b2 b2.size b3
  have hI3 := hI _ b3
  clear b2 x2 c0 c1 hI hT
  go_wp2_with fail
  refine hI3.mono ?_
  rintro e w4 ⟨rfl, b4⟩
  replace b4 := below_more b3 b3.size b4
  clear b3 hI3
  go_wp2_with fail
  go_ret
  exact ⟨rfl, b4⟩
end Go.Proofs.YtdjlohhpgdegfaaDoor
