/-
  Contracts of the exact laws' own helpers on slices of strings: equal slices compare equal; a mark is written into every place; held marks are found. No condition but that the slices are the call's own and short.
-/
import Derived.Test.YtepgficheibbfaaRows
import Derived.Test.YtepgficheibbfaaBase
import Derived.Test.YtepgficheibbfaaFigure
import Derived.WalkKit
import Derived.ProofKit
import Derived.OpenShut
import Derived.PlainAid
import Derived.Deep.QuietTactic
import Derived.BigQuiet
import Derived.Deep.AppendLies
import Derived.Deep.RegionLaw
import Derived.Outline
namespace Go.Proofs.Ytepgficheibbfaa
open Go.ChangeShapes Go.WideShapes Go.ChangeAt Go.RowKit Go.PlainAid

/-- The slice reads as these strings. -/
def StrRow (w : World) (A : Option Addr) (n : Nat) (xs : List ByteArray) : Prop :=
  ∀ j, j < n → ∃ x, A = some x ∧ w.cell? (x.add j) = some (.string (xs.getD j ByteArray.empty))

theorem add_zero_block (g j : Nat) : (⟨g, 0, none⟩ : Addr).add j = ⟨g, j, none⟩ := by unfold Addr.add; split <;> simp_all

theorem strRow_own {w : World} {base n c : Nat} {T : TypeId} {A : Option Addr} {xs : List ByteArray} (h : w.ownsRow base T 1 (.slice A n c) n (xs.map Value.string)) : StrRow w A n xs := fun j hj => by
  obtain ⟨g, cap, hv, _⟩ := h.form (by omega)
  have hA : A = some ⟨g, 0, none⟩ := by injection hv
  subst hA
  have hl : xs.length = n := by have := h.1; simpa using this
  have hx : (xs.map Value.string)[j]? = some (.string (xs.getD j ByteArray.empty)) := by
    rw [List.getElem?_map, List.getD_eq_getElem?_getD, List.getElem?_eq_getElem (by omega)]; rfl
  exact ⟨_, rfl, h.cells (g := g) rfl j _ hx⟩

theorem strRow_below {B : Nat} {w w' : World} {base n c : Nat} {T : TypeId} {A : Option Addr} {xs : List ByteArray} (h : w.ownsRow base T 1 (.slice A n c) n (xs.map Value.string)) (hb : Below B w w') (hB : w.heap.size ≤ B) : StrRow w' A n xs := fun j hj => by
  obtain ⟨x, hA, hc⟩ := strRow_own h j hj
  have hlt := lt_of_cell hc
  exact ⟨x, hA, (hb.cell (by omega)).trans hc⟩

def Quiet (b : Bool) (w : World) (e : Ending) (w' : World) : Prop := e = .returned (.bool b) ∧ ∃ q, w' = w.drewN q

/-- A block of one cell, just made. -/
theorem one_own (w : World) (T : TypeId) (u : Value) : (w.alloc (.cells #[u] T)).ownsRow w.heap.size T 1 (.slice (some ⟨w.heap.size, 0, none⟩) 1 1) 1 [u] :=
  ⟨rfl, .inr ⟨w.heap.size, 1, #[u], rfl, Nat.le_refl _, heap_alloc_new w _, Nat.le_refl _, by decide, rfl, rfl⟩⟩

theorem eqStr_same (A A' : Option Addr) (n c c' : Nat) (xs : List ByteArray) (w : World) (hn : n ≤ 1000000) (h : StrRow w A n xs) (h' : StrRow w A' n xs) :
    Calls Try.prog 17 #[.slice A n c, .slice A' n c'] w (Quiet true w) := by
  go_enter Try.func17, Try.ntmps17
  go_wp2
  go_loopw [5] (fun i wr => ∃ k q : Nat, k ≤ n ∧ i = .int .i64 k ∧ wr = w.drewN q) (fun i _ => n - (intOf i).toNat)
  case atStart => exact ⟨0, 0, by omega, rfl, rfl⟩
  case round =>
    obtain ⟨k, q, hk, rfl, rfl⟩ := hrel
    by_cases hlt : k < n
    · obtain ⟨x, rfl, hc⟩ := h k hlt
      obtain ⟨y, rfl, hc'⟩ := h' k hlt
      clear h h'
      generalize xs.getD k ByteArray.empty = z at hc hc'
      go_wp2
      go_quiet (fail)
      go_wp2
      go_roundw
      case rel => exact ⟨k + 1, _, by omega, by go_num, rfl⟩
      case measure => simp [intOf]; omega
    · clear h h'
      go_wp2
      go_ret
      exact ⟨rfl, _, rfl⟩

/-- The digits of r ahead of acc (f: how many steps at most). -/
def digTo : Nat → Nat → ByteArray → ByteArray
  | 0, _, acc => acc
  | f + 1, r, acc => if r = 0 then acc else digTo f (r / 10) (strOfNums [48 + (r : Int) % 10] ++ acc)
theorem digTo_zero (f : Nat) (acc : ByteArray) : digTo f 0 acc = acc := by cases f <;> simp [digTo]
/-- The text of mark k. -/
def markT (k : Nat) : ByteArray := { data := #[109] } ++ digTo k k { data := #[] }
def DigSt (k f r : Nat) (acc : ByteArray) : Prop := digTo f r acc = digTo k k { data := #[] } ∧ r ≤ f
theorem DigSt.step {k f r : Nat} {acc : ByteArray} (h : DigSt k f r acc) (hr : 0 < r) : DigSt k (f - 1) (r / 10) (strOfNums [48 + (r : Int) % 10] ++ acc) := by
  obtain ⟨h1, h2⟩ := h
  obtain ⟨g, rfl⟩ : ∃ g, f = g + 1 := ⟨f - 1, by omega⟩
  refine ⟨?_, by omega⟩
  have e : digTo (g + 1) r acc = digTo g (r / 10) (strOfNums [48 + (r : Int) % 10] ++ acc) := by
    show (if r = 0 then acc else _) = _
    rw [if_neg (by omega)]
  rw [← h1, e]; rfl
theorem DigSt.fin {k f : Nat} {acc : ByteArray} (h : DigSt k f 0 acc) : { data := #[109] } ++ acc = markT k := by
  have := h.1
  rw [digTo_zero] at this
  unfold markT
  rw [this]

def MarkText (k : Nat) (w : World) (e : Ending) (w' : World) : Prop := e = .returned (.string (markT k)) ∧ Below w.heap.size w w'
theorem mark_end {k f : Nat} {acc : ByteArray} {w w' : World} (h : DigSt k f 0 acc) (hb : Below w.heap.size w w') : MarkText k w (.returned (.string ({ data := #[109] } ++ acc))) w' := ⟨by rw [h.fin], hb⟩

theorem markText_any (k : Nat) (w : World) (hk : 0 < k) (hk2 : k ≤ 1000000) :
    Calls Try.prog 29 #[.int .i64 k] w (MarkText k w) := by
  have hk0 : ¬ k = 0 := by omega
  go_enter Try.func29, Try.ntmps29
  go_wp2
  go_loopw [0, 3] (fun r o wr => ∃ (f m : Nat) (acc : ByteArray), r = .int .i64 m ∧ o = .string acc ∧ acc.size + m ≤ 1000000 ∧ DigSt k f m acc ∧ Below w.heap.size w wr) (fun r _ _ => (intOf r).toNat)
  case atStart => exact ⟨k, k, _, rfl, rfl, by show 0 + k ≤ 1000000; omega, ⟨rfl, Nat.le_refl _⟩, Below.refl _ _⟩
  case round =>
    obtain ⟨f, m, acc, rfl, rfl, hm, hst, hbel⟩ := hrel
    by_cases h0 : 0 < m
    · have hst1 := hst.step h0
      have hz : (strOfNums [48 + (m : Int) % 10]).size ≤ 1 := by rw [strOfNums_size]; simp
      have hz2 : (strOfNums [48 + (m : Int) % 10] ++ acc).size = (strOfNums [48 + (m : Int) % 10]).size + acc.size := ByteArray.size_append
      have hz3 : (strOfNums [48 + (m : Int) % 10] ++ acc).size + m / 10 ≤ 1000000 := by omega
      clear hz2
      have hconv := conv_own (P := Try.prog) (wr.alloc (.cells #[.int .u8 (48 + (m : Int) % 10)] 5)) 22 9 5 Try.underlying22 Try.underlying5 Try.underlying9 wr.heap.size 1 (.slice (some ⟨wr.heap.size, 0, none⟩) 1 1) [48 + (m : Int) % 10] (one_own wr _ _)
      go_wp2
      go_roundw
      case rel => exact ⟨f - 1, m / 10, _, by go_num, rfl, hz3, hst1, hbel.alloc hbel.size _⟩
      case measure => simp [intOf]; omega
    · obtain rfl : m = 0 := by omega
      have hend := mark_end (w := w) hst hbel
      go_wp2
      go_ret
      exact hend

/-- What is in the places behind k marks. -/
def marksTo (k : Nat) (xs : List Value) : List Value := (List.range k).map (fun j => Value.string (markT (j + 1))) ++ xs.drop k
theorem marksTo_zero (xs : List Value) : marksTo 0 xs = xs := by simp [marksTo]
theorem marksTo_set {k : Nat} {xs : List Value} (hk : k < xs.length) : (marksTo k xs).set k (.string (markT (k + 1))) = marksTo (k + 1) xs := by
  unfold marksTo
  have hl : ((List.range k).map (fun j => Value.string (markT (j + 1)))).length = k := by simp
  rw [List.set_append_right _ _ (by omega), hl, Nat.sub_self, List.range_succ, List.map_append, List.append_assoc]
  congr 1
  rw [List.drop_eq_getElem_cons hk]
  rfl
def allMarks (n : Nat) : List Value := (List.range n).map (fun j => Value.string (markT (j + 1)))
theorem marksTo_all {n : Nat} {xs : List Value} (h : xs.length = n) : marksTo n xs = allMarks n := by
  unfold marksTo allMarks
  rw [List.drop_of_length_le (by omega), List.append_nil]

def Marked (B n : Nat) (v : Value) (w : World) (e : Ending) (w' : World) : Prop := e = .returned (.int .i64 ((n + 1 : Nat) : Int)) ∧ w'.ownsRow B 9 1 v n (allMarks n) ∧ w.grownBy w' v.ownBlock

theorem mark_nil (B : Nat) (a : Option Addr) (c : Nat) (w : World) (h : w.ownsRow B 9 1 (.slice a 0 c) 0 []) :
    Calls Try.prog 18 #[.slice a 0 c, .int .i64 1] w (Marked B 0 (.slice a 0 c) w) := by
  have hend : Marked B 0 (.slice a 0 c) w (.returned (.int .i64 1)) w := ⟨rfl, h, World.grownBy.refl w _⟩
  clear h
  go_enter Try.func18, Try.ntmps18
  go_wp2
  refine wp_loop_rounds 1 ?_
  rw [rounds_succ]
  go_wp2
  go_ret
  exact hend

theorem mark_rel {B n k g c : Nat} {w wr w1 : World} {xs : List Value} (hk : k < n) (hl : xs.length = n) (hown : wr.ownsRow B 9 1 (.slice (some ⟨g, 0, none⟩) n c) n (marksTo k xs)) (hg : w.grownBy wr (some g)) (hb : Below wr.heap.size wr w1) :
    w1.cell? ⟨g, k, none⟩ = (marksTo k xs)[k]? ∧ w1.frozen? ⟨g, k, none⟩ = false ∧
    (w1.setCell ⟨g, k, none⟩ (.string (markT (k + 1)))).ownsRow B 9 1 (.slice (some ⟨g, 0, none⟩) n c) n (marksTo (k + 1) xs) ∧ w.grownBy (w1.setCell ⟨g, k, none⟩ (.string (markT (k + 1)))) (some g) := by
  have hlt := (hown.lt g rfl).2
  have h1 : w1.ownsRow B 9 1 (.slice (some ⟨g, 0, none⟩) n c) n (marksTo k xs) := hown.kept (row := none) ⟨hb.os, hb.tape, hb.output, hb.size, fun i hi _ => hb.block i hi⟩ (.inr (by simp [Value.ownBlock]))
  have g1 : w.grownBy w1 (some g) := grown_trans hg ⟨hb.os, hb.tape, hb.output, hb.size, fun i hi _ => hb.block i hi⟩
  obtain ⟨s1, s2⟩ := h1.stored k (.string (markT (k + 1)))
  refine ⟨h1.cellAt k (by omega), h1.frozenAt k, ?_, grown_setCell g1 k _⟩
  rw [← marksTo_set (by omega)]
  exact s1

theorem mark_some (B n g c : Nat) (xs : List Value) (w : World) (hn : n ≤ 100000) (h : w.ownsRow B 9 1 (.slice (some ⟨g, 0, none⟩) n c) n xs) :
    Calls Try.prog 18 #[.slice (some ⟨g, 0, none⟩) n c, .int .i64 1] w (Marked B n (.slice (some ⟨g, 0, none⟩) n c) w) := by
  have hl : xs.length = n := by have := h.1; simpa using this
  go_enter Try.func18, Try.ntmps18
  go_wp2
  go_loopw [5, 1] (fun i m wr => ∃ k : Nat, k ≤ n ∧ i = .int .i64 k ∧ m = .int .i64 ((k + 1 : Nat) : Int) ∧ wr.ownsRow B 9 1 (.slice (some ⟨g, 0, none⟩) n c) n (marksTo k xs) ∧ w.grownBy wr (some g)) (fun i _ _ => n - (intOf i).toNat)
  case atStart => exact ⟨0, by omega, rfl, rfl, by rw [marksTo_zero]; exact h, World.grownBy.refl w _⟩
  case round =>
    clear h
    obtain ⟨k, hk, rfl, rfl, hown, hgr⟩ := hrel
    by_cases hlt : k < n
    · have hc : ∃ u, (marksTo k xs)[k]? = some u := by
        have hll : (marksTo k xs).length = n := by have := hown.1; simpa using this
        exact ⟨_, List.getElem?_eq_getElem (by omega)⟩
      obtain ⟨u, hu⟩ := hc
      have hm := markText_any (k + 1) wr (by omega) (by omega)
      have HR := fun w1 => mark_rel (w := w) (wr := wr) (w1 := w1) hlt hl hown hgr
      rw [hu] at HR
      clear hu hl hown hgr
      go_wp2_with fail
      refine hm.mono ?_
      rintro e w1 ⟨rfl, b1⟩
      obtain ⟨r1, r2, r3, r4⟩ := HR w1 b1
      clear HR hm b1
      go_wp2
      go_roundw
      case rel => exact ⟨k + 1, by omega, by go_num, by go_num, r3, r4⟩
      case measure => simp [intOf]; omega
    · obtain rfl : k = n := by omega
      rw [marksTo_all hl] at hown
      have hend : Marked B k (.slice (some ⟨g, 0, none⟩) k c) w (.returned (.int .i64 ((k : Int) + 1))) wr := ⟨rfl, hown, hgr⟩
      clear hl hown hgr
      go_wp2
      go_ret
      exact hend

def Held (n : Nat) (w : World) (e : Ending) (w' : World) : Prop := e = .returned (.int .i64 ((n + 1 : Nat) : Int)) ∧ Below w.heap.size w w'
/-- The slice holds the marks. -/
def MarkRow (w : World) (A : Option Addr) (n : Nat) : Prop := ∀ j, j < n → ∃ x, A = some x ∧ x.block < w.heap.size ∧ w.cell? (x.add j) = some (.string (markT (j + 1)))
theorem markRow_own {w : World} {base n c : Nat} {T : TypeId} {A : Option Addr} (h : w.ownsRow base T 1 (.slice A n c) n (allMarks n)) : MarkRow w A n := fun j hj => by
  obtain ⟨g, cap, hv, _, hlt⟩ := h.form (by omega)
  have hA : A = some ⟨g, 0, none⟩ := by injection hv
  subst hA
  have hx : (allMarks n)[j]? = some (.string (markT (j + 1))) := by
    unfold allMarks
    rw [List.getElem?_map, List.getElem?_range hj]; rfl
  exact ⟨_, rfl, hlt, h.cells (g := g) rfl j _ hx⟩

theorem held_any (n c : Nat) (A : Option Addr) (w : World) (hn : n ≤ 100000) (h : MarkRow w A n) :
    Calls Try.prog 19 #[.slice A n c, .int .i64 1] w (Held n w) := by
  go_enter Try.func19, Try.ntmps19
  go_wp2
  go_loopw [5, 1] (fun i m wr => ∃ k : Nat, k ≤ n ∧ i = .int .i64 k ∧ m = .int .i64 ((k + 1 : Nat) : Int) ∧ Below w.heap.size w wr) (fun i _ _ => n - (intOf i).toNat)
  case atStart => exact ⟨0, by omega, rfl, rfl, Below.refl _ _⟩
  case round =>
    obtain ⟨k, hk, rfl, rfl, hbel⟩ := hrel
    by_cases hlt : k < n
    · obtain ⟨x, rfl, hx, hc0⟩ := h k hlt
      have hc : wr.cell? (x.add k) = some (.string (markT (k + 1))) := (hbel.cell (by rw [addr_add_block]; exact hx)).trans hc0
      have hxr : x.block < wr.heap.size := Nat.lt_of_lt_of_le hx hbel.size
      have hm := fun W => markText_any (k + 1) W (by omega) (by omega)
      clear hc0 h
      go_wp2_with fail
      go_region_law (go_simp; go_at_call 29; refine (hm _).mono ?_; rintro e w' ⟨rfl, b1⟩; have hc2 : w'.cell? (x.add k) = some (.string (markT (k + 1))) := (b1.cell (by rw [addr_add_block]; exact hxr)).trans hc)
      all_goals
        have R : Below w.heap.size w w' := (Below.drew hbel).trans (b1.mono hbel.size)
        clear b1 hc2 hm hc
        go_wp2
        go_roundw
        case rel => exact ⟨k + 1, by omega, by go_num, by go_num, R⟩
        case measure => simp [intOf]; omega
    · obtain rfl : k = n := by omega
      clear h
      have hend : Held k w (.returned (.int .i64 ((k : Int) + 1))) wr := ⟨rfl, hbel⟩
      clear hbel
      go_wp2
      go_ret
      exact hend
theorem markRow_below {w w' : World} {A : Option Addr} {n : Nat} (h : MarkRow w A n) (hb : Below w.heap.size w w') : MarkRow w' A n := fun j hj => by
  obtain ⟨x, hA, hx, hc⟩ := h j hj
  exact ⟨x, hA, Nat.lt_of_lt_of_le hx hb.size, (hb.cell (by rw [addr_add_block]; exact hx)).trans hc⟩

theorem mark_any (B n c : Nat) (A : Option Addr) (xs : List Value) (w : World) (hn : n ≤ 100000) (h : w.ownsRow B 9 1 (.slice A n c) n xs) :
    Calls Try.prog 18 #[.slice A n c, .int .i64 1] w (Marked B n (.slice A n c) w) := by
  rcases Nat.eq_zero_or_pos n with rfl | h0
  · obtain rfl : xs = [] := List.eq_nil_of_length_eq_zero (by have := h.1; simpa using this)
    exact mark_nil B A c w h
  · obtain ⟨g, cap, hv, _⟩ := h.form h0
    have hA : A = some ⟨g, 0, none⟩ := by injection hv
    subst hA
    exact mark_some B n g c xs w hn h
end Go.Proofs.Ytepgficheibbfaa
