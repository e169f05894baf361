/-
  A slice of at most twelve hangs of the call's own is brought into the order of the places: the library's own theorem at this program, in the words of rows. No condition but those written.
-/
import Derived.Test.YtajndcggafjmeaaHangs
import Derived.Test.YtajndcggafjmeaaFracOk
import Derived.Test.YtajndcggafjmeaaShelf
import Derived.Shelf.SlSortCmp.NoneTotal
namespace Go.Proofs.Ytajndcggafjmeaa
open Go.ChangeShapes Go.WideShapes Go.ChangeAt Go.RowKit Go.PlainAid
open Go.Sort

def encHg (x : Hg) : List Value := [.int .i64 x.1, .int .i64 x.2]
def cmpHg (x y : Hg) : Int := Lib.compareInt x.1 y.1
theorem ltHg (x y : Hg) : ltOf cmpHg x y = decide (x.1 < y.1) := by
  unfold ltOf cmpHg Lib.compareInt
  by_cases h1 : x.1 < y.1
  · simp [h1]
  · by_cases h2 : y.1 < x.1 <;> simp [h1, h2]
theorem swoHg : SWO (ltOf cmpHg) where
  irrefl x := by rw [ltHg]; simp
  trans x y z h1 h2 := by rw [ltHg] at *; simp at *; omega
  ntrans x y z h1 h2 := by rw [ltHg] at *; simp at *; omega

set_option maxHeartbeats 1000000 in
/-- The comparison of two hangs. -/
theorem cmpHg_any (x y : Hg) (W : World) : Calls Try.prog 40 #[.agg #[.int .i64 x.1, .int .i64 x.2], .agg #[.int .i64 y.1, .int .i64 y.2]] W fun e w' => e = .returned (.int .i64 (cmpHg x y)) ∧ ∃ q os', w' = grow (W.drewN q) os' := by
  have hcon := fun W' => Try.cmp_Compare_int x.1 y.1 W'
  unfold cmpHg
  generalize Lib.compareInt x.1 y.1 = r at hcon ⊢
  go_enter Try.func40, Try.ntmps40
  go_wp2_with fail
  refine (hcon _).mono ?_
  rintro e w' ⟨rfl, rfl⟩
  go_wp2_with fail
  go_ret
  exact ⟨rfl, 0, _, by rw [alloc_eq_grow, alloc_eq_grow, grow_grow]; rfl⟩

/-- The hangs' cells, flat. -/
theorem flatHg (L : List Hg) : flatK encHg 2 L.toArray = (hcells L).toArray := by
  refine Array.ext (by rw [size_flatK]; simp [hcells_len]) fun t h1 h2 => ?_
  have ht : t < L.length * 2 := by rw [size_flatK] at h1; simpa using h1
  obtain ⟨g0, g1⟩ := hcells_get L (t / 2) (by omega)
  have e := get_flatK encHg 2 L.toArray t (by simpa using ht)
  rw [getElem!_pos _ t h1] at e
  rw [e]
  have e2 : L.toArray[t / 2]! = hget L (t / 2) := by
    unfold hget
    rw [getElem!_pos _ _ (by simp; omega), List.getD_eq_getElem?_getD, List.getElem?_eq_getElem (by omega)]
    simp
  rw [e2]
  have key : ∀ u, (hcells L)[t]? = some u → (hcells L).toArray[t] = u := fun u hu => by
    have := List.getElem?_eq_some_iff.1 hu
    obtain ⟨hh, hu⟩ := this
    simpa using hu
  rcases Nat.mod_two_eq_zero_or_one t with m | m
  · have et : t / 2 * 2 = t := by omega
    rw [et] at g0
    rw [key _ g0, m]; rfl
  · have et : t / 2 * 2 + 1 = t := by omega
    rw [et] at g1
    rw [key _ g1, m]; rfl

theorem heap_put {w : World} {g n : Nat} {os : Array Obj} {cur : Array Value} {e : TypeId} {fr : Nat × Nat} (F : Array Value) (hb : w.heap[g]? = some (.cells cur e fr)) :
    (grow (putRow id (Sort.ahead w n) g 0 F) os).heap[g]? = some (.cells (putCells id 0 F cur) e fr) := by
  have hg : g < w.heap.size := (Array.getElem?_eq_some_iff.1 hb).1
  rw [heap_grow_old _ _ (by simpa using hg)]
  simp [putRow, mapBlock, Sort.ahead, Array.getElem?_modify, hb, onCells]
theorem grownBy_put {w : World} {g n : Nat} {os : Array Obj} (F : Array Value) : w.grownBy (grow (putRow id (Sort.ahead w n) g 0 F) os) (some g) := by
  refine ⟨rfl, rfl, rfl, by simp, fun k hk hne => ?_⟩
  rw [heap_grow_old _ _ (by simpa using hk)]
  have : g ≠ k := fun e => hne (by rw [e])
  simp [putRow, mapBlock, Sort.ahead, Array.getElem?_modify, this]
theorem take_put (cur : Array Value) (xs : List Value) (h : xs.length ≤ cur.size) : (putCells id 0 xs.toArray cur).toList.take xs.length = xs := by
  apply List.ext_getElem?
  intro j
  by_cases hj : j < xs.length
  · rw [List.getElem?_take_of_lt hj, Array.getElem?_toList]
    simp [putCells, hj, show j < cur.size by omega]
  · rw [List.getElem?_take_eq_none (by omega), List.getElem?_eq_none (by omega)]

/-- Behind the sort. -/
def SortedH (w0 : World) (A : Option Addr) (c : Nat) (L : List Hg) (R : List Rw) (e : Ending) (w' : World) : Prop :=
  e = .returned (.tuple #[]) ∧ ∃ S : List Hg, S.Perm L ∧ S.Pairwise (fun a b => a.1 ≤ b.1) ∧ Own w0 w' (hrow (.slice A L.length c) S :: R)
theorem hlen_bits (n : Nat) (W : World) (h : n ≤ 12) : Calls Try.prog 51 #[.int .u64 n] W fun e w' => (∃ l : Int, e = .returned (.int .i64 l)) ∧ w' = W :=
  (Try.bits_Len n W (by omega) (by omega)).mono fun _ _ ⟨he, hw⟩ => ⟨⟨_, he⟩, hw⟩

theorem sort_h (w0 : World) (A : Option Addr) (c : Nat) (L : List Hg) (R : List Rw) (W : World) (h12 : L.length ≤ 12) (O : Own w0 W (hrow (.slice A L.length c) L :: R)) :
    Calls Try.prog 39 #[.slice A L.length c, .func (.func 40) #[] #[]] W (SortedH w0 A c L R) := by
  rcases Nat.eq_zero_or_pos L.length with h0 | h0
  · obtain rfl := List.eq_nil_of_length_eq_zero h0
    refine (AnyF.slices_SortFunc_none Try.laysSlF06_f39 A c _ W).mono ?_
    rintro e w' ⟨he, rfl⟩
    exact ⟨he, [], List.Perm.refl _, List.Pairwise.nil, O⟩
  · have o : W.ownsRow w0.heap.size 34 2 (.slice A L.length c) L.length (hcells L) := O.hd
    rcases o.2 with ⟨hv, hn⟩ | ⟨g, cap, cur, hv, hb, hg, h1, h2, h3, h4⟩
    · omega
    · injection hv with e1 _ e3
      subst e1 e3
      have eg : ∀ args w, (callFunc 40 args).run Try.prog w = .ok (.enter 40 args) w := enters_of Try.func40 (by kernel_rfl) rfl
      have hH : HoldsK encHg 2 W g 0 L.toArray := by
        show Holds id W g 0 (flatK encHg 2 L.toArray)
        rw [flatHg]
        intro j hj
        have hj' : j < (hcells L).length := by simpa using hj
        rw [Nat.zero_add]
        refine ⟨(o.cellAt j (by rw [hcells_len] at hj'; exact hj')).trans ?_, o.frozenAt j⟩
        rw [List.getElem?_eq_getElem hj', getElem!_pos _ j hj]
        simp
      have hcon := AnyQ.slices_SortFunc_small_sorted Try.laysSlF06_f39 2 Try.isAgg34 Try.sizeOf34 encHg (fun _ => rfl) (fun x v hv => by simp [encHg] at hv; rcases hv with rfl | rfl <;> rfl) cmpHg 40 #[] swoHg g 0 c L.toArray W eg (fun _ _ _ _ x y => cmpHg_any x y _) hH (Array.getElem?_eq_some_iff.1 hg).1 (by simpa using h12) hlen_bits
      have hsz : L.toArray.size = L.length := by simp
      rw [hsz] at hcon
      refine hcon.mono ?_
      rintro e w' ⟨he, d', n, os, hp, hs, rfl⟩
      obtain ⟨p1, -, p3⟩ := hp
      have q1 : d'.size = L.length := by rw [p1]; simp
      have pl : d'.toList.Perm L := by
        have a1 : (d'.extract 0 L.length).toList = d'.toList := by rw [← q1, Array.extract_size]
        have a2 : (L.toArray.extract 0 L.length).toList = L := by rw [← hsz, Array.extract_size]
        rw [a1, a2] at p3
        exact p3
      have ln : d'.toList.length = L.length := by simpa using q1
      refine ⟨he, d'.toList, pl, ?_, O.hover ln ?_ ?_⟩
      · rw [List.pairwise_iff_getElem]
        intro i j hi hj hij
        have s := hs i j (Nat.zero_le _) hij (by omega)
        rw [ltHg, getElem!_pos _ j (by simpa using hj), getElem!_pos _ i (by simpa using hi)] at s
        have s2 := of_decide_eq_false s
        simp only [Array.getElem_toList]
        omega
      · have ef : flatK encHg 2 d' = (hcells d'.toList).toArray := flatHg d'.toList
        show (grow (putRow id (Sort.ahead W n) g 0 (flatK encHg 2 d')) os).ownsRow _ _ _ _ _ _
        rw [ef]
        refine ⟨by rw [hcells_len, ln], .inr ⟨g, c, _, rfl, hb, heap_put _ hg, h1, h2, by simp [putCells, h3], ?_⟩⟩
        have lh : (hcells d'.toList).length = L.length * 2 := by rw [hcells_len, ln]
        rw [← lh]
        exact take_put cur _ (by rw [lh, h3]; exact Nat.mul_le_mul_right _ h1)
      · exact grownBy_put _
end Go.Proofs.Ytajndcggafjmeaa
