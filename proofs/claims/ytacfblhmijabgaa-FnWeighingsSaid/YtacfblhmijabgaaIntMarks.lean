/-
  The contracts of the exact laws' own marks on slices of ints: a mark is written into every place; held marks are found. No condition but that the slices are the call's own, or were there, and are short.
-/
import Derived.Test.YtacfblhmijabgaaInts
namespace Go.Proofs.Ytacfblhmijabgaa
open Go.ChangeShapes Go.WideShapes Go.ChangeAt Go.RowKit Go.PlainAid

/-- What is in the places behind k marks. -/
def imarksTo (k : Nat) (xs : List Value) : List Value := (List.range k).map (fun j => Value.int .i64 ((j + 1 : Nat) : Int)) ++ xs.drop k
theorem imarksTo_zero (xs : List Value) : imarksTo 0 xs = xs := by simp [imarksTo]
theorem imarksTo_set {k : Nat} {xs : List Value} (hk : k < xs.length) : (imarksTo k xs).set k (.int .i64 ((k + 1 : Nat) : Int)) = imarksTo (k + 1) xs := by
  unfold imarksTo
  have hl : ((List.range k).map (fun j => Value.int .i64 ((j + 1 : Nat) : Int))).length = k := by simp
  rw [List.set_append_right _ _ (by omega), hl, Nat.sub_self, List.range_succ, List.map_append, List.append_assoc]
  congr 1
  rw [List.drop_eq_getElem_cons hk]
  rfl
def iallMarks (n : Nat) : List Int := (List.range n).map fun j => ((j + 1 : Nat) : Int)
theorem iallMarks_length (n : Nat) : (iallMarks n).length = n := by simp [iallMarks]
theorem iallMarks_get {n j : Nat} (h : j < n) : (iallMarks n).getD j 0 = ((j + 1 : Nat) : Int) := by
  unfold iallMarks
  rw [List.getD_eq_getElem?_getD, List.getElem?_map, List.getElem?_range h]; rfl
theorem imarksTo_all {n : Nat} {xs : List Value} (h : xs.length = n) : imarksTo n xs = ints (iallMarks n) := by
  unfold imarksTo ints iallMarks
  rw [List.drop_of_length_le (by omega), List.append_nil, List.map_map]
  rfl

def IMarked (B n : Nat) (v : Value) (w : World) (e : Ending) (w' : World) : Prop := e = .returned (.int .i64 ((n + 1 : Nat) : Int)) ∧ w'.ownsRow B 3 1 v n (ints (iallMarks n)) ∧ w.grownBy w' v.ownBlock

theorem imark_nil (B : Nat) (a : Option Addr) (c : Nat) (w : World) (h : w.ownsRow B 3 1 (.slice a 0 c) 0 []) :
    Calls Try.prog 27 #[.slice a 0 c, .int .i64 1] w (IMarked B 0 (.slice a 0 c) w) := by
  have hend : IMarked B 0 (.slice a 0 c) w (.returned (.int .i64 1)) w := ⟨rfl, h, World.grownBy.refl w _⟩
  clear h
  go_enter Try.func27, Try.ntmps27
  go_wp2
  refine wp_loop_rounds 1 ?_
  rw [rounds_succ]
  go_wp2
  go_ret
  exact hend

theorem imark_rel {B n k g c : Nat} {w wr : World} {xs : List Value} (hk : k < n) (hl : xs.length = n) (hown : wr.ownsRow B 3 1 (.slice (some ⟨g, 0, none⟩) n c) n (imarksTo k xs)) (hg : w.grownBy wr (some g)) :
    (∃ u, wr.cell? ⟨g, k, none⟩ = some u) ∧ wr.frozen? ⟨g, k, none⟩ = false ∧
    (wr.setCell ⟨g, k, none⟩ (.int .i64 ((k + 1 : Nat) : Int))).ownsRow B 3 1 (.slice (some ⟨g, 0, none⟩) n c) n (imarksTo (k + 1) xs) ∧ w.grownBy (wr.setCell ⟨g, k, none⟩ (.int .i64 ((k + 1 : Nat) : Int))) (some g) := by
  obtain ⟨s1, s2⟩ := hown.stored k (.int .i64 ((k + 1 : Nat) : Int))
  have hll : (imarksTo k xs).length = n := by have := hown.1; simpa using this
  refine ⟨⟨_, (hown.cellAt k (by omega)).trans (List.getElem?_eq_getElem (by omega))⟩, hown.frozenAt k, ?_, grown_setCell hg k _⟩
  rw [← imarksTo_set (by omega)]
  exact s1

theorem imark_some (B n g c : Nat) (xs : List Value) (w : World) (hn : n ≤ 1000000000) (h : w.ownsRow B 3 1 (.slice (some ⟨g, 0, none⟩) n c) n xs) :
    Calls Try.prog 27 #[.slice (some ⟨g, 0, none⟩) n c, .int .i64 1] w (IMarked B n (.slice (some ⟨g, 0, none⟩) n c) w) := by
  have hl : xs.length = n := by have := h.1; simpa using this
  go_enter Try.func27, Try.ntmps27
  go_wp2
  go_loopw [5, 1] (fun i m wr => ∃ k : Nat, k ≤ n ∧ i = .int .i64 k ∧ m = .int .i64 ((k + 1 : Nat) : Int) ∧ wr.ownsRow B 3 1 (.slice (some ⟨g, 0, none⟩) n c) n (imarksTo k xs) ∧ w.grownBy wr (some g)) (fun i _ _ => n - (intOf i).toNat)
  case atStart => exact ⟨0, by omega, rfl, rfl, by rw [imarksTo_zero]; exact h, World.grownBy.refl w _⟩
  case round =>
    clear h
    obtain ⟨k, hk, rfl, rfl, hown, hgr⟩ := hrel
    by_cases hlt : k < n
    · obtain ⟨⟨u, hu⟩, r2, r3, r4⟩ := imark_rel hlt hl hown hgr
      clear hl hown hgr
      go_wp2
      go_roundw
      case rel => exact ⟨k + 1, by omega, by go_num, by go_num, r3, r4⟩
      case measure => simp [intOf]; omega
    · obtain rfl : k = n := by omega
      rw [imarksTo_all hl] at hown
      have hend : IMarked B k (.slice (some ⟨g, 0, none⟩) k c) w (.returned (.int .i64 ((k : Int) + 1))) wr := ⟨rfl, hown, hgr⟩
      clear hl hown hgr
      go_wp2
      go_ret
      exact hend

theorem imark_any (B n c : Nat) (A : Option Addr) (xs : List Value) (w : World) (hn : n ≤ 1000000000) (h : w.ownsRow B 3 1 (.slice A n c) n xs) :
    Calls Try.prog 27 #[.slice A n c, .int .i64 1] w (IMarked B n (.slice A n c) w) := by
  rcases Nat.eq_zero_or_pos n with rfl | h0
  · obtain rfl : xs = [] := List.eq_nil_of_length_eq_zero (by have := h.1; simpa using this)
    exact imark_nil B A c w h
  · obtain ⟨g, cap, hv, _⟩ := h.form h0
    have hA : A = some ⟨g, 0, none⟩ := by injection hv
    subst hA
    exact imark_some B n g c xs w hn h

def IHeld (n : Nat) (w : World) (e : Ending) (w' : World) : Prop := e = .returned (.int .i64 ((n + 1 : Nat) : Int)) ∧ ∃ q, w' = w.drewN q

theorem iheld_any (n c : Nat) (A : Option Addr) (w : World) (hn : n ≤ 1000000000) (h : IntRow w A (iallMarks n)) :
    Calls Try.prog 28 #[.slice A n c, .int .i64 1] w (IHeld n w) := by
  go_enter Try.func28, Try.ntmps28
  go_wp2
  go_loopw [5, 1] (fun i m wr => ∃ k q : Nat, k ≤ n ∧ i = .int .i64 k ∧ m = .int .i64 ((k + 1 : Nat) : Int) ∧ wr = w.drewN q) (fun i _ _ => n - (intOf i).toNat)
  case atStart => exact ⟨0, 0, by omega, rfl, rfl, rfl⟩
  case round =>
    obtain ⟨k, q, hk, rfl, rfl, rfl⟩ := hrel
    by_cases hlt : k < n
    · obtain ⟨x, rfl, -, hc⟩ := h k (by rw [iallMarks_length]; omega)
      rw [iallMarks_get hlt] at hc
      clear h
      go_wp2
      go_roundw
      case rel => exact ⟨k + 1, q, by omega, by go_num, by go_num, rfl⟩
      case measure => simp [intOf]; omega
    · obtain rfl : k = n := by omega
      clear h
      have hend : IHeld k w (.returned (.int .i64 ((k : Int) + 1))) (w.drewN q) := ⟨rfl, q, rfl⟩
      go_wp2
      go_ret
      exact hend
end Go.Proofs.Ytacfblhmijabgaa
