/-
  The contracts of the exact laws' own marks on slices of ints: marks are written into every place, from a number on; held marks are found. No condition but that the slices are the call's own, or were there, and are short.
-/
import Derived.Test.YtgjcbcbnjgghaaaInts
namespace Go.Proofs.Ytgjcbcbnjgghaaa
open Go.ChangeShapes Go.WideShapes Go.ChangeAt Go.RowKit Go.PlainAid

/-- What is in the places behind k marks, the first of which is s. -/
def imarksTo (s : Int) (k : Nat) (xs : List Value) : List Value := (List.range k).map (fun j => Value.int .i64 (s + (j : Nat))) ++ xs.drop k
theorem imarksTo_zero (s : Int) (xs : List Value) : imarksTo s 0 xs = xs := by simp [imarksTo]
theorem imarksTo_set {s : Int} {k : Nat} {xs : List Value} (hk : k < xs.length) : (imarksTo s k xs).set k (.int .i64 (s + (k : Nat))) = imarksTo s (k + 1) xs := by
  unfold imarksTo
  have hl : ((List.range k).map (fun j => Value.int .i64 (s + (j : Nat)))).length = k := by simp
  rw [List.set_append_right _ _ (by omega), hl, Nat.sub_self, List.range_succ, List.map_append, List.append_assoc]
  congr 1
  rw [List.drop_eq_getElem_cons hk]
  rfl
def iallMarks (s : Int) (n : Nat) : List Int := (List.range n).map fun j => (s + (j : Nat))
theorem iallMarks_length (s : Int) (n : Nat) : (iallMarks s n).length = n := by simp [iallMarks]
theorem iallMarks_get {s : Int} {n j : Nat} (h : j < n) : (iallMarks s n).getD j 0 = (s + (j : Nat)) := by
  unfold iallMarks
  rw [List.getD_eq_getElem?_getD, List.getElem?_map, List.getElem?_range h]; rfl
theorem imarksTo_all {s : Int} {n : Nat} {xs : List Value} (h : xs.length = n) : imarksTo s n xs = ints (iallMarks s n) := by
  unfold imarksTo ints iallMarks
  rw [List.drop_of_length_le (by omega), List.append_nil, List.map_map]
  rfl

def IMarked (B : Nat) (s : Int) (n : Nat) (v : Value) (w : World) (e : Ending) (w' : World) : Prop := e = .returned (.int .i64 (s + (n : Nat))) ∧ w'.ownsRow B 3 1 v n (ints (iallMarks s n)) ∧ w.grownBy w' v.ownBlock

theorem imark_nil (B : Nat) (s : Int) (a : Option Addr) (c : Nat) (w : World) (h : w.ownsRow B 3 1 (.slice a 0 c) 0 []) :
    Calls Try.prog 23 #[.slice a 0 c, .int .i64 s] w (IMarked B s 0 (.slice a 0 c) w) := by
  have hend : IMarked B s 0 (.slice a 0 c) w (.returned (.int .i64 s)) w := ⟨by simp, h, World.grownBy.refl w _⟩
  clear h
  go_enter Try.func23, Try.ntmps23
  go_wp2
  refine wp_loop_rounds 1 ?_
  rw [rounds_succ]
  go_wp2
  go_ret
  exact hend

theorem imark_rel {B n k g c : Nat} {s : Int} {w wr : World} {xs : List Value} (hk : k < n) (hl : xs.length = n) (hown : wr.ownsRow B 3 1 (.slice (some ⟨g, 0, none⟩) n c) n (imarksTo s k xs)) (hg : w.grownBy wr (some g)) :
    (∃ u, wr.cell? ⟨g, k, none⟩ = some u) ∧ wr.frozen? ⟨g, k, none⟩ = false ∧
    (wr.setCell ⟨g, k, none⟩ (.int .i64 (s + (k : Nat)))).ownsRow B 3 1 (.slice (some ⟨g, 0, none⟩) n c) n (imarksTo s (k + 1) xs) ∧ w.grownBy (wr.setCell ⟨g, k, none⟩ (.int .i64 (s + (k : Nat)))) (some g) := by
  obtain ⟨s1, s2⟩ := hown.stored k (.int .i64 (s + (k : Nat)))
  have hll : (imarksTo s k xs).length = n := by have := hown.1; simpa using this
  refine ⟨⟨_, (hown.cellAt k (by omega)).trans (List.getElem?_eq_getElem (by omega))⟩, hown.frozenAt k, ?_, grown_setCell hg k _⟩
  rw [← imarksTo_set (by omega)]
  exact s1

theorem imark_some (B : Nat) (s : Int) (n g c : Nat) (xs : List Value) (w : World) (hn : n ≤ 1000000000) (hs0 : 0 ≤ s) (hs : s ≤ 1000000000) (h : w.ownsRow B 3 1 (.slice (some ⟨g, 0, none⟩) n c) n xs) :
    Calls Try.prog 23 #[.slice (some ⟨g, 0, none⟩) n c, .int .i64 s] w (IMarked B s n (.slice (some ⟨g, 0, none⟩) n c) w) := by
  have hl : xs.length = n := by have := h.1; simpa using this
  have hni : (n : Int) ≤ 1000000000 := by omega
  clear hn
  go_enter Try.func23, Try.ntmps23
  go_wp2
  go_loopw [5, 1] (fun i m wr => ∃ k : Nat, k ≤ n ∧ i = .int .i64 k ∧ m = .int .i64 (s + (k : Nat)) ∧ wr.ownsRow B 3 1 (.slice (some ⟨g, 0, none⟩) n c) n (imarksTo s k xs) ∧ w.grownBy wr (some g)) (fun i _ _ => n - (intOf i).toNat)
  case atStart => exact ⟨0, by omega, rfl, by simp, by rw [imarksTo_zero]; exact h, World.grownBy.refl w _⟩
  case round =>
    clear h
    obtain ⟨k, hk, rfl, rfl, hown, hgr⟩ := hrel
    by_cases hlt : k < n
    · obtain ⟨⟨u, hu⟩, r2, r3, r4⟩ := imark_rel hlt hl hown hgr
      clear hl hown hgr
      go_wp2
      go_roundw
      case rel => exact ⟨k + 1, by omega, by go_num, by rw [Int.natCast_add, ← Int.add_assoc]; rfl, r3, r4⟩
      case measure => simp [intOf]; omega
    · obtain rfl : k = n := by omega
      rw [imarksTo_all hl] at hown
      have hend : IMarked B s k (.slice (some ⟨g, 0, none⟩) k c) w (.returned (.int .i64 ((s : Int) + k))) wr := ⟨rfl, hown, hgr⟩
      clear hl hown hgr
      go_wp2
      go_ret
      exact hend

theorem imark_any (B : Nat) (s : Int) (n c : Nat) (A : Option Addr) (xs : List Value) (w : World) (hn : n ≤ 1000000000) (hs0 : 0 ≤ s) (hs : s ≤ 1000000000) (h : w.ownsRow B 3 1 (.slice A n c) n xs) :
    Calls Try.prog 23 #[.slice A n c, .int .i64 s] w (IMarked B s n (.slice A n c) w) := by
  rcases Nat.eq_zero_or_pos n with rfl | h0
  · obtain rfl : xs = [] := List.eq_nil_of_length_eq_zero (by have := h.1; simpa using this)
    exact imark_nil B s A c w h
  · obtain ⟨g, cap, hv, _⟩ := h.form h0
    have hA : A = some ⟨g, 0, none⟩ := by injection hv
    subst hA
    exact imark_some B s n g c xs w hn hs0 hs h

def IHeld (s : Int) (n : Nat) (w : World) (e : Ending) (w' : World) : Prop := e = .returned (.int .i64 (s + (n : Nat))) ∧ ∃ q, w' = w.drewN q

theorem iheld_any (s : Int) (n c : Nat) (A : Option Addr) (w : World) (hn : n ≤ 1000000000) (hs0 : 0 ≤ s) (hs : s ≤ 1000000000) (h : IntRow w A (iallMarks s n)) :
    Calls Try.prog 24 #[.slice A n c, .int .i64 s] w (IHeld s n w) := by
  have hni : (n : Int) ≤ 1000000000 := by omega
  clear hn
  go_enter Try.func24, Try.ntmps24
  go_wp2
  go_loopw [5, 1] (fun i m wr => ∃ k q : Nat, k ≤ n ∧ i = .int .i64 k ∧ m = .int .i64 ((s : Int) + k) ∧ wr = w.drewN q) (fun i _ _ => n - (intOf i).toNat)
  case atStart => exact ⟨0, 0, by omega, rfl, by simp, rfl⟩
  case round =>
    obtain ⟨k, q, hk, rfl, rfl, rfl⟩ := hrel
    by_cases hlt : k < n
    · obtain ⟨x, rfl, -, hc⟩ := h k (by rw [iallMarks_length]; omega)
      rw [iallMarks_get hlt] at hc
      clear h
      go_wp2
      go_roundw
      case rel => exact ⟨k + 1, q, by omega, by go_num, by rw [Int.natCast_add, ← Int.add_assoc]; rfl, rfl⟩
      case measure => simp [intOf]; omega
    · obtain rfl : k = n := by omega
      clear h
      have hend : IHeld s k w (.returned (.int .i64 ((s : Int) + k))) (w.drewN q) := ⟨rfl, q, rfl⟩
      go_wp2
      go_ret
      exact hend
end Go.Proofs.Ytgjcbcbnjgghaaa
