/-
  Glasses in a variable of the call's own, beside its other rows; an answer of a slice and a bool. No program's walk.
-/
import Derived.Test.YtmbhldpbgcfnmaaGlassBox
import Derived.Test.YtmbhldpbgcfnmaaOwnMore
namespace Go.Proofs.Ytmbhldpbgcfnmaa
open Go.ChangeShapes Go.WideShapes Go.ChangeAt Go.RowKit Go.PlainAid

/-- A variable that holds glasses. -/
def jrow (q : Nat) (a b x y : Int) : Rw := ⟨25, 4, .slice (some ⟨q, 0, .none⟩) 1 1, 1, [.int .i64 a, .int .i64 b, .int .i64 x, .int .i64 y]⟩
theorem jrow_at {w : World} {B q : Nat} {a b x y : Int} (h : JBox w q a b x y) (hB : B ≤ q) : (jrow q a b x y).at B w :=
  ⟨rfl, .inr ⟨q, 1, _, rfl, hB, h, Nat.le_refl _, by decide, rfl, rfl⟩⟩
theorem jbox_of {w : World} {B q : Nat} {a b x y : Int} (h : (jrow q a b x y).at B w) : JBox w q a b x y := by
  rcases h.2 with ⟨h', -⟩ | ⟨g, cap, cur, h', -, hg, -, -, hs, ht⟩
  · cases h'
  · injection h' with h1 _ h3
    injection h1 with h1
    injection h1 with h1
    subst h1 h3
    have : cur = #[.int .i64 a, .int .i64 b, .int .i64 x, .int .i64 y] := by
      apply Array.toList_inj.1
      have hl : cur.toList.length = 4 := by rw [Array.length_toList, hs]; rfl
      rw [← List.take_of_length_le (l := cur.toList) (i := 1 * 4) (by omega)]
      exact ht
    subst this
    exact hg
theorem Own.jbox {w wr : World} {q : Nat} {a b x y : Int} {R : List Rw} (h : Own w wr R) (hm : jrow q a b x y ∈ R) : JBox wr q a b x y := jbox_of (h.own _ hm)
/-- A variable is made. -/
theorem Own.jug {w wr : World} {R : List Rw} (h : Own w wr R) (a b x y : Int) : Own w (wr.alloc (jobj a b x y 25)) (jrow wr.heap.size a b x y :: R) :=
  h.add ((Below.refl _ _).alloc (Nat.le_refl _) _) (jrow_at (JBox.new wr a b x y) (Nat.le_refl _))
theorem grown_jset (w : World) (q : Nat) (a b x y : Int) : w.grownBy (jset w q a b x y) (some q) :=
  grown_setCell (grown_setCell (grown_setCell (grown_setCell (World.grownBy.refl w _) 0 _) 1 _) 2 _) 3 _
/-- All four are written. -/
theorem Own.jset {w wr : World} {q : Nat} {a b x y : Int} {R : List Rw} (h : Own w wr (jrow q a b x y :: R)) (a' b' x' y' : Int) : Own w (jset wr q a' b' x' y') (jrow q a' b' x' y' :: R) := by
  have hb := jbox_of (h.own _ List.mem_cons_self)
  have hB := (h.hd.lt q rfl).1
  exact h.head (r' := jrow q a' b' x' y') (grown_jset wr q a' b' x' y') (jrow_at (hb.set a' b' x' y') hB) (.inl rfl)

/-- Some of the rows. -/
theorem Own.sub {w wr : World} {R R' : List Rw} (h : Own w wr R) (hs : R'.Sublist R) : Own w wr R' := ⟨fun p hp => h.own p (hs.subset hp), h.ne.sublist hs, h.bel⟩

/-- A slice and a bool are answered, the slice in a block of its own. -/
def GivesSB (X : List Int) (z : Bool) (w : World) (e : Ending) (w' : World) : Prop :=
  ∃ (A : Option Addr) (c : Nat), e = .returned (.tuple #[.slice A X.length c, .bool z]) ∧ Own w w' [irow (.slice A X.length c) X]
theorem Own.givesB {w w' : World} {u : Value} {X : List Int} (h : Own w w' [irow u X]) (z : Bool) : GivesSB X z w (.returned (.tuple #[u, .bool z])) w' := by
  obtain ⟨A, c, hu⟩ := own_slice h.hd
  replace hu : u = .slice A X.length c := hu
  subst hu
  exact ⟨A, c, rfl, h⟩
/-- nil. -/
theorem nil_own {w w' : World} (b : Below w.heap.size w w') : Own w w' [irow (.slice .none 0 0) []] := by
  have h := (Own.none w).keep b
  exact ⟨fun p hp => by rw [List.mem_singleton.1 hp]; exact ⟨rfl, .inl ⟨rfl, rfl⟩⟩, List.pairwise_singleton .., h.bel⟩
end Go.Proofs.Ytmbhldpbgcfnmaa
