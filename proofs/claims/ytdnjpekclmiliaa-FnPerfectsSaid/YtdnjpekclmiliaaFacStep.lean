/-
  A list is copied into a new row, and a number is appended: in whatever order the two literals are built. No program's walk.
-/
import Derived.Test.YtdnjpekclmiliaaRowsApp
namespace Go.Proofs.Ytdnjpekclmiliaa
open Go.ChangeShapes Go.WideShapes Go.ChangeAt Go.RowKit Go.PlainAid

theorem IntRow.alloc {w : World} {A : Option Addr} {L : List Int} (h : IntRow w A L) (o : Obj) : IntRow (w.alloc o) A L := h.keep ((Below.refl _ _).alloc (Nat.le_refl _) _)
theorem IntRow.drew {w : World} {A : Option Addr} {L : List Int} (h : IntRow w A L) : IntRow w.drew A L := h
theorem IntRow.news {w : World} {x : Addr} {L : List Int} (h : IntRow w (some x) L) : ∀ j u, (ints L)[j]? = some u → w.cell? (x.add j) = some u := fun j u hu => by
  have hj : j < L.length := by
    rcases Nat.lt_or_ge j L.length with h1 | h1
    · exact h1
    · rw [List.getElem?_eq_none (by rw [ints_length]; exact h1)] at hu; cases hu
  obtain ⟨y, hy, -, hc⟩ := h j hj
  injection hy with hy
  subst hy
  rw [ints_get hj] at hu
  injection hu with hu
  rw [← hu]
  exact hc
/-- The world in which the copy is made: an empty row of the call's own at g, the list still read, only new memory written. -/
structure Start (wr W : World) (g : Nat) (x : Addr) (H : List Int) : Prop where
  own : W.ownsRow wr.heap.size 3 1 (.slice (some ⟨g, 0, none⟩) 0 0) 0 []
  row : IntRow W (some x) H
  bel : Below wr.heap.size wr W
theorem start_i {wr : World} {x : Addr} {H : List Int} (r : IntRow wr (some x) H) : Start wr (wr.alloc (.cells #[] 3)).drew wr.heap.size x H where
  own := (World.ownsRow_made wr #[] 0 (Nat.le_refl _) (by decide) rfl).drew
  row := (r.alloc _).drew
  bel := ((Below.refl wr.heap.size wr).alloc (Nat.le_refl _) _).drew
theorem start_ii {wr : World} {x : Addr} {H : List Int} (r : IntRow wr (some x) H) (o : Obj) : Start wr ((wr.alloc (.cells #[] 3)).alloc o).drew wr.heap.size x H where
  own := ((World.ownsRow_made wr #[] 0 (Nat.le_refl _) (by decide) rfl).alloc o).drew
  row := ((r.alloc _).alloc _).drew
  bel := (((Below.refl wr.heap.size wr).alloc (Nat.le_refl _) _).alloc (by simp) _).drew
theorem start_iii {wr : World} {x : Addr} {H : List Int} (r : IntRow wr (some x) H) (o : Obj) : Start wr ((wr.alloc o).alloc (.cells #[] 3)).drew (wr.heap.size + 1) x H where
  own := by
    have := (World.ownsRow_made (e := 3) (size := 1) (base := wr.heap.size) (wr.alloc o) #[] 0 (by simp) (by decide) rfl).drew
    simpa using this
  row := ((r.alloc _).alloc _).drew
  bel := (((Below.refl wr.heap.size wr).alloc (Nat.le_refl _) _).alloc (by simp) _).drew
theorem Start.next {wr W w1 : World} {g : Nat} {x : Addr} {H : List Int} (h : Start wr W g x H) (g1 : W.grownBy w1 (Value.ownBlock (.slice (some ⟨g, 0, none⟩) 0 0))) : Below wr.heap.size wr w1 :=
  h.bel.grown g1 h.bel.size (fun k e => (h.own.lt k e).1)
theorem news_ii {wr w1 : World} {y : Value} (g1 : ((wr.alloc (.cells #[] 3)).alloc (.cells #[y] 3)).drew.grownBy w1 (some wr.heap.size)) :
    ∀ j u, [y][j]? = some u → w1.cell? ((⟨wr.heap.size + 1, 0, none⟩ : Addr).add j) = some u := fun j u hu => by
  have e : ((wr.alloc (.cells #[] 3)).heap.size) = wr.heap.size + 1 := by simp
  have h := news_new (wr.alloc (.cells #[] 3)) [y] 3 j u hu
  rw [e] at h
  rw [g1.cell_far _ (by rw [addr_add_block]; simp) (by rw [addr_add_block]; simp)]
  exact h
theorem news_iii {wr w1 : World} {y : Value} (g1 : ((wr.alloc (.cells #[y] 3)).alloc (.cells #[] 3)).drew.grownBy w1 (some (wr.heap.size + 1))) :
    ∀ j u, [y][j]? = some u → w1.cell? ((⟨wr.heap.size, 0, none⟩ : Addr).add j) = some u := fun j u hu => by
  have h := news_new wr [y] 3 j u hu
  rw [g1.cell_far _ (by rw [addr_add_block]; simp; omega) (by rw [addr_add_block]; simp)]
  show ((wr.alloc (.cells #[y] 3)).alloc (.cells #[] 3)).cell? _ = _
  rw [World.cell?_alloc_lt _ _ _ (by rw [addr_add_block]; simp)]
  exact h
end Go.Proofs.Ytdnjpekclmiliaa
