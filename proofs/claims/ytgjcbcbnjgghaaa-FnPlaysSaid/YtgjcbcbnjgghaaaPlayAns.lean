/-
  The contracts of the program's path, count of moves and greatest lag. Only new memory is written.
-/
import Derived.Test.YtgjcbcbnjgghaaaFollowAll
import Derived.WalkSpells
namespace Go.Proofs.Ytgjcbcbnjgghaaa
open Go.ChangeShapes Go.WideShapes Go.ChangeAt Go.RowKit Go.PlainAid

/-- A row of the call's own stays while other new memory is made. -/
theorem own_kept1 {w w1 : World} {B n : Nat} {e : TypeId} {v : Value} {xs : List Value} (o : w.ownsRow B e 1 v n xs) (b : Below w.heap.size w w1) : w1.ownsRow B e 1 v n xs :=
  o.kept (below_grown b .none) (by cases q : v.ownBlock <;> simp)

theorem implAll_any (h s : Int) (A : Option Addr) (c n : Nat) (L : List Int) (w : World) (hn : L.length = n) (hm : n ≤ 1000000000) (r : IntRow w A L) :
    Calls Try.prog 11 #[.int .i64 h, .int .i64 s, .slice A n c] w (Copied (pathA h s L) w) := by
  by_cases g : playP h s L
  · have hF := followAll_yes h s A c n L w hn hm r g
    rw [pathA_yes g, hn]
    have hl := pathTo_len h s L n
    generalize pathTo h s L n = P at hF hl ⊢
    generalize sh h s L n = a at hF
    generalize movs h s L n = m at hF
    generalize lagA h s L n = l at hF
    replace hl := Lib.hid hl
    clear r hm g
    go_enter Try.func11, Try.ntmps11
    go_wp2_with fail
    refine hF.mono ?_
    clear hF
    rintro en w1 ⟨g, c2, rfl, o, kb⟩
    have hs := o.lt g rfl
    have b2 : Below w1.heap.size w1 (w1.alloc (obj4 h a m l 43)) := (Below.refl _ _).alloc (Nat.le_refl _) _
    have hc : Copied P w (.returned (.slice (some ⟨g, 0, none⟩) (n + 1) c2)) (w1.alloc (obj4 h a m l 43)) := ⟨_, c2, by rw [hl.out], by rw [hl.out]; exact own_kept1 o b2, below_more kb kb.size b2⟩
    clear o kb b2 hs
    go_wp2_with fail
    go_ret
    exact hc
  · have hF := followAll_no h s A c n L w hn hm r g
    rw [pathA_no g]
    clear r hm g
    go_enter Try.func11, Try.ntmps11
    go_wp2_with fail
    refine hF.mono ?_
    clear hF
    rintro en w1 ⟨rfl, kb⟩
    have b2 : Below w1.heap.size w1 (w1.alloc (obj4 0 0 0 0 43)) := (Below.refl _ _).alloc (Nat.le_refl _) _
    have hc := nil_copied (below_more kb kb.size b2)
    clear kb b2
    go_wp2_with fail
    go_ret
    exact hc

theorem implMoves_any (h s : Int) (A : Option Addr) (c n : Nat) (L : List Int) (w : World) (hn : L.length = n) (hm : n ≤ 1000000000) (r : IntRow w A L) :
    Calls Try.prog 16 #[.int .i64 h, .int .i64 s, .slice A n c] w (SaysI (movsA h s L) w) := by
  have qT : ∀ (w : World) (a : Option Addr) (n c n' c' : Nat), (binOp .eql 24 (.slice a n c) (.slice none n' c')).run Try.prog w = .ok (.bool a.isNone) w := fun w a n c n' c' => Lib.run_eql_slice_nil w _ _ a n c n' c' Try.underlying24
  by_cases g : playP h s L
  · have hF := followAll_yes h s A c n L w hn hm r g
    rw [movsA_yes g, hn]
    generalize pathTo h s L n = P at hF
    generalize sh h s L n = a at hF
    generalize movs h s L n = m at hF ⊢
    generalize lagA h s L n = l at hF
    clear r hm g hn
    go_enter Try.func16, Try.ntmps16
    go_wp2_with fail
    refine hF.mono ?_
    clear hF
    rintro en w1 ⟨g, c2, rfl, o, kb⟩
    have b2 : Below w1.heap.size w1 (w1.alloc (obj4 h a m l 43)) := (Below.refl _ _).alloc (Nat.le_refl _) _
    have q := Quad.new w1 h a m l 43
    have q2 := q.c2
    have kb2 := below_more kb kb.size b2
    clear o kb b2 q
    go_wp2_with fail
    go_ret
    exact ⟨rfl, kb2⟩
  · have hF := followAll_no h s A c n L w hn hm r g
    rw [movsA_no g]
    clear r hm g hn
    go_enter Try.func16, Try.ntmps16
    go_wp2_with fail
    refine hF.mono ?_
    clear hF
    rintro en w1 ⟨rfl, kb⟩
    have b2 : Below w1.heap.size w1 (w1.alloc (obj4 0 0 0 0 43)) := (Below.refl _ _).alloc (Nat.le_refl _) _
    have kb2 := below_more kb kb.size b2
    clear kb b2
    go_wp2_with fail
    go_ret
    exact ⟨rfl, kb2⟩

theorem implLag_any (h s : Int) (A : Option Addr) (c n : Nat) (L : List Int) (w : World) (hn : L.length = n) (hm : n ≤ 1000000000) (r : IntRow w A L) :
    Calls Try.prog 15 #[.int .i64 h, .int .i64 s, .slice A n c] w (SaysI (lagsA h s L) w) := by
  have qT : ∀ (w : World) (a : Option Addr) (n c n' c' : Nat), (binOp .eql 24 (.slice a n c) (.slice none n' c')).run Try.prog w = .ok (.bool a.isNone) w := fun w a n c n' c' => Lib.run_eql_slice_nil w _ _ a n c n' c' Try.underlying24
  by_cases g : playP h s L
  · have hF := followAll_yes h s A c n L w hn hm r g
    rw [lagsA_yes g, hn]
    generalize pathTo h s L n = P at hF
    generalize sh h s L n = a at hF
    generalize movs h s L n = m at hF
    generalize lagA h s L n = l at hF ⊢
    clear r hm g hn
    go_enter Try.func15, Try.ntmps15
    go_wp2_with fail
    refine hF.mono ?_
    clear hF
    rintro en w1 ⟨g, c2, rfl, o, kb⟩
    have b2 : Below w1.heap.size w1 (w1.alloc (obj4 h a m l 43)) := (Below.refl _ _).alloc (Nat.le_refl _) _
    have q := Quad.new w1 h a m l 43
    have q3 := q.c3
    have kb2 := below_more kb kb.size b2
    clear o kb b2 q
    go_wp2_with fail
    go_ret
    exact ⟨rfl, kb2⟩
  · have hF := followAll_no h s A c n L w hn hm r g
    rw [lagsA_no g]
    clear r hm g hn
    go_enter Try.func15, Try.ntmps15
    go_wp2_with fail
    refine hF.mono ?_
    clear hF
    rintro en w1 ⟨rfl, kb⟩
    have b2 : Below w1.heap.size w1 (w1.alloc (obj4 0 0 0 0 43)) := (Below.refl _ _).alloc (Nat.le_refl _) _
    have kb2 := below_more kb kb.size b2
    clear kb b2
    go_wp2_with fail
    go_ret
    exact ⟨rfl, kb2⟩
end Go.Proofs.Ytgjcbcbnjgghaaa
