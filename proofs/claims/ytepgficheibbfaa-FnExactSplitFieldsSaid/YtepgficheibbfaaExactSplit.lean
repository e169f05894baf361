/-
  The law that the program's splitting of a line answers as the model's, in memory of its own: for every line. No condition.
-/
import Derived.Test.YtepgficheibbfaaImplSplit
import Derived.Test.YtepgficheibbfaaMarks
namespace Go.Proofs.Ytepgficheibbfaa
open Go.ChangeShapes Go.WideShapes Go.ChangeAt Go.RowKit Go.PlainAid

theorem specSplit_any (s : ByteArray) (w : World) (hm : s.size ≤ 9223372036854775807) : Calls Try.prog 15 #[.string s] w (Split w.heap.size s w) := by
  by_cases h : 600 < s.size
  · exact specSplit_long s w h hm
  · exact specSplit_short s w (by omega)
theorem implSplit_any (s : ByteArray) (w : World) (hm : s.size ≤ 9223372036854775807) : Calls Try.prog 16 #[.string s] w (Split w.heap.size s w) := by
  by_cases h : 600 < s.size
  · exact implSplit_long s w h hm
  · exact implSplit_short s w (by omega)

def SplitForm (B : Nat) (b : Bool) (xs : List ByteArray) (w : World) (e : Ending) (w' : World) : Prop :=
  ∃ A c, e = .returned (.tuple #[.slice A xs.length c, .bool b]) ∧ w'.ownsRow B 9 1 (.slice A xs.length c) xs.length (xs.map Value.string) ∧ Below B w w'
theorem split_form {B : Nat} {s : ByteArray} {w : World} {e : Ending} {w' : World} (h : Split B s w e w') : SplitForm B (okS s) (xsOf s) w e w' := by
  obtain ⟨v, he, hown, hb⟩ := h
  obtain ⟨A, c, rfl⟩ := own_form hown
  exact ⟨A, c, he, hown, hb⟩

theorem exactSplit_walk (s : ByteArray) (w : World) (hm : s.size ≤ 9223372036854775807) :
    Calls Try.prog 6 #[.string s] w fun e w' => e = .returned (.bool true) ∧ Below w.heap.size w w' := by
  by_cases h1 : 1048576 < s.size
  · go_enter Try.func6, Try.ntmps6
    go_wp2
    go_ret
    exact ⟨rfl, Below.refl _ _⟩
  · have hS := fun W => (specSplit_any s W hm).mono fun _ _ h => split_form h
    have hI := fun W => (implSplit_any s W hm).mono fun _ _ h => split_form h
    have hn := xsOf_le s
    generalize okS s = b at hS hI
    generalize xsOf s = xs at hS hI hn
    clear hm
    go_enter Try.func6, Try.ntmps6
    go_wp2_with fail
    refine (hS _).mono ?_
    rintro e w1 ⟨A0, c0, rfl, own0, b1⟩
    go_wp2_with fail
    refine (hI _).mono ?_
    rintro e w2 ⟨A1, c1, rfl, own1, b2⟩
    go_wp2_with fail
    refine (eqStr_same A1 A0 xs.length c1 c0 xs w2 (by omega) (strRow_own own1) (strRow_below own0 b2 (Nat.le_refl _))).mono ?_
    rintro e w3 ⟨rfl, q, rfl⟩
    go_wp2_with fail
    refine (mark_any w1.heap.size xs.length c1 A1 _ (w2.drewN q) (by omega) own1).mono ?_
    rintro e w4 ⟨rfl, own4, g4⟩
    have b4 : Below w1.heap.size w1 w4 := (below_drewN b2 q).grown g4 b2.size (fun k e => (own1.lt k e).1)
    have m4 := markRow_own own4
    clear b2 own1 own4 g4
    go_wp2_with fail
    refine (held_any xs.length c1 A1 w4 (by omega) m4).mono ?_
    rintro e w5 ⟨rfl, b5⟩
    have m5 := markRow_below m4 b5
    have b5' : Below w1.heap.size w1 w5 := b4.trans (b5.mono b4.size)
    clear m4 b4 b5
    go_wp2_with fail
    refine (hI _).mono ?_
    rintro e w6 ⟨A2, c2, rfl, own2, b6⟩
    have b6' : Below w1.heap.size w1 w6 := b5'.trans (b6.mono b5'.size)
    go_wp2_with fail
    refine (eqStr_same A2 A0 xs.length c2 c0 xs w6 (by omega) (strRow_own own2) (strRow_below own0 b6' (Nat.le_refl _))).mono ?_
    rintro e w7 ⟨rfl, q2, rfl⟩
    have m6 := markRow_below m5 b6
    clear own2 own0 m5 b6 b5'
    go_wp2_with fail
    refine (held_any xs.length c1 A1 (w6.drewN q2) (by omega) m6).mono ?_
    rintro e w8 ⟨rfl, b8⟩
    have b8' : Below w.heap.size w w8 := b1.trans ((below_drewN b6' q2).mono b1.size |>.trans (b8.mono (Nat.le_trans b1.size b6'.size)))
    clear m6 b8 b6' b1
    go_wp2
    go_ret
    exact ⟨rfl, b8'⟩
end Go.Proofs.Ytepgficheibbfaa
