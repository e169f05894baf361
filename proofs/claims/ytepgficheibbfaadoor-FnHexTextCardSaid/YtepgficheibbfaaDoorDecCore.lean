/-
  Plain facts on decoding hexadecimal text; the program's value of a digit.
-/
import Derived.Test.YtepgficheibbfaaDoorFigure
namespace Go.Proofs.YtepgficheibbfaaDoor
open Go.ChangeShapes Go.WideShapes Go.ChangeAt Go.RowKit Go.PlainAid

/-- The value of a digit's byte; -1 for any other byte. -/
def dg (x : Int) : Int := if 48 ≤ x ∧ x ≤ 57 then x - 48 else if 97 ≤ x ∧ x ≤ 102 then x - 87 else -1
theorem dg_le (x : Int) : dg x ≤ 15 := by unfold dg; repeat' split
                                          all_goals omega
/-- The bytes of the first k pairs. -/
def decTo (s : ByteArray) : Nat → List Int
  | 0 => []
  | k + 1 => decTo s k ++ [16 * dg (bt s (2 * k)) + dg (bt s (2 * k + 1))]
def GoodTo (s : ByteArray) (j : Nat) : Prop := ∀ i, i < j → 0 ≤ dg (bt s i)
theorem goodTo_zero (s : ByteArray) : GoodTo s 0 := fun i hi => by omega
theorem goodTo_two {s : ByteArray} {j : Nat} (h : GoodTo s j) (h1 : 0 ≤ dg (bt s j)) (h2 : 0 ≤ dg (bt s (j + 1))) : GoodTo s (j + 2) := fun i hi => by
  rcases Nat.lt_or_ge i j with h3 | h3
  · exact h i h3
  · obtain rfl | rfl : i = j ∨ i = j + 1 := by omega
    · exact h1
    · exact h2
def Decoded (s : ByteArray) (w : World) (e : Ending) (w' : World) : Prop :=
  Below w.heap.size w w' ∧ ((GoodTo s s.size ∧ e = .returned (.tuple #[.string (strOfNums (decTo s (s.size / 2))), .bool true])) ∨ (¬ GoodTo s s.size ∧ e = .returned (.tuple #[.string { data := #[] }, .bool false])))
theorem decoded_bad {s : ByteArray} {w w' : World} (hb : Below w.heap.size w w') (j : Nat) (hj : j < s.size) (h : dg (bt s j) < 0) : Decoded s w (.returned (.tuple #[.string { data := #[] }, .bool false])) w' :=
  ⟨hb, .inr ⟨fun hg => by have := hg j hj; omega, rfl⟩⟩

theorem hexValue_good (x : Int) (w : World) (h0 : 0 ≤ x) (h1 : x ≤ 255) (h : 0 ≤ dg x) :
    Calls Tryd.prog 27 #[.int .u8 x] w fun e w' => e = .returned (.tuple #[.int .u8 (dg x), .bool true]) ∧ w = w' := by
  unfold dg at h ⊢
  by_cases a1 : 48 ≤ x
  · by_cases a2 : x ≤ 57
    · rw [if_pos ⟨a1, a2⟩]
      clear h
      go_enter Tryd.func27, Tryd.ntmps27
      go_wp2
      go_ret2
      exact ⟨rfl, rfl⟩
    · rw [if_neg (by omega)] at h ⊢
      by_cases a3 : 97 ≤ x
      · by_cases a4 : x ≤ 102
        · rw [if_pos ⟨a3, a4⟩]
          clear h
          have e : x - 97 + 10 = x - 87 := by omega
          rw [← e]
          clear e
          go_enter Tryd.func27, Tryd.ntmps27
          go_wp2
          go_ret2
          exact ⟨rfl, rfl⟩
        · rw [if_neg (by omega)] at h
          omega
      · rw [if_neg (by omega)] at h
        omega
  · rw [if_neg (by omega), if_neg (by omega)] at h
    omega

theorem hexValue_bad (x : Int) (w : World) (h0 : 0 ≤ x) (h1 : x ≤ 255) (h : dg x < 0) :
    Calls Tryd.prog 27 #[.int .u8 x] w fun e w' => e = .returned (.tuple #[.int .u8 0, .bool false]) ∧ w = w' := by
  unfold dg at h
  by_cases a1 : 48 ≤ x
  · by_cases a2 : x ≤ 57
    · rw [if_pos ⟨a1, a2⟩] at h
      omega
    · rw [if_neg (by omega)] at h
      by_cases a3 : 97 ≤ x
      · by_cases a4 : x ≤ 102
        · rw [if_pos ⟨a3, a4⟩] at h
          omega
        · clear h
          go_enter Tryd.func27, Tryd.ntmps27
          go_wp2
          go_ret2
          exact ⟨rfl, rfl⟩
      · clear h
        go_enter Tryd.func27, Tryd.ntmps27
        go_wp2
        go_ret2
        exact ⟨rfl, rfl⟩
  · clear h
    have a5 : ¬ (97 ≤ x) := by omega
    go_enter Tryd.func27, Tryd.ntmps27
    go_wp2
    go_ret2
    exact ⟨rfl, rfl⟩

theorem dec_rel {w wr w1 : World} {u v : Value} {o : Obj} {s : ByteArray} {j : Nat} {T : TypeId} (hj : j % 2 < 1) (hown : wr.ownsRow w.heap.size T 1 u (j / 2) ((decTo s (j / 2)).map (Value.int .u8))) (hbel : Below w.heap.size w wr)
    (hown1 : w1.ownsRow w.heap.size T 1 v (j / 2 + 1) ((decTo s (j / 2)).map (Value.int .u8) ++ [.int .u8 (16 * dg (bt s j) + dg (bt s (j + 1)))])) (hg : (wr.alloc o).grownBy w1 u.ownBlock) :
    w1.ownsRow w.heap.size T 1 v ((j + 2) / 2) ((decTo s ((j + 2) / 2)).map (Value.int .u8)) ∧ Below w.heap.size w w1 := by
  refine ⟨?_, (hbel.alloc hbel.size o).grown hg ?_ (fun k e => (hown.lt k e).1)⟩
  · have e0 : (j + 2) / 2 = j / 2 + 1 := by omega
    have e1 : 2 * (j / 2) = j := by omega
    have e : (decTo s (j / 2 + 1)).map (Value.int .u8) = (decTo s (j / 2)).map (Value.int .u8) ++ [.int .u8 (16 * dg (bt s j) + dg (bt s (j + 1)))] := by
      show (decTo s (j / 2) ++ [16 * dg (bt s (2 * (j / 2))) + dg (bt s (2 * (j / 2) + 1))]).map (Value.int .u8) = _
      rw [e1, List.map_append]; rfl
    rw [e0, e]; exact hown1
  · have := hbel.size
    simp; omega

theorem Tryd.infoByteD : (Tryd.prog.info? 5).map (fun i => (i.zero, i.size, i.bytes)) = some (some (.int .u8 0), 1, 1) := by kernel_rfl

end Go.Proofs.YtepgficheibbfaaDoor
