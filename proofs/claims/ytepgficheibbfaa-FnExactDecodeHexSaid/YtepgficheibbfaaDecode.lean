/-
  Contracts of the two functions that decode hexadecimal text: both answer the bytes of the digits and true, or the empty string and false if the text is longer than 40000 bytes, its length odd or one of its bytes no digit.
-/
import Derived.Test.YtepgficheibbfaaFigure
namespace Go.Proofs.Ytepgficheibbfaa
open Go.ChangeShapes Go.WideShapes Go.ChangeAt Go.RowKit Go.PlainAid

/-- The value of a digit's byte; -1 for any other byte. -/
def dg (x : Int) : Int := if 48 ≤ x ∧ x ≤ 57 then x - 48 else if 97 ≤ x ∧ x ≤ 102 then x - 87 else -1
theorem dg_le (x : Int) : dg x ≤ 15 := by unfold dg; repeat' split
                                          all_goals omega
/-- The bytes of the first k pairs. -/
def decTo (s : ByteArray) : Nat → List Int
  | 0 => []
  | k + 1 => decTo s k ++ [16 * dg (bt s (2 * k)) + dg (bt s (2 * k + 1))]
def GoodTo (s : ByteArray) (j : Nat) : Prop := ∀ i, i < j → 0 ≤ dg (bt s i)
theorem goodTo_zero (s : ByteArray) : GoodTo s 0 := fun i hi => by omega
theorem goodTo_two {s : ByteArray} {j : Nat} (h : GoodTo s j) (h1 : 0 ≤ dg (bt s j)) (h2 : 0 ≤ dg (bt s (j + 1))) : GoodTo s (j + 2) := fun i hi => by
  rcases Nat.lt_or_ge i j with h3 | h3
  · exact h i h3
  · obtain rfl | rfl : i = j ∨ i = j + 1 := by omega
    · exact h1
    · exact h2
def Decoded (s : ByteArray) (w : World) (e : Ending) (w' : World) : Prop :=
  Below w.heap.size w w' ∧ ((GoodTo s s.size ∧ e = .returned (.tuple #[.string (strOfNums (decTo s (s.size / 2))), .bool true])) ∨ (¬ GoodTo s s.size ∧ e = .returned (.tuple #[.string { data := #[] }, .bool false])))
theorem decoded_bad {s : ByteArray} {w w' : World} (hb : Below w.heap.size w w') (j : Nat) (hj : j < s.size) (h : dg (bt s j) < 0) : Decoded s w (.returned (.tuple #[.string { data := #[] }, .bool false])) w' :=
  ⟨hb, .inr ⟨fun hg => by have := hg j hj; omega, rfl⟩⟩

theorem value_any (x : Int) (w : World) (h0 : 0 ≤ x) (h1 : x ≤ 255) :
    Calls Try.prog 26 #[.int .u8 x] w fun e w' => e = .returned (.int .i64 (dg x)) ∧ w = w' := by
  unfold dg
  by_cases a1 : 48 ≤ x
  · by_cases a2 : x ≤ 57
    · rw [if_pos ⟨a1, a2⟩]
      go_enter Try.func26, Try.ntmps26
      go_wp2
      go_ret
      exact ⟨rfl, rfl⟩
    · rw [if_neg (by omega)]
      by_cases a3 : 97 ≤ x
      · by_cases a4 : x ≤ 102
        · rw [if_pos ⟨a3, a4⟩]
          go_enter Try.func26, Try.ntmps26
          go_wp2
          go_ret
          exact ⟨ret_int (by omega), rfl⟩
        · rw [if_neg (by omega)]
          go_enter Try.func26, Try.ntmps26
          go_wp2
          go_ret
          exact ⟨rfl, rfl⟩
      · rw [if_neg (by omega)]
        have a5 : ¬ (97 ≤ x ∧ x ≤ 102) := by omega
        go_enter Try.func26, Try.ntmps26
        go_wp2
        go_ret
        exact ⟨rfl, rfl⟩
  · rw [if_neg (by omega), if_neg (by omega)]
    have a5 : ¬ (97 ≤ x) := by omega
    go_enter Try.func26, Try.ntmps26
    go_wp2
    go_ret
    exact ⟨rfl, rfl⟩

theorem hexValue_good (x : Int) (w : World) (h0 : 0 ≤ x) (h1 : x ≤ 255) (h : 0 ≤ dg x) :
    Calls Try.prog 27 #[.int .u8 x] w fun e w' => e = .returned (.tuple #[.int .u8 (dg x), .bool true]) ∧ w = w' := by
  unfold dg at h ⊢
  by_cases a1 : 48 ≤ x
  · by_cases a2 : x ≤ 57
    · rw [if_pos ⟨a1, a2⟩]
      clear h
      go_enter Try.func27, Try.ntmps27
      go_wp2
      go_ret2
      exact ⟨rfl, rfl⟩
    · rw [if_neg (by omega)] at h ⊢
      by_cases a3 : 97 ≤ x
      · by_cases a4 : x ≤ 102
        · rw [if_pos ⟨a3, a4⟩]
          clear h
          have e : x - 97 + 10 = x - 87 := by omega
          rw [← e]
          clear e
          go_enter Try.func27, Try.ntmps27
          go_wp2
          go_ret2
          exact ⟨rfl, rfl⟩
        · rw [if_neg (by omega)] at h
          omega
      · rw [if_neg (by omega)] at h
        omega
  · rw [if_neg (by omega), if_neg (by omega)] at h
    omega

theorem hexValue_bad (x : Int) (w : World) (h0 : 0 ≤ x) (h1 : x ≤ 255) (h : dg x < 0) :
    Calls Try.prog 27 #[.int .u8 x] w fun e w' => e = .returned (.tuple #[.int .u8 0, .bool false]) ∧ w = w' := by
  unfold dg at h
  by_cases a1 : 48 ≤ x
  · by_cases a2 : x ≤ 57
    · rw [if_pos ⟨a1, a2⟩] at h
      omega
    · rw [if_neg (by omega)] at h
      by_cases a3 : 97 ≤ x
      · by_cases a4 : x ≤ 102
        · rw [if_pos ⟨a3, a4⟩] at h
          omega
        · clear h
          go_enter Try.func27, Try.ntmps27
          go_wp2
          go_ret2
          exact ⟨rfl, rfl⟩
      · clear h
        go_enter Try.func27, Try.ntmps27
        go_wp2
        go_ret2
        exact ⟨rfl, rfl⟩
  · clear h
    have a5 : ¬ (97 ≤ x) := by omega
    go_enter Try.func27, Try.ntmps27
    go_wp2
    go_ret2
    exact ⟨rfl, rfl⟩

theorem dec_rel {w wr w1 : World} {u v : Value} {o : Obj} {s : ByteArray} {j : Nat} {T : TypeId} (hj : j % 2 < 1) (hown : wr.ownsRow w.heap.size T 1 u (j / 2) ((decTo s (j / 2)).map (Value.int .u8))) (hbel : Below w.heap.size w wr)
    (hown1 : w1.ownsRow w.heap.size T 1 v (j / 2 + 1) ((decTo s (j / 2)).map (Value.int .u8) ++ [.int .u8 (16 * dg (bt s j) + dg (bt s (j + 1)))])) (hg : (wr.alloc o).grownBy w1 u.ownBlock) :
    w1.ownsRow w.heap.size T 1 v ((j + 2) / 2) ((decTo s ((j + 2) / 2)).map (Value.int .u8)) ∧ Below w.heap.size w w1 := by
  refine ⟨?_, (hbel.alloc hbel.size o).grown hg ?_ (fun k e => (hown.lt k e).1)⟩
  · have e0 : (j + 2) / 2 = j / 2 + 1 := by omega
    have e1 : 2 * (j / 2) = j := by omega
    have e : (decTo s (j / 2 + 1)).map (Value.int .u8) = (decTo s (j / 2)).map (Value.int .u8) ++ [.int .u8 (16 * dg (bt s j) + dg (bt s (j + 1)))] := by
      show (decTo s (j / 2) ++ [16 * dg (bt s (2 * (j / 2))) + dg (bt s (2 * (j / 2) + 1))]).map (Value.int .u8) = _
      rw [e1, List.map_append]; rfl
    rw [e0, e]; exact hown1
  · have := hbel.size
    simp; omega

theorem Try.infoByteD : (Try.prog.info? 5).map (fun i => (i.zero, i.size, i.bytes)) = some (some (.int .u8 0), 1, 1) := by kernel_rfl

theorem specDec_small (s : ByteArray) (w : World) (hs : s.size ≤ 40000) (he : s.size % 2 < 1) :
    Calls Try.prog 13 #[.string s] w (Decoded s w) := by
  obtain ⟨i0, hi, hz0, hz1, hz2⟩ := info_parts Try.infoByteD
  have hb := get_bt s
  have he0 : (((s.size : Int) % 2 != 0)) = false := by rw [bne_eq_false_iff_eq]; omega
  go_enter Try.func13, Try.ntmps13
  go_wp2
  go_loopw [4, 5, 6, 7] (fun v i _ _ wr => ∃ j : Nat, j ≤ s.size ∧ j % 2 < 1 ∧ i = .int .i64 j ∧ GoodTo s j ∧ wr.ownsRow w.heap.size 5 1 v (j / 2) ((decTo s (j / 2)).map (Value.int .u8)) ∧ Below w.heap.size w wr) (fun _ i _ _ _ => s.size - (intOf i).toNat)
  case atStart => exact ⟨0, by omega, by omega, rfl, goodTo_zero s, World.ownsRow_made w #[] 0 (Nat.le_refl _) (by decide) rfl, (Below.refl _ _).alloc (Nat.le_refl _) _⟩
  case round =>
    clear he0
    obtain ⟨j, hj, hj2, rfl, hgd, hown, hbel⟩ := hrel
    by_cases hlt : j < s.size
    · have hlt2 : j + 1 < s.size := by omega
      have c0 := bt_nonneg s j
      have c1 := bt_le s j
      have c2 := bt_nonneg s (j + 1)
      have c3 := bt_le s (j + 1)
      have d0 := dg_le (bt s j)
      have d1 := dg_le (bt s (j + 1))
      by_cases g1 : 0 ≤ dg (bt s j)
      · by_cases g2 : 0 ≤ dg (bt s (j + 1))
        · go_wp2_with (first | (go_at_call 26; (with_reducible refine (value_any (bt s j) _ c0 c1).mono ?_); rintro e w' ⟨rfl, rfl⟩) | (go_at_call 26; (with_reducible refine (value_any (bt s (j + 1)) _ c2 c3).mono ?_); rintro e w' ⟨rfl, rfl⟩) | (at_builtin; refine wpList_append_own _ rfl (.tmp 39) (.tmp 45) 22 rfl w.heap.size 5 i0 (.int .u8 0) 1 1 Try.underlying22 hi hz0 hz1 hz2 rfl (by decide) u4 (j / 2) _ rfl (hown.alloc _) ⟨wr.heap.size, 0, none⟩ 1 1 [_] rfl rfl (news_new _ [_] _) (by simp [Value.oneCell']) (by unfold maxLen; omega) (by omega) (by have := hbel.size; simp; omega) ?_; intro v' w1 hown1 hgrow1 _))
          have R := dec_rel (s := s) hj2 hown hbel hown1 hgrow1
          clear hown1 hgrow1 hown hbel
          obtain ⟨R1, R2⟩ := R
          go_wp2
          go_roundw
          case rel => exact ⟨j + 2, by omega, by omega, by go_num, goodTo_two hgd g1 g2, R1, R2⟩
          case measure => simp [intOf]; omega
        · have g3 : dg (bt s (j + 1)) < 0 := by omega
          go_wp2_with (first | (go_at_call 26; (with_reducible refine (value_any (bt s j) _ c0 c1).mono ?_); rintro e w' ⟨rfl, rfl⟩) | (go_at_call 26; (with_reducible refine (value_any (bt s (j + 1)) _ c2 c3).mono ?_); rintro e w' ⟨rfl, rfl⟩))
          go_ret2
          exact decoded_bad hbel (j + 1) hlt2 g3
      · have g3 : dg (bt s j) < 0 := by omega
        go_wp2_with (first | (go_at_call 26; (with_reducible refine (value_any (bt s j) _ c0 c1).mono ?_); rintro e w' ⟨rfl, rfl⟩) | (go_at_call 26; (with_reducible refine (value_any (bt s (j + 1)) _ c2 c3).mono ?_); rintro e w' ⟨rfl, rfl⟩))
        go_ret2
        exact decoded_bad hbel j hlt g3
    · obtain rfl : j = s.size := by omega
      have hconv := conv_own (P := Try.prog) wr 22 9 5 Try.underlying22 Try.underlying5 Try.underlying9 _ _ _ _ hown
      go_wp2
      go_ret2
      exact ⟨hbel, .inl ⟨hgd, rfl⟩⟩

theorem specDec_long (s : ByteArray) (w : World) (hs : 40000 < s.size) (hm : s.size ≤ 9223372036854775807) :
    Calls Try.prog 13 #[.string s] w fun e w' => e = .returned (.tuple #[.string { data := #[] }, .bool false]) ∧ w = w' := by
  go_enter Try.func13, Try.ntmps13
  go_wp2
  go_ret2
  exact ⟨rfl, rfl⟩

theorem specDec_odd (s : ByteArray) (w : World) (hs : s.size ≤ 40000) (he : 0 < s.size % 2) :
    Calls Try.prog 13 #[.string s] w fun e w' => e = .returned (.tuple #[.string { data := #[] }, .bool false]) ∧ w = w' := by
  have he0 : (((s.size : Int) % 2 != 0)) = true := by rw [bne_iff_ne]; omega
  go_enter Try.func13, Try.ntmps13
  go_wp2
  go_ret2
  exact ⟨rfl, rfl⟩
end Go.Proofs.Ytepgficheibbfaa
