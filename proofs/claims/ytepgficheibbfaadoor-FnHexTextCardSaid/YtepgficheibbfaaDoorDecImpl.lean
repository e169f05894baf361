/-
  The contract of the program's own decoding of hexadecimal text.
-/
import Derived.Test.YtepgficheibbfaaDoorDecCore
namespace Go.Proofs.YtepgficheibbfaaDoor
open Go.ChangeShapes Go.WideShapes Go.ChangeAt Go.RowKit Go.PlainAid

theorem join_bits : ∀ a b : Fin 16, bits .or .u8 ((a.val : Int) * 16) (b.val : Int) = 16 * (a.val : Int) + (b.val : Int) := by decide +kernel
theorem join_int (a b : Int) (a0 : 0 ≤ a) (a1 : a ≤ 15) (b0 : 0 ≤ b) (b1 : b ≤ 15) : bits .or .u8 (a * 16) b = 16 * a + b := by
  obtain ⟨n, rfl⟩ := Int.eq_ofNat_of_zero_le a0
  obtain ⟨m, rfl⟩ := Int.eq_ofNat_of_zero_le b0
  exact join_bits ⟨n, by omega⟩ ⟨m, by omega⟩

theorem implDec_small (s : ByteArray) (w : World) (hs : s.size ≤ 40000) (he : s.size % 2 < 1) :
    Calls Tryd.prog 12 #[.string s] w (Decoded s w) := by
  obtain ⟨i0, hi, hz0, hz1, hz2⟩ := info_parts Tryd.infoByteD
  have hb := get_bt s
  have he0 : (((s.size : Int) % 2 != 0)) = false := by rw [bne_eq_false_iff_eq]; omega
  have he1 : ¬ (20000 < (s.size : Int) / 2) := by omega
  go_enter Tryd.func12, Tryd.ntmps12
  go_wp2_with (at_make; refine wpList_make_own _ rfl _ _ 22 rfl w.heap.size 5 i0 (.int .u8 0) 1 Tryd.underlying22 hi hz0 hz1 .i64 .i64 _ (s.size / 2) rfl rfl (by omega) (by rw [hz2]; omega) (by unfold maxLen; omega) (Nat.le_refl _) ?_; intro w0 hown0 hgrow0)
  have hbel0 : Below w.heap.size w w0 := (Below.refl _ _).grown hgrow0 (Nat.le_refl _) (fun k e => by cases e)
  clear hgrow0
  go_loopw [4, 5, 6, 7, 8, 9] (fun v i _ _ _ _ wr => ∃ j : Nat, j ≤ s.size ∧ j % 2 < 1 ∧ i = .int .i64 j ∧ GoodTo s j ∧ wr.ownsRow w.heap.size 5 1 v (j / 2) ((decTo s (j / 2)).map (Value.int .u8)) ∧ Below w.heap.size w wr) (fun _ i _ _ _ _ _ => s.size - (intOf i).toNat)
  case atStart => exact ⟨0, by omega, by omega, rfl, goodTo_zero s, hown0, hbel0⟩
  case round =>
    clear he0 he1 hown0 hbel0
    obtain ⟨j, hj, hj2, rfl, hgd, hown, hbel⟩ := hrel
    by_cases hlt : j < s.size
    · have hlt2 : j + 1 < s.size := by omega
      have c0 := bt_nonneg s j
      have c1 := bt_le s j
      have c2 := bt_nonneg s (j + 1)
      have c3 := bt_le s (j + 1)
      have d0 := dg_le (bt s j)
      have d1 := dg_le (bt s (j + 1))
      by_cases g1 : 0 ≤ dg (bt s j)
      · by_cases g2 : 0 ≤ dg (bt s (j + 1))
        · go_wp2_with (first | (go_at_call 27; (with_reducible refine (hexValue_good (bt s j) _ c0 c1 g1).mono ?_); rintro e w' ⟨rfl, rfl⟩) | (go_at_call 27; (with_reducible refine (hexValue_good (bt s (j + 1)) _ c2 c3 g2).mono ?_); rintro e w' ⟨rfl, rfl⟩) | (at_builtin; refine wpList_append_own _ rfl (.tmp 51) (.tmp 56) 22 rfl w.heap.size 5 i0 (.int .u8 0) 1 1 Tryd.underlying22 hi hz0 hz1 hz2 rfl (by decide) u4 (j / 2) _ rfl (hown.alloc _) ⟨wr.heap.size, 0, none⟩ 1 1 [_] rfl rfl (news_new _ [_] _) (by simp [Value.oneCell']) (by unfold maxLen; omega) (by omega) (by have := hbel.size; simp; omega) ?_; intro v' w1 hown1 hgrow1 _))
          rw [join_int _ _ g1 d0 g2 d1] at hown1
          have R := dec_rel (s := s) hj2 hown hbel hown1 hgrow1
          clear hown1 hgrow1 hown hbel
          obtain ⟨R1, R2⟩ := R
          go_wp2
          go_roundw
          case rel => exact ⟨j + 2, by omega, by omega, by go_num, goodTo_two hgd g1 g2, R1, R2⟩
          case measure => simp [intOf]; omega
        · have g3 : dg (bt s (j + 1)) < 0 := by omega
          go_wp2_with (first | (go_at_call 27; (with_reducible refine (hexValue_good (bt s j) _ c0 c1 g1).mono ?_); rintro e w' ⟨rfl, rfl⟩) | (go_at_call 27; (with_reducible refine (hexValue_bad (bt s (j + 1)) _ c2 c3 g3).mono ?_); rintro e w' ⟨rfl, rfl⟩))
          go_ret2
          exact decoded_bad hbel (j + 1) hlt2 g3
      · have g3 : dg (bt s j) < 0 := by omega
        by_cases g2 : 0 ≤ dg (bt s (j + 1))
        · go_wp2_with (first | (go_at_call 27; (with_reducible refine (hexValue_bad (bt s j) _ c0 c1 g3).mono ?_); rintro e w' ⟨rfl, rfl⟩) | (go_at_call 27; (with_reducible refine (hexValue_good (bt s (j + 1)) _ c2 c3 g2).mono ?_); rintro e w' ⟨rfl, rfl⟩))
          go_ret2
          exact decoded_bad hbel j hlt g3
        · have g4 : dg (bt s (j + 1)) < 0 := by omega
          go_wp2_with (first | (go_at_call 27; (with_reducible refine (hexValue_bad (bt s j) _ c0 c1 g3).mono ?_); rintro e w' ⟨rfl, rfl⟩) | (go_at_call 27; (with_reducible refine (hexValue_bad (bt s (j + 1)) _ c2 c3 g4).mono ?_); rintro e w' ⟨rfl, rfl⟩))
          go_ret2
          exact decoded_bad hbel j hlt g3
    · obtain rfl : j = s.size := by omega
      have hconv := conv_own (P := Tryd.prog) wr 22 9 5 Tryd.underlying22 Tryd.underlying5 Tryd.underlying9 _ _ _ _ hown
      go_wp2
      go_ret2
      exact ⟨hbel, .inl ⟨hgd, rfl⟩⟩

theorem implDec_odd (s : ByteArray) (w : World) (hm : s.size ≤ 9223372036854775807) (he : 0 < s.size % 2) :
    Calls Tryd.prog 12 #[.string s] w fun e w' => e = .returned (.tuple #[.string { data := #[] }, .bool false]) ∧ w = w' := by
  have he0 : (((s.size : Int) % 2 != 0)) = true := by rw [bne_iff_ne]; omega
  go_enter Tryd.func12, Tryd.ntmps12
  go_wp2
  go_ret2
  exact ⟨rfl, rfl⟩

theorem implDec_long (s : ByteArray) (w : World) (hm : s.size ≤ 9223372036854775807) (he : s.size % 2 < 1) (hs : 40000 < s.size) :
    Calls Tryd.prog 12 #[.string s] w fun e w' => e = .returned (.tuple #[.string { data := #[] }, .bool false]) ∧ w = w' := by
  have he0 : (((s.size : Int) % 2 != 0)) = false := by rw [bne_eq_false_iff_eq]; omega
  have he1 : (20000 < (s.size : Int) / 2) := by omega
  go_enter Tryd.func12, Tryd.ntmps12
  go_wp2
  go_ret2
  exact ⟨rfl, rfl⟩
end Go.Proofs.YtepgficheibbfaaDoor
