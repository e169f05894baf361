/-
  The contract of the program's own splitting of a line: as the model's.
-/
import Derived.Test.YtepgficheibbfaaDoorSplit
import Derived.Deep.LoopGhost
namespace Go.Proofs.YtepgficheibbfaaDoor
open Go.ChangeShapes Go.WideShapes Go.ChangeAt Go.RowKit Go.PlainAid

theorem field_none (v : Value) (x : ByteArray) (w : World) (hx : x.size = 0) :
    Calls Tryd.prog 31 #[v, .string x] w fun e w' => e = .returned v ∧ w = w' := by
  obtain rfl : x = { data := #[] } := by
    apply ByteArray.ext
    exact Array.eq_empty_of_size_eq_zero hx
  clear hx
  go_enter Tryd.func31, Tryd.ntmps31
  go_wp2
  go_ret
  exact ⟨rfl, rfl⟩

def Fielded (B : Nat) (L : List ByteArray) (x : ByteArray) (w : World) (e : Ending) (w' : World) : Prop :=
  ∃ v', e = .returned v' ∧ w'.ownsRow B 9 1 v' (L ++ [x]).length ((L ++ [x]).map Value.string) ∧ Below B w w'

theorem field_some (B : Nat) (L : List ByteArray) (v : Value) (x : ByteArray) (w : World) (hB : B ≤ w.heap.size) (hL : L.length ≤ 1000000) (hx : 0 < x.size) (hown : w.ownsRow B 9 1 v L.length (L.map Value.string)) :
    Calls Tryd.prog 31 #[v, .string x] w (Fielded B L x w) := by
  obtain ⟨i0, hi, hz0, hz1, hz2⟩ := info_parts Tryd.infoStr
  have hne : x.toList.isEmpty = false := by
    rw [ByteArray.toList_eq, List.isEmpty_eq_false_iff]
    intro h
    have : x.data.toList.length = x.size := by simp
    rw [h] at this
    simp at this
    omega
  go_enter Tryd.func31, Tryd.ntmps31
  go_wp2_with (at_builtin; refine wpList_append_own _ rfl (.tmp 8) (.tmp 10) 31 rfl B 9 i0 (.string { data := #[] }) 1 16 Tryd.underlying31 hi hz0 hz1 hz2 rfl (by decide) v L.length _ rfl (hown.alloc _) ⟨w.heap.size, 0, none⟩ 1 1 [_] rfl rfl (news_new _ [_] _) (by simp [Value.oneCell']) (by unfold maxLen; omega) (by omega) (by simp; omega) ?_; intro v' w1 hown1 hgrow1 _)
  have R := fld_rel (B := B) (w := w) (wr := w) hB hown (Below.refl _ _) hown1 hgrow1
  go_ret
  exact ⟨v', rfl, R.1, R.2⟩

theorem extract_size (s : ByteArray) (b k : Nat) (h : k ≤ s.size) : (s.extract b k).size = k - b := by
  rw [ByteArray.size_extract, Nat.min_eq_left h]

theorem implSplit_long (s : ByteArray) (w : World) (hs : 600 < s.size) (hm : s.size ≤ 9223372036854775807) :
    Calls Tryd.prog 16 #[.string s] w (Split w.heap.size s w) := by
  have hbad := split_bad (w := w) (okS_long hs) (World.ownsRow_nil w w.heap.size 9 1) (Below.refl _ _)
  have hi : (600 : Int) < s.size := by omega
  go_enter Tryd.func16, Tryd.ntmps16
  go_wp2
  go_step3
  go_wp2
  try rw [Exit.noGoto_ret]
  go_ret2
  exact hbad

set_option maxHeartbeats 1000000 in
theorem implSplit_short (s : ByteArray) (w : World) (hs : s.size ≤ 600) :
    Calls Tryd.prog 16 #[.string s] w (Split w.heap.size s w) := by
  have hb := get_bt s
  go_enter Tryd.func16, Tryd.ntmps16
  go_wp2
  go_step3
  go_wp2
  go_step3
  go_wp2
  go_loopw [4, 5, 6, 7] (fun v bg i _ wr => ∃ (k b : Nat) (L : List ByteArray), k ≤ s.size ∧ i = .int .i64 k ∧ bg = .int .i64 b ∧ b ≤ k ∧ L.length ≤ k ∧ St s k b L ∧ wr.ownsRow w.heap.size 9 1 v L.length (L.map Value.string) ∧ Below w.heap.size w wr) (fun _ _ i _ _ => s.size - (intOf i).toNat)
  case atStart => exact ⟨0, 0, [], by omega, rfl, rfl, by omega, by simp, St.start s, World.ownsRow_nil _ _ _ _, Below.refl _ _⟩
  case round =>
    obtain ⟨k, b, L, hk, rfl, rfl, hbk, hL, hst, hown, hbel⟩ := hrel
    have hsz := hbel.size
    by_cases hlt : k < s.size
    · have c0 := bt_nonneg s k
      have c1 := bt_le s k
      by_cases g1 : bt s k < 32
      · have hbad := split_bad (w := w) (okS_bad hlt (.inl g1)) (World.ownsRow_nil wr w.heap.size 9 1) hbel
        go_wp2
        try rw [Exit.noGoto_ret]
        go_ret2
        exact hbad
      · by_cases g2 : 126 < bt s k
        · have hbad := split_bad (w := w) (okS_bad hlt (.inr g2)) (World.ownsRow_nil wr w.heap.size 9 1) hbel
          go_wp2
          try rw [Exit.noGoto_ret]
          go_ret2
          exact hbad
        · by_cases g3 : bt s k = 32
          · have hx := extract_size s b k (by omega)
            by_cases g4 : b < k
            · have h1 := hst.sep_yes (.inr g3) g4
              have hc := field_some w.heap.size L u4 (s.extract b k) wr hsz (by omega) (by omega) hown
              clear hx
              go_wp2_with fail
              refine hc.mono ?_
              rintro e w1 ⟨v', rfl, R1, bel1⟩
              have R2 := hbel.trans bel1
              clear hc hown hbel bel1
              go_wp2
              go_roundw
              case rel => exact ⟨k + 1, k + 1, _, by omega, by go_num, by go_num, by omega, by simp; omega, h1, R1, R2⟩
              case measure => simp [intOf]; omega
            · have h1 := hst.sep_no (.inr g3) g4
              have hc := field_none u4 (s.extract b k) wr (by omega)
              clear hx
              go_wp2_with fail
              refine hc.mono ?_
              rintro e w1 ⟨rfl, rfl⟩
              clear hc
              go_wp2
              go_roundw
              case rel => exact ⟨k + 1, k + 1, L, by omega, by go_num, by go_num, by omega, by omega, h1, hown, hbel⟩
              case measure => simp [intOf]; omega
          · have h1 := hst.skip hlt (by omega) (by omega) g3
            go_wp2
            go_roundw
            case rel => exact ⟨k + 1, b, L, by omega, by go_num, rfl, by omega, by omega, h1, hown, hbel⟩
            case measure => simp [intOf]; omega
    · obtain rfl : k = s.size := by omega
      have hx := extract_size s b s.size (by omega)
      by_cases g4 : b < s.size
      · have h1 := hst.sep_yes (.inl (by omega)) g4
        have hc := field_some w.heap.size L u4 (s.extract b s.size) wr hsz (by omega) (by omega) hown
        clear hx
        go_wp2_with fail
        refine hc.mono ?_
        rintro e w1 ⟨v', rfl, R1, bel1⟩
        have R2 := hbel.trans bel1
        clear hc hown hbel bel1
        obtain ⟨a, c, rfl⟩ := own_form R1
        generalize L ++ [s.extract b s.size] = L' at h1 R1 ⊢
        by_cases hl : L'.length ≤ 24
        · have hgood := split_good (w := w) h1 hs hl R1 R2
          go_wp2
          try rw [Exit.noGoto_ret]
          go_ret2
          exact hgood
        · have hbad := split_bad (w := w) (h1.many (by omega)) (World.ownsRow_nil w1 w.heap.size 9 1) R2
          go_wp2
          try rw [Exit.noGoto_ret]
          go_ret2
          exact hbad
      · have h1 := hst.sep_no (.inl (by omega)) g4
        have hc := field_none u4 (s.extract b s.size) wr (by omega)
        clear hx
        go_wp2_with fail
        refine hc.mono ?_
        rintro e w1 ⟨rfl, rfl⟩
        clear hc
        obtain ⟨a, c, rfl⟩ := own_form hown
        by_cases hl : L.length ≤ 24
        · have hgood := split_good (w := w) h1 hs hl hown hbel
          go_wp2
          try rw [Exit.noGoto_ret]
          go_ret2
          exact hgood
        · have hbad := split_bad (w := w) (h1.many (by omega)) (World.ownsRow_nil wr w.heap.size 9 1) hbel
          go_wp2
          try rw [Exit.noGoto_ret]
          go_ret2
          exact hbad
end Go.Proofs.YtepgficheibbfaaDoor
