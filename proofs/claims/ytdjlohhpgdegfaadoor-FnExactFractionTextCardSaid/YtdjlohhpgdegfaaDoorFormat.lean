/-
  Decimal text: the model's formatting and the program's answer the same text, the decimal digits behind a minus sign for a negative number. The program's asks for one table of the library as its initialiser lays it.
-/
import Derived.Test.YtdjlohhpgdegfaaDoorRows
import Derived.Test.YtdjlohhpgdegfaaDoorBase
import Derived.Test.YtdjlohhpgdegfaaDoorFigure
import Derived.Test.YtdjlohhpgdegfaaDoorShelf
import Derived.WalkKit
import Derived.ProofKit
import Derived.OpenShut
import Derived.Lib.ItoaNum
import Derived.Lib.ItoaLen
import Derived.Outline
namespace Go.Proofs.YtdjlohhpgdegfaaDoor
open Go.ChangeShapes Go.WideShapes Go.ChangeAt Go.RowKit Go.PlainAid

/-- The decimal text of a number. -/
def decS (n : Int) : ByteArray := ⟨(Lib.itoa n).toArray⟩
theorem decS_data (n : Int) : (decS n).data.toList = Lib.itoa n := rfl

theorem one_own1 (w : World) (T : TypeId) (u : Value) : (w.alloc (.cells #[u] T)).ownsRow w.heap.size T 1 (.slice (some ⟨w.heap.size, 0, none⟩) 1 1) 1 [u] :=
  ⟨rfl, .inr ⟨w.heap.size, 1, #[u], rfl, Nat.le_refl _, heap_alloc_new w _, Nat.le_refl _, by decide, rfl, rfl⟩⟩

/-- What is still to be written: r's digits ahead of acc make N's. -/
def DecSt (N r : Nat) (acc : ByteArray) : Prop := (if r = 0 then acc.data.toList else Lib.decDigits r ++ acc.data.toList) = Lib.decDigits N
theorem decSt_start {N : Nat} (h : 0 < N) : DecSt N N { data := #[] } := by
  unfold DecSt
  rw [if_neg (by omega)]
  simp
theorem data_append (a b : ByteArray) : (a ++ b).data.toList = a.data.toList ++ b.data.toList := by
  rw [ByteArray.data_append, Array.toList_append]
theorem decSt_step {N r : Nat} {acc : ByteArray} (h : DecSt N r acc) (hr : 0 < r) : DecSt N (r / 10) (strOfNums [48 + (r : Int) % 10] ++ acc) := by
  unfold DecSt at h ⊢
  rw [if_neg (by omega)] at h
  have e0 : (48 + (r : Int) % 10).toNat = 48 + r % 10 := by omega
  rw [data_append, strOfNums_data, List.map_cons, List.map_nil, e0, List.singleton_append]
  by_cases hs : r < 10
  · rw [if_pos (by omega)]
    rw [Lib.decDigits, dif_pos hs] at h
    have e1 : r % 10 = r := by omega
    rw [e1]
    simpa using h
  · rw [if_neg (by omega)]
    rw [Lib.decDigits, dif_neg hs] at h
    rw [← h]
    simp
theorem decSt_fin {N : Nat} {acc : ByteArray} (h : DecSt N 0 acc) : acc.data.toList = Lib.decDigits N := by
  unfold DecSt at h
  rwa [if_pos rfl] at h

def Text (n : Int) (w : World) (e : Ending) (w' : World) : Prop := e = .returned (.string (decS n)) ∧ Below w.heap.size w w'
theorem bytes_ext {a b : ByteArray} (h : a.data.toList = b.data.toList) : a = b := by
  apply ByteArray.ext
  exact Array.toList_inj.1 h
theorem text_pos {N : Nat} {acc : ByteArray} {w w' : World} (h : DecSt N 0 acc) (hb : Below w.heap.size w w') : Text (N : Int) w (.returned (.string acc)) w' :=
  ⟨by
    have e : acc = decS (N : Int) := bytes_ext (by
      rw [decSt_fin h, decS_data]
      unfold Lib.itoa
      rw [if_neg (by omega), Int.toNat_natCast])
    rw [e], hb⟩
theorem text_neg {N : Nat} {acc : ByteArray} {w w' : World} (hN : 0 < N) (h : DecSt N 0 acc) (hb : Below w.heap.size w w') : Text (-(N : Int)) w (.returned (.string ({ data := #[45] } ++ acc))) w' :=
  ⟨by
    have e : { data := #[45] } ++ acc = decS (-(N : Int)) := bytes_ext (by
      rw [data_append, decSt_fin h, decS_data]
      unfold Lib.itoa
      rw [if_pos (by omega), Int.natAbs_neg, Int.natAbs_natCast]
      rfl)
    rw [e], hb⟩
theorem text_zero (w : World) : Text 0 w (.returned (.string { data := #[48] })) w :=
  ⟨by
    have e : ({ data := #[48] } : ByteArray) = decS 0 := bytes_ext (by
      rw [decS_data]
      unfold Lib.itoa
      rw [if_neg (by omega)]
      show _ = Lib.decDigits 0
      rw [Lib.decDigits, dif_pos (by omega)]
      rfl)
    rw [e], Below.refl _ _⟩

theorem figure_ten (x : Int) (w : World) (h0 : 0 ≤ x) (h1 : x < 10) :
    Calls Tryd.prog 13 #[.int .i64 x] w fun e w' => e = .returned (.int .u8 (48 + x)) ∧ w = w' := by
  refine (figure_any x w h0 (by omega)).mono fun e w' ⟨he, hw⟩ => ⟨?_, hw.symm⟩
  rw [he]
  unfold hexDig
  rw [if_pos h1]

theorem figure_negz (x : Int) (w : World) (h0 : 0 ≤ x) (h1 : x ≤ 0) :
    Calls Tryd.prog 13 #[.int .i64 (-x)] w fun e w' => e = .returned (.int .u8 (48 + x)) ∧ w = w' := by
  obtain rfl : x = 0 := by omega
  exact figure_ten 0 w (by omega) (by omega)

theorem specFmt_zero (w : World) : Calls Tryd.prog 8 #[.int .i64 0] w (Text 0 w) := by
  have hend := text_zero w
  go_enter Tryd.func8, Tryd.ntmps8
  go_wp2
  go_ret
  exact hend

theorem specFmt_pos (N : Nat) (w : World) (hN : 0 < N) (hm : N ≤ 9223372036854775807) :
    Calls Tryd.prog 8 #[.int .i64 (N : Int)] w (Text (N : Int) w) := by
  have hn0 : ((N : Int) == 0) = false := by rw [beq_eq_false_iff_ne]; omega
  have hst0 := decSt_start hN
  have hlt0 : ¬ (N : Int) < 0 := by omega
  go_enter Tryd.func8, Tryd.ntmps8
  go_wp2
  go_loopw [0, 4, 5] (fun n s _ wr => ∃ (r : Nat) (acc : ByteArray), n = .int .i64 (r : Int) ∧ s = .string acc ∧ r ≤ 9223372036854775807 ∧ acc.size ≤ 9223372036854775807 - r ∧ DecSt N r acc ∧ Below w.heap.size w wr) (fun n _ _ _ => (intOf n).toNat)
  case atStart => exact ⟨N, _, rfl, rfl, hm, by show 0 ≤ _; omega, hst0, Below.refl _ _⟩
  case round =>
    clear hn0 hst0 hlt0
    obtain ⟨r, acc, rfl, rfl, hr, hz, hst, hbel⟩ := hrel
    by_cases h0 : 0 < r
    · have hst1 := decSt_step hst h0
      have hne : ((r : Int) == 0) = false := by rw [beq_eq_false_iff_ne]; omega
      have hz1 : (strOfNums [48 + (r : Int) % 10]).size ≤ 1 := by rw [strOfNums_size]; simp
      have hz2 : (strOfNums [48 + (r : Int) % 10] ++ acc).size = (strOfNums [48 + (r : Int) % 10]).size + acc.size := ByteArray.size_append
      have hz3 : (strOfNums [48 + (r : Int) % 10] ++ acc).size ≤ 9223372036854775807 - r / 10 := by omega
      clear hz2
      have hconv := conv_own (P := Tryd.prog) (wr.alloc (.cells #[.int .u8 (48 + (r : Int) % 10)] 5)) 35 9 5 Tryd.underlying35 Tryd.underlying5 Tryd.underlying9 wr.heap.size 1 (.slice (some ⟨wr.heap.size, 0, none⟩) 1 1) [48 + (r : Int) % 10] (one_own1 wr _ _)
      go_wp2_with (go_at_call 13; refine (figure_ten ((r : Int) % 10) _ (by omega) (by omega)).mono ?_; rintro e w' ⟨rfl, rfl⟩)
      go_roundw
      case rel => exact ⟨r / 10, _, by go_num, rfl, by omega, hz3, hst1, hbel.alloc hbel.size _⟩
      case measure => simp [intOf]; omega
    · obtain rfl : r = 0 := by omega
      have hend := text_pos (w := w) hst hbel
      go_wp2
      go_ret
      exact hend

theorem specFmt_neg (N : Nat) (w : World) (hN : 0 < N) (hm : N ≤ 9223372036854775808) :
    Calls Tryd.prog 8 #[.int .i64 (-(N : Int))] w (Text (-(N : Int)) w) := by
  have hn0 : ((-(N : Int)) == 0) = false := by rw [beq_eq_false_iff_ne]; omega
  have hst0 := decSt_start hN
  have hlt0 : (-(N : Int)) < 0 := by omega
  go_enter Tryd.func8, Tryd.ntmps8
  go_wp2
  go_loopw [0, 4, 5] (fun n s _ wr => ∃ (r : Nat) (acc : ByteArray), n = .int .i64 (-(r : Int)) ∧ s = .string acc ∧ r ≤ 9223372036854775808 ∧ acc.size + (r + 1) / 2 ≤ 9223372036854775800 ∧ DecSt N r acc ∧ Below w.heap.size w wr) (fun n _ _ _ => (-(intOf n)).toNat)
  case atStart => exact ⟨N, _, rfl, rfl, hm, by show 0 + _ ≤ _; omega, hst0, Below.refl _ _⟩
  case round =>
    clear hn0 hst0
    obtain ⟨r, acc, rfl, rfl, hr, hz, hst, hbel⟩ := hrel
    by_cases h0 : 0 < r
    · have hst1 := decSt_step hst h0
      have hne : ((-(r : Int)) == 0) = false := by rw [beq_eq_false_iff_ne]; omega
      have hz1 : (strOfNums [48 + (r : Int) % 10]).size ≤ 1 := by rw [strOfNums_size]; simp
      have hz2 : (strOfNums [48 + (r : Int) % 10] ++ acc).size = (strOfNums [48 + (r : Int) % 10]).size + acc.size := ByteArray.size_append
      have hz3 : (strOfNums [48 + (r : Int) % 10] ++ acc).size + (r / 10 + 1) / 2 ≤ 9223372036854775800 := by omega
      clear hz2
      have hconv := conv_own (P := Tryd.prog) (wr.alloc (.cells #[.int .u8 (48 + (r : Int) % 10)] 5)) 35 9 5 Tryd.underlying35 Tryd.underlying5 Tryd.underlying9 wr.heap.size 1 (.slice (some ⟨wr.heap.size, 0, none⟩) 1 1) [48 + (r : Int) % 10] (one_own1 wr _ _)
      by_cases hd : (r : Int) % 10 ≤ 0
      · go_wp2_with (go_at_call 13; refine (figure_negz ((r : Int) % 10) _ (by omega) hd).mono ?_; rintro e w' ⟨rfl, rfl⟩)
        go_roundw
        case rel => exact ⟨r / 10, _, by go_num, rfl, by omega, hz3, hst1, hbel.alloc hbel.size _⟩
        case measure => simp [intOf]; omega
      · go_wp2_with (go_at_call 13; refine (figure_ten ((r : Int) % 10) _ (by omega) (by omega)).mono ?_; rintro e w' ⟨rfl, rfl⟩)
        go_roundw
        case rel => exact ⟨r / 10, _, by go_num, rfl, by omega, hz3, hst1, hbel.alloc hbel.size _⟩
        case measure => simp [intOf]; omega
    · have hend := text_neg (w := w) hN (by have e : r = 0 := by omega
                                            subst e
                                            exact hst) hbel
      have hne : ((-(r : Int)) != 0) = false := by rw [bne_eq_false_iff_eq]; omega
      go_wp2
      go_ret
      exact hend
end Go.Proofs.YtdjlohhpgdegfaaDoor
