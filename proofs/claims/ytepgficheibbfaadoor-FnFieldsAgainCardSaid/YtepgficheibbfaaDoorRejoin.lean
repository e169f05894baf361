/-
  The fields of a line, joined by single spaces, have the same fields: plain facts, and the law. Where the library's table is as its initialiser lays it.
-/
import Derived.Test.YtepgficheibbfaaDoorSplitForm
import Derived.Test.YtepgficheibbfaaDoorSame
import Derived.Test.YtepgficheibbfaaDoorDrawSplit
import Derived.Test.YtepgficheibbfaaDoorLaid
namespace Go.Proofs.YtepgficheibbfaaDoor
open Go.ChangeShapes Go.WideShapes Go.ChangeAt Go.RowKit Go.PlainAid

theorem bt_of {s : ByteArray} {i : Nat} {c : UInt8} (h : s.data.toList[i]? = some c) : bt s i = c.toNat := by
  have hl : i < s.data.toList.length := (List.getElem?_eq_some_iff.1 h).1
  have hs : i < s.size := by simpa using hl
  rw [← get_bt s i hs]
  have e : s.data.toList[i]? = some s[i] := by
    rw [List.getElem?_eq_getElem hl]
    simp
    rfl
  rw [e] at h
  rw [Option.some.inj h]
theorem at_of {s : ByteArray} {i : Nat} (h : i < s.size) : ∃ c, s.data.toList[i]? = some c := ⟨_, List.getElem?_eq_getElem (by simpa using h)⟩
theorem data_len (s : ByteArray) : s.data.toList.length = s.size := by simp

/-- A field: not empty, not long, without spaces, all bytes good. -/
def FieldOk (x : ByteArray) : Prop := 0 < x.size ∧ x.size ≤ 600 ∧ ∀ i, i < x.size → 33 ≤ bt x i ∧ bt x i ≤ 126
theorem bt_extract (s : ByteArray) (b k i : Nat) (hk : k ≤ s.size) (hi : b + i < k) : bt (s.extract b k) i = bt s (b + i) := by
  obtain ⟨c, hc⟩ := at_of (s := s) (i := b + i) (by omega)
  have h1 : (s.extract b k).data.toList[i]? = some c := by
    rw [Lib.extract_data, List.getElem?_take_of_lt (by omega), List.getElem?_drop]
    exact hc
  rw [bt_of h1, bt_of hc]

theorem fld_ok (s : ByteArray) (hs : s.size ≤ 600) : ∀ k, k ≤ s.size + 1 → goodB s k = true → begTo s k ≤ k ∧ (∀ i, begTo s k ≤ i → i < k → i < s.size → bt s i ≠ 32) ∧ ∀ x ∈ fldTo s k, FieldOk x
  | 0, _, _ => ⟨Nat.le_refl _, fun i _ h => by omega, fun x h => by cases h⟩
  | k + 1, hk, hg => by
    have hg0 : goodB s k = true := by
      unfold goodB at hg
      rw [Bool.and_eq_true] at hg
      exact hg.1
    obtain ⟨i1, i2, i3⟩ := fld_ok s hs k (by omega) hg0
    by_cases hsep : sepB s k = true
    · have e1 : begTo s (k + 1) = k + 1 := by
        show (if sepB s k = true then k + 1 else begTo s k) = _
        rw [if_pos hsep]
      refine ⟨by omega, fun i h1 h2 => by omega, ?_⟩
      show ∀ x ∈ (if sepB s k = true ∧ begTo s k < k then fldTo s k ++ [s.extract (begTo s k) k] else fldTo s k), FieldOk x
      by_cases hb : begTo s k < k
      · rw [if_pos ⟨hsep, hb⟩]
        intro x hx
        rw [List.mem_append, List.mem_singleton] at hx
        rcases hx with hx | rfl
        · exact i3 x hx
        · have hz := extract_size s (begTo s k) k (by omega)
          refine ⟨by omega, by omega, fun i hi => ?_⟩
          rw [bt_extract s _ k i (by omega) (by omega)]
          have h1 := i2 (begTo s k + i) (by omega) (by omega) (by omega)
          have h2 := goodB_at hg (begTo s k + i) (by omega) (by omega)
          omega
      · rw [if_neg (fun h => hb h.2)]
        exact i3
    · have e1 : begTo s (k + 1) = begTo s k := by
        show (if sepB s k = true then k + 1 else begTo s k) = _
        rw [if_neg hsep]
      have e2 : fldTo s (k + 1) = fldTo s k := by
        show (if sepB s k = true ∧ begTo s k < k then _ else fldTo s k) = _
        rw [if_neg (fun h => hsep h.1)]
      rw [e1, e2]
      refine ⟨by omega, fun i h1 h2 h3 => ?_, i3⟩
      by_cases e : i = k
      · subst e
        intro h32
        exact hsep (sep_of (.inr h32))
      · exact i2 i h1 (by omega) h3
theorem xsOf_ok (s : ByteArray) : ∀ x ∈ xsOf s, FieldOk x := by
  unfold xsOf
  by_cases h : okS s = true
  · rw [if_pos h]
    unfold okS at h
    rw [Bool.and_eq_true, Bool.and_eq_true, decide_eq_true_eq] at h
    exact (fld_ok s h.1.1 (s.size + 1) (Nat.le_refl _) h.1.2).2.2
  · rw [if_neg h]
    intro x hx
    cases hx

def joinL (xs : List ByteArray) : List UInt8 := xs.flatMap fun x => x.data.toList ++ [32]
theorem rejoin : ∀ (xs : List ByteArray) (J : ByteArray) (A : List UInt8) (L : List ByteArray), J.data.toList = A ++ joinL xs → (∀ x ∈ xs, FieldOk x) → St J A.length A.length L → St J J.size J.size (L ++ xs)
  | [], J, A, L, hJ, _, hst => by
    have e : J.size = A.length := by
      rw [← data_len J, hJ]
      simp [joinL]
    rw [e, List.append_nil]
    exact hst
  | x :: r, J, A, L, hJ, hx, hst => by
    obtain ⟨x0, _, xb⟩ := hx x (by simp)
    have hJ1 : J.data.toList = (A ++ (x.data.toList ++ [32])) ++ joinL r := by
      rw [hJ]
      simp [joinL]
    have hl := data_len x
    have hsz : A.length + x.size + 1 ≤ J.size := by
      rw [← data_len J, hJ1]
      simp
      omega
    have atx : ∀ m, m < x.size → bt J (A.length + m) = bt x m := fun m hm => by
      obtain ⟨c, hc⟩ := at_of hm
      have h1 : J.data.toList[A.length + m]? = some c := by
        rw [hJ1, List.append_assoc, List.getElem?_append_right (by omega), List.append_assoc, List.getElem?_append_left (by omega)]
        have e : A.length + m - A.length = m := by omega
        rw [e]
        exact hc
      rw [bt_of h1, bt_of hc]
    have atsp : bt J (A.length + x.size) = 32 := by
      have h1 : J.data.toList[A.length + x.size]? = some 32 := by
        rw [hJ1, List.append_assoc, List.getElem?_append_right (by omega), List.append_assoc, List.getElem?_append_right (by omega)]
        have e : A.length + x.size - A.length - x.data.toList.length = 0 := by omega
        rw [e]
        rfl
      rw [bt_of h1]
      rfl
    have scan : ∀ m, m ≤ x.size → St J (A.length + m) A.length L := fun m => by
      induction m with
      | zero => exact fun _ => hst
      | succ m ih =>
        intro hm
        have hb := xb m (by omega)
        rw [← atx m (by omega)] at hb
        exact (ih (by omega)).skip (by omega) (by omega) (by omega) (by omega)
    have h2 := (scan x.size (Nat.le_refl _)).sep_yes (.inr atsp) (by omega)
    have ee : J.extract A.length (A.length + x.size) = x := bytes_ext (by
      rw [Lib.extract_data, hJ1, List.append_assoc, List.drop_left, List.append_assoc]
      have e : A.length + x.size - A.length = x.data.toList.length := by omega
      rw [e, List.take_left])
    rw [ee] at h2
    have h3 := rejoin r J (A ++ (x.data.toList ++ [32])) (L ++ [x]) hJ1 (fun y hy => hx y (by simp [hy])) (by
      have e : (A ++ (x.data.toList ++ [32])).length = A.length + x.size + 1 := by
        simp
        omega
      rw [e]
      exact h2)
    rw [List.append_assoc] at h3
    exact h3
theorem again {xs : List ByteArray} {J : ByteArray} (hJ : J.data.toList = joinL xs) (hx : ∀ x ∈ xs, FieldOk x) (hn : xs.length ≤ 24) (hs : J.size ≤ 600) : okS J = true ∧ xsOf J = xs := by
  have h1 := rejoin xs J [] [] hJ hx (St.start J)
  have h2 := h1.sep_no (.inl (Nat.le_refl _)) (by omega)
  exact h2.few hs hn

/-- The text that has been joined so far. -/
def JSt (xs : List ByteArray) (k : Nat) (acc : ByteArray) : Prop := acc.data.toList = joinL (xs.take k) ∧ acc.size ≤ 601 * k
theorem jSt_start (xs : List ByteArray) : JSt xs 0 { data := #[] } := ⟨rfl, Nat.le_refl _⟩
theorem jSt_step {xs : List ByteArray} {k : Nat} {acc : ByteArray} (h : JSt xs k acc) (hk : k < xs.length) (hz : (xs.getD k ByteArray.empty).size ≤ 600) : JSt xs (k + 1) (acc ++ xs.getD k ByteArray.empty ++ { data := #[32] }) := by
  obtain ⟨h1, h2⟩ := h
  constructor
  · rw [List.take_succ_eq_append_getElem hk]
    have e : xs.getD k ByteArray.empty = xs[k] := by
      rw [List.getD_eq_getElem?_getD, List.getElem?_eq_getElem hk]; rfl
    rw [e, data_append, data_append, h1]
    generalize xs[k] = y
    generalize List.take k xs = ys
    simp [joinL]
  · rw [ByteArray.size_append, ByteArray.size_append]
    have e : ({ data := #[32] } : ByteArray).size = 1 := rfl
    omega
theorem getD_ok {xs : List ByteArray} (h : ∀ x ∈ xs, FieldOk x) {k : Nat} (hk : k < xs.length) : (xs.getD k ByteArray.empty).size ≤ 600 := by
  have e : xs.getD k ByteArray.empty = xs[k] := by
    rw [List.getD_eq_getElem?_getD, List.getElem?_eq_getElem hk]; rfl
  rw [e]
  exact (h _ (List.getElem_mem hk)).2.1

theorem decS_m3 : decS (-3) = { data := #[45, 51] } := by
  unfold decS Lib.itoa
  rw [if_pos (by omega)]
  have e : (-3 : Int).natAbs = 3 := rfl
  rw [e, Lib.decDigits, dif_pos (by omega)]
  rfl
end Go.Proofs.YtepgficheibbfaaDoor
