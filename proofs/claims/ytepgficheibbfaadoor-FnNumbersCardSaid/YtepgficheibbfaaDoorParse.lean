/-
  Decimal numbers: plain facts on their digits; the contract of the model's parsing: the number and true where the text is the decimal text of a number up to 1000000000, else 0 and false.
-/
import Derived.Test.YtepgficheibbfaaDoorLaid
import Derived.Lib.AtoiAll
namespace Go.Proofs.YtepgficheibbfaaDoor
open Go.ChangeShapes Go.WideShapes Go.ChangeAt Go.RowKit Go.PlainAid

/-- The value of a list of digits. -/
def lval (l : List UInt8) : Int := l.foldl (fun a c => 10 * a + (c.toNat : Int) - 48) 0
theorem lval_snoc (l : List UInt8) (c : UInt8) : lval (l ++ [c]) = 10 * lval l + (c.toNat : Int) - 48 := by
  unfold lval
  rw [List.foldl_append]
  rfl
theorem dig_toNat (d : Nat) (h : d < 10) : (UInt8.ofNat (48 + d)).toNat = 48 + d := by
  rw [UInt8.toNat_ofNat']
  omega
theorem lval_dec : ∀ (n : Nat), lval (Lib.decDigits n) = n := by
  intro n
  induction n using Nat.strongRecOn with
  | ind n ih =>
    rw [Lib.decDigits]
    by_cases h : n < 10
    · rw [dif_pos h]
      have e : lval [UInt8.ofNat (48 + n)] = 10 * 0 + ((UInt8.ofNat (48 + n)).toNat : Int) - 48 := rfl
      rw [e, dig_toNat n h]
      omega
    · rw [dif_neg h, lval_snoc, ih (n / 10) (by omega), dig_toNat _ (by omega)]
      omega
theorem dec_digits : ∀ (n : Nat), ∀ c ∈ Lib.decDigits n, 48 ≤ c.toNat ∧ c.toNat ≤ 57 := by
  intro n
  induction n using Nat.strongRecOn with
  | ind n ih =>
    rw [Lib.decDigits]
    by_cases h : n < 10
    · rw [dif_pos h]
      intro c hc
      rw [List.mem_singleton] at hc
      rw [hc, dig_toNat n h]
      omega
    · rw [dif_neg h]
      intro c hc
      rw [List.mem_append, List.mem_singleton] at hc
      rcases hc with hc | hc
      · exact ih (n / 10) (by omega) c hc
      · rw [hc, dig_toNat _ (by omega)]
        omega
theorem dec_ne (n : Nat) : Lib.decDigits n ≠ [] := by
  rw [Lib.decDigits]
  split
  · simp
  · simp

/-- The text of the number n, which is not above the greatest. -/
def IsNum (s : ByteArray) (n : Nat) : Prop := n ≤ 1000000000 ∧ s.data.toList = Lib.decDigits n
theorem isNum_val {s : ByteArray} {n : Nat} (h : IsNum s n) : lval s.data.toList = n := by rw [h.2, lval_dec]
theorem isNum_inj {s : ByteArray} {n m : Nat} (h : IsNum s n) (k : IsNum s m) : n = m := by
  have := (isNum_val h).symm.trans (isNum_val k)
  omega
theorem isNum_bytes {s : ByteArray} {n : Nat} (h : IsNum s n) (k : Nat) (hk : k < s.size) : 48 ≤ bt s k ∧ bt s k ≤ 57 := by
  have hm : s[k] ∈ s.data.toList := by
    show s.data[k] ∈ s.data.toList
    simp
  rw [h.2] at hm
  have := dec_digits n _ hm
  rw [← get_bt s k hk]
  omega
theorem isNum_dec {s : ByteArray} {n : Nat} (h : IsNum s n) : decS (n : Int) = s := bytes_ext (by
  rw [decS_data, h.2]
  unfold Lib.itoa
  rw [if_neg (by omega), Int.toNat_natCast])
theorem isNum_of {s : ByteArray} {n : Nat} (hn : n ≤ 1000000000) (h : decS (n : Int) = s) : IsNum s n := ⟨hn, by
  rw [← h, decS_data]
  unfold Lib.itoa
  rw [if_neg (by omega), Int.toNat_natCast]⟩
theorem nDigits_le10 : ∀ {n : Nat}, n ≤ 1000000000 → Lib.nDigits n ≤ 10 := by
  intro n hn
  rcases Nat.lt_or_ge n 10 with h | h
  · rw [Lib.nDigits_small h]; omega
  · have h1 := Lib.nDigits_pos n
    rcases Nat.lt_or_ge (Lib.nDigits n) 11 with h2 | h2
    · omega
    · exfalso
      have key : ∀ (k m : Nat), Lib.nDigits m = k + 1 → 1 ≤ k → 10 ^ k ≤ m := by
        intro k
        induction k with
        | zero => intro m _ h; omega
        | succ k ih =>
          intro m hm _
          have hb : ¬ m < 10 := fun h => by rw [Lib.nDigits_small h] at hm; omega
          rw [Lib.nDigits_big hb] at hm
          rcases Nat.eq_zero_or_pos k with rfl | hk
          · omega
          · have := ih (m / 10) (by omega) hk
            rw [Nat.pow_succ]
            omega
      have := key (Lib.nDigits n - 1) n (by omega) (by omega)
      have h3 : 10 ^ 10 ≤ 10 ^ (Lib.nDigits n - 1) := Nat.pow_le_pow_right (by decide) (by omega)
      have h4 : (10 : Nat) ^ 10 = 10000000000 := by decide
      omega
theorem isNum_size {s : ByteArray} {n : Nat} (h : IsNum s n) : s.size ≤ 10 := by
  have h1 : s.data.toList.length = s.size := by simp
  rw [h.2, Lib.decDigits_length] at h1
  have := nDigits_le10 h.1
  omega
theorem isNum_pos {s : ByteArray} {n : Nat} (h : IsNum s n) : 0 < s.size := by
  have h1 : s.data.toList.length = s.size := by simp
  rw [h.2, Lib.decDigits_length] at h1
  have := Lib.nDigits_pos n
  omega

def Parsed (s : ByteArray) (w : World) (e : Ending) (w' : World) : Prop :=
  Below w.heap.size w w' ∧ ((∃ n : Nat, IsNum s n ∧ e = .returned (.tuple #[.int .i64 (n : Int), .bool true])) ∨ ((¬ ∃ n : Nat, IsNum s n) ∧ e = .returned (.tuple #[.int .i64 0, .bool false])))
theorem parsed_no {s : ByteArray} {w w' : World} (hb : Below w.heap.size w w') (h : ∀ n, ¬ IsNum s n) : Parsed s w (.returned (.tuple #[.int .i64 0, .bool false])) w' :=
  ⟨hb, .inr ⟨fun ⟨n, hn⟩ => h n hn, rfl⟩⟩
theorem parsed_yes {s : ByteArray} {w w' : World} {v : Int} (hb : Below w.heap.size w w') (h0 : 0 ≤ v) (h1 : v ≤ 1000000000) (h : decS v = s) : Parsed s w (.returned (.tuple #[.int .i64 v, .bool true])) w' := by
  obtain ⟨n, rfl⟩ := Int.eq_ofNat_of_zero_le h0
  exact ⟨hb, .inl ⟨n, isNum_of (by omega) h, rfl⟩⟩

/-- The first k bytes are digits; v is their value. -/
def ValSt (s : ByteArray) (k : Nat) (v : Int) : Prop := v = lval (s.data.toList.take k) ∧ v + 1 ≤ (10 : Int) ^ k ∧ 0 ≤ v
theorem valSt_start (s : ByteArray) : ValSt s 0 0 := ⟨rfl, by simp, Int.le_refl _⟩
theorem valSt_bound {s : ByteArray} {k : Nat} {v : Int} (h : ValSt s k v) (hk : k ≤ 10) : 0 ≤ v ∧ v ≤ 9999999999 := by
  have h1 : (10 : Int) ^ k ≤ (10 : Int) ^ 10 := by exact_mod_cast Nat.pow_le_pow_right (by decide : 0 < 10) hk
  have h2 : (10 : Int) ^ 10 = 10000000000 := by decide
  have := h.2.1
  have := h.2.2
  omega
theorem take_next (s : ByteArray) (k : Nat) (hk : k < s.size) : s.data.toList.take (k + 1) = s.data.toList.take k ++ [s[k]] := by
  rw [List.take_succ_eq_append_getElem (by simpa using hk)]; rfl
theorem valSt_step {s : ByteArray} {k : Nat} {v : Int} (h : ValSt s k v) (hk : k < s.size) (h0 : 48 ≤ bt s k) (h1 : bt s k ≤ 57) : ValSt s (k + 1) (10 * v + bt s k - 48) := by
  obtain ⟨rfl, h2, h3⟩ := h
  refine ⟨?_, ?_, by omega⟩
  · rw [take_next s k hk, lval_snoc, get_bt s k hk]
  · rw [Int.pow_succ]
    omega
theorem valSt_end {s : ByteArray} {v : Int} (h : ValSt s s.size v) {n : Nat} (hn : IsNum s n) : v = n := by
  have e : s.data.toList.take s.size = s.data.toList := List.take_of_length_le (by simp)
  rw [h.1, e, isNum_val hn]

theorem ne_of_test {x s : ByteArray} (h : (!x.toList == s.toList) = true) : ¬ x = s := fun e => by
  subst e
  simp at h
theorem eq_of_test {x s : ByteArray} (h : (!x.toList == s.toList) = false) : x = s := by
  have h1 : x.toList = s.toList := by simpa using h
  rw [ByteArray.toList_eq, ByteArray.toList_eq] at h1
  exact bytes_ext h1

theorem specParse_long (s : ByteArray) (w : World) (hs : 10 < s.size) (hm : s.size ≤ 9223372036854775807) :
    Calls Tryd.prog 20 #[.string s] w (Parsed s w) := by
  have hend : Parsed s w (.returned (.tuple #[.int .i64 0, .bool false])) w := parsed_no (Below.refl _ _) fun n hn => by have := isNum_size hn; omega
  have hi : (10 : Int) < s.size := by omega
  go_enter Tryd.func20, Tryd.ntmps20
  go_wp2
  go_ret2
  exact hend

theorem specParse_short (s : ByteArray) (w : World) (hs : s.size ≤ 10) :
    Calls Tryd.prog 20 #[.string s] w (Parsed s w) := by
  have hb := get_bt s
  have hno := fun h => parsed_no (s := s) (w := w) (w' := w) (Below.refl _ _) h
  go_enter Tryd.func20, Tryd.ntmps20
  go_wp2
  go_loop [4, 5] (fun n i => ∃ (k : Nat) (v : Int), k ≤ s.size ∧ i = .int .i64 k ∧ n = .int .i64 v ∧ ValSt s k v) (fun _ i => s.size - (intOf i).toNat)
  case atStart => exact ⟨0, 0, by omega, rfl, rfl, valSt_start s⟩
  case round =>
    obtain ⟨k, v, hk, rfl, rfl, hst⟩ := hrel
    obtain ⟨v0, v1⟩ := valSt_bound hst (by omega)
    by_cases hlt : k < s.size
    · have c0 := bt_nonneg s k
      have c1 := bt_le s k
      by_cases g1 : bt s k < 48
      · have hend := hno fun n hn => by have := isNum_bytes hn k hlt; omega
        clear hno
        go_wp2
        go_ret2
        exact hend
      · by_cases g2 : 57 < bt s k
        · have hend := hno fun n hn => by have := isNum_bytes hn k hlt; omega
          clear hno
          go_wp2
          go_ret2
          exact hend
        · have h1 := valSt_step hst hlt (by omega) (by omega)
          clear hno
          go_wp2
          go_round
          case rel => exact ⟨k + 1, _, by omega, by go_num, rfl, h1⟩
          case measure => simp [intOf]; omega
    · obtain rfl : k = s.size := by omega
      by_cases h9 : 1000000000 < v
      · have hend := hno fun n hn => by have h1 := valSt_end hst hn; have h2 := hn.1; omega
        clear hno
        go_wp2_with fail
        go_ret2
        exact hend
      · have hF := specFmt_any v w (by omega) (by omega)
        unfold Text at hF
        have hyes := fun w' hb h => parsed_yes (s := s) (w := w) (w' := w') (v := v) hb v0 (by omega) h
        have hno2 := fun w' hb (h : ¬ decS v = s) => parsed_no (s := s) (w := w) (w' := w') hb fun n hn => by
          have h1 := valSt_end hst hn
          subst h1
          exact h (isNum_dec hn)
        generalize decS v = x at hF hyes hno2
        clear hno hst
        go_wp2_with (go_at_call 19; refine hF.mono ?_; rintro e w' ⟨rfl, hbel⟩)
        · have ht : (!x.toList == s.toList) = true := by assumption
          have hend := hno2 _ hbel (ne_of_test ht)
          go_ret2
          exact hend
        · have ht : (!x.toList == s.toList) = false := by assumption
          have hend := hyes _ hbel (eq_of_test ht)
          go_ret2
          exact hend

theorem specParse_any (s : ByteArray) (w : World) (hm : s.size ≤ 9223372036854775807) : Calls Tryd.prog 20 #[.string s] w (Parsed s w) := by
  by_cases h : 10 < s.size
  · exact specParse_long s w h hm
  · exact specParse_short s w (by omega)
end Go.Proofs.YtepgficheibbfaaDoor
