/-
  The program's own parsing of a decimal number: as the model's, where the library's tables and its two errors are as their initialisers lay them. The law on it.
-/
import Derived.Test.YtepgficheibbfaaDoorParse
import Derived.Test.YtepgficheibbfaaDoorShelfA
import Derived.Stop.LaidErr
namespace Go.Proofs.YtepgficheibbfaaDoor
open Go.ChangeShapes Go.WideShapes Go.ChangeAt Go.RowKit Go.PlainAid

theorem p10_app : ∀ (l m : List UInt8) (acc u : Nat), Lib.parseUint10 acc l = .ok u → Lib.parseUint10 acc (l ++ m) = Lib.parseUint10 u m
  | [], m, acc, u, h => by
    simp only [Lib.parseUint10] at h
    injection h with h
    rw [h]; rfl
  | c :: r, m, acc, u, h => by
    rw [List.cons_append]
    simp only [Lib.parseUint10] at h ⊢
    split at h
    · rename_i hd
      rw [if_pos hd]
      split at h
      · cases h
      · rename_i h1
        rw [if_neg h1]
        split at h
        · cases h
        · rename_i h2
          rw [if_neg h2]
          exact p10_app r m _ u h
    · cases h
theorem p10_one (acc d : Nat) (hd : d < 10) (ha : acc ≤ 1000000000) : Lib.parseUint10 acc [UInt8.ofNat (48 + d)] = .ok (acc * 10 + d) := by
  simp only [Lib.parseUint10]
  rw [dig_toNat d hd, if_pos (by omega), if_neg (by omega), if_neg (by omega)]
  congr 1
  omega
theorem p10_dec : ∀ (n : Nat), n ≤ 1000000000 → Lib.parseUint10 0 (Lib.decDigits n) = .ok n := by
  intro n
  induction n using Nat.strongRecOn with
  | ind n ih =>
    intro hn
    rw [Lib.decDigits]
    by_cases h : n < 10
    · rw [dif_pos h, p10_one 0 n h (by omega)]
      congr 1
      omega
    · rw [dif_neg h, p10_app _ _ _ _ (ih (n / 10) (by omega) (by omega)), p10_one _ _ (by omega) (by omega)]
      congr 1
      omega
theorem atoi_dec {n : Nat} (hn : n ≤ 1000000000) : Lib.atoiAll (Lib.decDigits n) = .ok (n : Int) := by
  have hd := dec_digits n
  have hp := p10_dec n hn
  have hne := dec_ne n
  revert hd hp hne
  generalize Lib.decDigits n = l
  intro hd hp hne
  cases l with
  | nil => exact absurd rfl hne
  | cons c r =>
    have hc := hd c (by simp)
    simp only [Lib.atoiAll]
    rw [if_neg (by omega)]
    unfold Lib.parseMag
    rw [if_neg (by simp), hp]
    simp only
    rw [if_neg (by omega), if_neg (by omega), if_neg (by omega)]

/-- strconv.Atoi where the text is no int's: an error that is not nil. -/
def NoInt (w : World) (e : Ending) (w' : World) : Prop := ∃ (z : Int) (N : Nat), e = .returned (.tuple #[.int .i64 z, .iface 63 (.pointer (some ⟨N, 0, none⟩))]) ∧ Below w.heap.size w w'
def Errs (w : World) : Prop := (∃ tp p, w.var? Tryd.prog "strconv.ErrRange" = some #[.iface tp p]) ∧ ∃ tp p, w.var? Tryd.prog "strconv.ErrSyntax" = some #[.iface tp p]

theorem atoi_not (s : ByteArray) (hlim : s.size ≤ 281474976710656) (hne : ∀ v, Lib.atoiAll s.data.toList ≠ .ok v) (w : World) (hE : Errs w) :
    Calls Tryd.prog 29 #[.string s] w (NoInt w) := by
  obtain ⟨⟨t1, p1, h1⟩, ⟨t2, p2, h2⟩⟩ := hE
  cases e : Lib.atoiAll s.data.toList
  · exact absurd e (hne _)
  · exact (Any.strconv_Atoi_syntax_var Tryd.laysC172 s hlim e t2 p2 w h2).mono fun _ _ ⟨N, he, _, _, hb⟩ => ⟨_, N, he, hb⟩
  · exact (Any.strconv_Atoi_range_var Tryd.laysC172 s hlim e t1 p1 w h1).mono fun _ _ ⟨N, he, _, _, hb⟩ => ⟨_, N, he, hb⟩

theorem below_bytesWorld (w : World) (e : TypeId) (t : ByteArray) : Below w.heap.size w (Lib.bytesWorld w e t) :=
  ⟨rfl, rfl, rfl, by rw [Lib.bytesWorld_size]; omega, fun k hk => Lib.bytesWorld_at_old w e t k hk⟩
def IsInt (v : Int) (w : World) (e : Ending) (w' : World) : Prop := e = .returned (.tuple #[.int .i64 v, .nilIface]) ∧ Below w.heap.size w w'
theorem atoi_yes (s : ByteArray) (hlim : s.size ≤ 281474976710656) (v : Int) (h : Lib.atoiAll s.data.toList = .ok v) (w : World) :
    Calls Tryd.prog 29 #[.string s] w (IsInt v w) :=
  (Tryd.strconv_Atoi_ok s (by omega) v h w).mono fun _ _ ⟨he, hw⟩ => ⟨he, by
    rcases hw with rfl | ⟨t, rfl⟩
    · exact Below.refl _ _
    · exact below_bytesWorld w _ t⟩

theorem implParse_any (s : ByteArray) (w : World) (hlim : s.size ≤ 281474976710656) (hT : Tab w) (hE : Errs w) :
    Calls Tryd.prog 14 #[.string s] w (Parsed s w) := by
  have key : ∀ n, IsNum s n → Lib.atoiAll s.data.toList = .ok (n : Int) := fun n hn => by rw [hn.2]; exact atoi_dec hn.1
  by_cases hok : ∃ v, Lib.atoiAll s.data.toList = .ok v
  · obtain ⟨v, hv⟩ := hok
    have hA := atoi_yes s hlim v hv w
    have hvn : ∀ n, IsNum s n → v = n := fun n hn => by
      have := (key n hn).symm.trans hv
      injection this with h
      exact h.symm
    obtain ⟨b0, b1⟩ := Lib.atoiAll_bounds hv
    by_cases h0 : v < 0
    · have hno := fun w' hb => parsed_no (s := s) (w := w) (w' := w') hb fun n hn => by have := hvn n hn; omega
      clear hvn key hv hT hE
      go_enter Tryd.func14, Tryd.ntmps14
      go_wp2_with (go_at_call 29; refine hA.mono ?_; rintro e w1 ⟨rfl, b1⟩)
      go_ret2
      exact hno _ (by assumption)
    · by_cases h9 : 1000000000 < v
      · have hno := fun w' hb => parsed_no (s := s) (w := w) (w' := w') hb fun n hn => by have h1 := hvn n hn; have h2 := hn.1; omega
        clear hvn key hv hT hE
        go_enter Tryd.func14, Tryd.ntmps14
        go_wp2_with (go_at_call 29; refine hA.mono ?_; rintro e w1 ⟨rfl, b1⟩)
        go_ret2
        exact hno _ (by assumption)
      · have hF := fun W hW => implFmt_any v W (by omega) (by omega) hW
        unfold Text at hF
        have hyes := fun w' hb h => parsed_yes (s := s) (w := w) (w' := w') (v := v) hb (by omega) (by omega) h
        have hno2 := fun w' hb (h : ¬ decS v = s) => parsed_no (s := s) (w := w) (w' := w') hb fun n hn => by
          have h1 := hvn n hn
          subst h1
          exact h (isNum_dec hn)
        have hT2 := fun w' hb => tab_keep (w' := w') hT hb
        clear hvn key hv hT hE
        generalize decS v = x at hF hyes hno2
        go_enter Tryd.func14, Tryd.ntmps14
        go_wp2_with fail
        refine hA.mono ?_
        rintro e w1 ⟨rfl, b1⟩
        have hF1 := hF w1 (hT2 w1 b1)
        clear hF hT2 hA
        go_wp2_with (go_at_call 11; refine hF1.mono ?_; rintro e w2 ⟨rfl, b2⟩)
        · have ht : (!x.toList == s.toList) = true := by assumption
          have hend := hno2 w2 (b1.trans (b2.mono b1.size)) (ne_of_test ht)
          go_ret2
          exact hend
        · have ht : (!x.toList == s.toList) = false := by assumption
          have hend := hyes w2 (b1.trans (b2.mono b1.size)) (eq_of_test ht)
          go_ret2
          exact hend
  · have hA := atoi_not s hlim (fun v hv => hok ⟨v, hv⟩) w hE
    have hno := fun w' hb => parsed_no (s := s) (w := w) (w' := w') hb fun n hn => hok ⟨_, key n hn⟩
    clear key hok hT hE
    go_enter Tryd.func14, Tryd.ntmps14
    go_wp2_with (go_at_call 29; refine hA.mono ?_; rintro e w1 ⟨z, N, rfl, b1⟩)
    go_ret2
    exact hno _ (by assumption)
end Go.Proofs.YtepgficheibbfaaDoor
