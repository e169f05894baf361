/-
  The law on numbers: exactly the numbers from 0 to the greatest can be parsed from their decimal text. Where the library's variables are as their initialisers lay them.
-/
import Derived.Test.YtepgficheibbfaaDoorNumber
import Derived.Test.YtepgficheibbfaaDoorExactParse
namespace Go.Proofs.YtepgficheibbfaaDoor
open Go.ChangeShapes Go.WideShapes Go.ChangeAt Go.RowKit Go.PlainAid

theorem fits_wrap (a : Int) : Fits (wrap64 a) := by unfold Fits wrap64; omega
def DrawnOne (B : Nat) (w : World) (e : Ending) (w' : World) : Prop := ∃ n : Int, Fits n ∧ e = .returned (.int .i64 n) ∧ Below B w w'

theorem drawFormat_any (B : Nat) (a : Option Addr) (len cap : Nat) (w : World) (hB : B = w.heap.size) (hl : len ≤ 1048576) (hr : Bytes w w.heap.size a len) :
    Calls Tryd.prog 13 #[.slice a len cap] w (DrawnOne B w) := by
  go_enter Tryd.func13, Tryd.ntmps13
  go_wp2_with fail
  refine (new_any a len cap w hl hr).mono ?_
  rintro e w0 ⟨rfl, C0, b0, s0⟩
  have bel : ∀ w2 : World, w0.grownBy w2 (some w.heap.size) → Below B w w2 := fun w2 g => hB ▸ b0.trans (below_of_grown g (Nat.le_refl _) (by omega))
  clear b0 s0 hr hl hB
  generalize w.heap.size = p at C0 bel ⊢
  go_wp2_with fail
  refine (once_any 3 p len cap a _ C0).mono ?_
  rintro e w1 ⟨q, rfl, C1, g1⟩
  cases q
  · go_wp2_with fail
    refine (number_any p len cap a _ C1).mono ?_
    rintro e w2 ⟨x, hx, rfl, C2, g2⟩
    go_wp2_with fail
    go_ret
    exact ⟨_, hx, rfl, bel _ (grown_trans g1 g2)⟩
  · go_wp2_with fail
    refine (below_any 1000000 p len cap a _ C1).mono ?_
    rintro e w2 ⟨x, -, rfl, C2, g2⟩
    go_wp2_with fail
    refine (below_any 2000000 p len cap a _ C2).mono ?_
    rintro e w3 ⟨y, ⟨-, hy⟩, rfl, C3, g3⟩
    obtain ⟨y0, y1⟩ := hy (by omega)
    clear hy
    go_wp2_with fail
    go_ret
    exact ⟨_, fits_wrap _, rfl, bel _ (grown_trans (grown_trans g1 g2) g3)⟩

theorem decS_size (n : Int) (h : Fits n) : (decS n).size ≤ 21 := by
  have h1 := Lib.itoa_length_le n h.1 h.2
  have e : (decS n).size = (Lib.itoa n).length := by
    rw [← decS_data n]; simp
  omega
theorem decS_some (n : Int) : (decS n).toList.isEmpty = false := by
  rw [ByteArray.toList_eq, decS_data, List.isEmpty_eq_false_iff]
  unfold Lib.itoa
  split
  · simp
  · exact dec_ne _
theorem isNum_in {n : Int} (h0 : 0 ≤ n) (h1 : n ≤ 1000000000) {m : Nat} (h : IsNum (decS n) m) : (m : Int) = n := by
  obtain ⟨k, rfl⟩ := Int.eq_ofNat_of_zero_le h0
  have hk : IsNum (decS (k : Int)) k := isNum_of (by omega) rfl
  rw [isNum_inj h hk]
theorem isNum_out {n : Int} (h : n < 0 ∨ 1000000000 < n) (m : Nat) : ¬ IsNum (decS n) m := fun hm => by
  have e := hm.2
  rw [decS_data] at e
  unfold Lib.itoa at e
  rcases h with h | h
  · rw [if_pos h] at e
    have := dec_digits m 45 (by rw [← e]; simp)
    have h45 : (45 : UInt8).toNat = 45 := by decide
    omega
  · rw [if_neg (by omega)] at e
    have h1 := congrArg lval e
    rw [lval_dec, lval_dec] at h1
    have := hm.1
    omega

theorem numbers_small (a : Option Addr) (len cap : Nat) (w : World) (hl : len ≤ 1048576) (hr : Bytes w w.heap.size a len) (hT : Tab w) (hE : Errs w) :
    Calls Tryd.prog 4 #[.slice a len cap] w fun e w' => e = .returned (.bool true) ∧ Below w.heap.size w w' := by
  have hb : ¬ (1048576 : Int) < len := by omega
  have hlt := tab_lt hT
  have hD := drawFormat_any w.heap.size a len cap w rfl hl hr
  have hT1 := fun W (b : Below w.heap.size w W) => tab_keep hT b
  have hE1 := fun W (b : Below w.heap.size w W) => errs_keep hE b (by omega) (by omega)
  clear hT hE hlt hl hr
  go_enter Tryd.func4, Tryd.ntmps4
  go_wp2_with (go_at_call 8; go_in)
  refine hD.mono ?_
  rintro e w1 ⟨n, hf, rfl, b1⟩
  have hF := implFmt_any n w1 hf.1 hf.2 (hT1 w1 b1)
  have hP := fun W b => implParse_any (decS n) W (by have := decS_size n hf; omega) (hT1 W b) (hE1 W b)
  have hs := decS_some n
  have hin := fun h0 h1 m => isNum_in (n := n) (m := m) h0 h1
  have hyes : 0 ≤ n → n ≤ 1000000000 → ∃ m, IsNum (decS n) m := fun h0 h1 => ⟨n.toNat, isNum_of (by omega) (by rw [Int.toNat_of_nonneg h0])⟩
  have hout := fun h m => isNum_out (n := n) h m
  unfold Text at hF
  clear hD hT1 hE1 hb hf
  generalize decS n = x at hF hP hs hin hyes hout
  go_wp2_with fail
  refine hF.mono ?_
  rintro e w2 ⟨rfl, b2⟩
  have b2' : Below w.heap.size w w2 := b1.trans (b2.mono b1.size)
  have hP2 := hP w2 b2'
  clear hF hP b1 b2
  by_cases h0 : 0 ≤ n
  · by_cases h1 : n ≤ 1000000000
    · have hin1 := hin h0 h1
      have hy1 := hyes h0 h1
      clear hin hyes hout
      go_wp2_with fail
      refine hP2.mono ?_
      rintro e w3 ⟨b3, ⟨m, hm, rfl⟩ | ⟨hm, rfl⟩⟩
      · have e := hin1 m hm
        rw [e]
        have b : Below w.heap.size w w3 := b2'.trans (b3.mono b2'.size)
        clear hP2 hin1 hy1 hm e b2' b3
        go_wp2
        go_ret
        exact ⟨rfl, b⟩
      · exact absurd hy1 hm
    · have ho := hout (.inr (by omega))
      clear hin hyes hout
      go_wp2_with fail
      refine hP2.mono ?_
      rintro e w3 ⟨b3, ⟨m, hm, rfl⟩ | ⟨hm, rfl⟩⟩
      · exact absurd hm (ho m)
      · have b : Below w.heap.size w w3 := b2'.trans (b3.mono b2'.size)
        clear hP2 ho hm b2' b3
        go_wp2
        go_ret
        exact ⟨rfl, b⟩
  · have ho := hout (.inl (by omega))
    clear hin hyes hout
    go_wp2_with fail
    refine hP2.mono ?_
    rintro e w3 ⟨b3, ⟨m, hm, rfl⟩ | ⟨hm, rfl⟩⟩
    · exact absurd hm (ho m)
    · have b : Below w.heap.size w w3 := b2'.trans (b3.mono b2'.size)
      clear hP2 ho hm b2' b3
      go_wp2
      go_ret
      exact ⟨rfl, b⟩

theorem numbers_big (a : Option Addr) (len cap : Nat) (w : World) (hl : 1048576 < len) (hm : len ≤ 9223372036854775807) :
    Calls Tryd.prog 4 #[.slice a len cap] w fun e w' => e = .returned (.bool true) ∧ Below w.heap.size w w' := by
  have hb : (1048576 : Int) < len := by omega
  go_enter Tryd.func4, Tryd.ntmps4
  go_wp2_with (go_at_call 8; go_in)
  go_ret
  exact ⟨rfl, Below.refl _ _⟩
end Go.Proofs.YtepgficheibbfaaDoor
