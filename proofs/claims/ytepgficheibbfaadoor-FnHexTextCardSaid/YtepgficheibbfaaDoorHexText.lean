/-
  The law on hexadecimal text: a string can be decoded from its encoding; longer ones are rejected. Where the library's table is as its initialiser lays it.
-/
import Derived.Test.YtepgficheibbfaaDoorTexts
import Derived.Test.YtepgficheibbfaaDoorImplEnc
import Derived.Test.YtepgficheibbfaaDoorDecImpl
import Derived.Test.YtepgficheibbfaaDoorLaid
namespace Go.Proofs.YtepgficheibbfaaDoor
open Go.ChangeShapes Go.WideShapes Go.ChangeAt Go.RowKit Go.PlainAid

theorem bt_nums (xs : List Int) (h : ∀ x ∈ xs, 0 ≤ x ∧ x ≤ 255) (i : Nat) (hi : i < xs.length) : bt (strOfNums xs) i = xs[i] := by
  have hs : i < (strOfNums xs).size := by rw [strOfNums_size]; exact hi
  rw [← get_bt _ i hs]
  have e : (strOfNums xs)[i] = UInt8.ofNat (xs[i]).toNat := by
    show (strOfNums xs).data[i] = _
    have h1 : (strOfNums xs).data[i]'hs = (strOfNums xs).data.toList[i]'(by simpa using hs) := by simp
    rw [h1]
    simp [strOfNums_data]
  have b := h xs[i] (List.getElem_mem hi)
  rw [e, UInt8.toNat_ofNat']
  omega
theorem hexDig_bounds {x : Int} (h0 : 0 ≤ x) (h1 : x < 16) : 0 ≤ hexDig x ∧ hexDig x ≤ 255 := by unfold hexDig; split <;> omega
theorem dg_hexDig {x : Int} (h0 : 0 ≤ x) (h1 : x < 16) : dg (hexDig x) = x := by
  unfold hexDig dg
  repeat' split
  all_goals omega
theorem encTo_bounds (s : ByteArray) : ∀ k, ∀ x ∈ encTo s k, 0 ≤ x ∧ x ≤ 255
  | 0, x, h => by cases h
  | k + 1, x, h => by
    have h' : x ∈ encTo s k ++ hexTwo (bt s k) := h
    have c0 := bt_nonneg s k
    have c1 := bt_le s k
    rw [List.mem_append] at h'
    rcases h' with h' | h'
    · exact encTo_bounds s k x h'
    · unfold hexTwo at h'
      rcases List.mem_cons.1 h' with rfl | h'
      · exact hexDig_bounds (by omega) (by omega)
      · obtain rfl := List.mem_singleton.1 h'
        exact hexDig_bounds (by omega) (by omega)
theorem encTo_at (s : ByteArray) : ∀ k i, i < k → (encTo s k)[2 * i]? = some (hexDig (bt s i / 16)) ∧ (encTo s k)[2 * i + 1]? = some (hexDig (bt s i % 16))
  | 0, i, h => by omega
  | k + 1, i, h => by
    have e : encTo s (k + 1) = encTo s k ++ hexTwo (bt s k) := rfl
    have hl := encTo_len s k
    rw [e]
    by_cases hi : i < k
    · rw [List.getElem?_append_left (by omega), List.getElem?_append_left (by omega)]
      exact encTo_at s k i hi
    · obtain rfl : i = k := by omega
      rw [List.getElem?_append_right (by omega), List.getElem?_append_right (by omega), hl]
      have e1 : 2 * i - 2 * i = 0 := by omega
      have e2 : 2 * i + 1 - 2 * i = 1 := by omega
      rw [e1, e2]
      exact ⟨rfl, rfl⟩
def encS (s : ByteArray) : ByteArray := strOfNums (encTo s s.size)
theorem encS_size (s : ByteArray) : (encS s).size = 2 * s.size := by unfold encS; rw [strOfNums_size, encTo_len]
theorem encS_bt (s : ByteArray) (i : Nat) (hi : i < s.size) : bt (encS s) (2 * i) = hexDig (bt s i / 16) ∧ bt (encS s) (2 * i + 1) = hexDig (bt s i % 16) := by
  have hl := encTo_len s s.size
  obtain ⟨h1, h2⟩ := encTo_at s s.size i hi
  have hb := encTo_bounds s s.size
  unfold encS
  constructor
  · rw [bt_nums _ hb _ (by omega)]
    rw [List.getElem?_eq_getElem (by omega)] at h1
    exact Option.some.inj h1
  · rw [bt_nums _ hb _ (by omega)]
    rw [List.getElem?_eq_getElem (by omega)] at h2
    exact Option.some.inj h2
theorem encS_good (s : ByteArray) : GoodTo (encS s) (encS s).size := fun i hi => by
  rw [encS_size] at hi
  obtain ⟨h1, h2⟩ := encS_bt s (i / 2) (by omega)
  have c0 := bt_nonneg s (i / 2)
  have c1 := bt_le s (i / 2)
  rcases Nat.mod_two_eq_zero_or_one i with h | h
  · have e : i = 2 * (i / 2) := by omega
    rw [e, h1, dg_hexDig (by omega) (by omega)]
    omega
  · have e : i = 2 * (i / 2) + 1 := by omega
    rw [e, h2, dg_hexDig (by omega) (by omega)]
    omega
theorem dec_enc (s : ByteArray) : ∀ k, k ≤ s.size → decTo (encS s) k = (s.data.toList.take k).map fun b => (b.toNat : Int)
  | 0, _ => rfl
  | k + 1, hk => by
    have e : decTo (encS s) (k + 1) = decTo (encS s) k ++ [16 * dg (bt (encS s) (2 * k)) + dg (bt (encS s) (2 * k + 1))] := rfl
    obtain ⟨h1, h2⟩ := encS_bt s k (by omega)
    have c0 := bt_nonneg s k
    have c1 := bt_le s k
    rw [e, dec_enc s k (by omega), h1, h2, dg_hexDig (by omega) (by omega), dg_hexDig (by omega) (by omega)]
    have e2 : s.data.toList.take (k + 1) = s.data.toList.take k ++ [s[k]] := by
      rw [List.take_succ_eq_append_getElem (by simp; omega)]; rfl
    rw [e2, List.map_append, List.map_cons, List.map_nil, get_bt s k (by omega)]
    congr 2
    omega
theorem dec_all (s : ByteArray) : strOfNums (decTo (encS s) ((encS s).size / 2)) = s := by
  have e : (encS s).size / 2 = s.size := by rw [encS_size]; omega
  rw [e, dec_enc s s.size (Nat.le_refl _), List.take_of_length_le (by simp)]
  apply bytes_ext
  rw [strOfNums_data, List.map_map]
  conv => rhs; rw [← List.map_id s.data.toList]
  apply List.map_congr_left
  intro b _
  simp

def DrawnStr (B : Nat) (w : World) (e : Ending) (w' : World) : Prop := ∃ s : ByteArray, s.size ≤ 20001 ∧ e = .returned (.string s) ∧ Below B w w'

theorem drawEnc_any (B : Nat) (a : Option Addr) (len cap : Nat) (w : World) (hB : B = w.heap.size) (hl : len ≤ 1048576) (hr : Bytes w w.heap.size a len) :
    Calls Tryd.prog 9 #[.slice a len cap] w (DrawnStr B w) := by
  go_enter Tryd.func9, Tryd.ntmps9
  go_wp2_with fail
  refine (new_any a len cap w hl hr).mono ?_
  rintro e w0 ⟨rfl, C0, b0, s0⟩
  have bel : ∀ w2 : World, w0.grownBy w2 (some w.heap.size) → Below B w w2 := fun w2 g => hB ▸ b0.trans (below_of_grown g (Nat.le_refl _) (by omega))
  have hB0 : B ≤ w0.heap.size := by omega
  clear b0 s0 hr hl hB
  generalize w.heap.size = p at C0 bel ⊢
  go_wp2_with fail
  refine (once_any 60 p len cap a _ C0).mono ?_
  rintro e w1 ⟨q, rfl, C1, g1⟩
  cases q
  · go_wp2_with fail
    refine (below_any 30 p len cap a _ C1).mono ?_
    rintro e w2 ⟨y, ⟨-, hy⟩, rfl, C2, g2⟩
    obtain ⟨y0, y1⟩ := hy (by omega)
    obtain ⟨n, rfl⟩ := Int.eq_ofNat_of_zero_le y0
    clear hy
    go_wp2_with fail
    refine (text_any n (by omega) p len cap a _ C2).mono ?_
    rintro e w3 ⟨s, hs, rfl, C3, g3⟩
    have hend : DrawnStr B w (.returned (.string s)) w3 := ⟨s, by omega, rfl, bel _ (grown_trans (grown_trans g1 g2) g3)⟩
    clear bel g1 g2 g3 C0 C1 C2 C3
    go_wp2_with fail
    go_ret
    exact hend
  · go_wp2_with fail
    refine (below_any 2 p len cap a _ C1).mono ?_
    rintro e w2 ⟨y, ⟨-, hy⟩, rfl, C2, g2⟩
    obtain ⟨y0, y1⟩ := hy (by omega)
    clear hy
    obtain ⟨n, hn⟩ : ∃ n : Nat, 20000 + y = (n : Int) := ⟨(20000 + y).toNat, by omega⟩
    have hL := long_any n 200 w2 (by omega)
    rw [← hn] at hL
    have hnn : n ≤ 20001 := by omega
    clear hn
    go_wp2_with fail
    refine hL.mono ?_
    rintro e w3 ⟨rfl, b3⟩
    have hend : DrawnStr B w (.returned (.string (strOfNums (List.replicate n 200)))) w3 := ⟨_, by rw [strOfNums_size, List.length_replicate]; exact hnn, rfl, (bel _ (grown_trans g1 g2)).trans (b3.mono (Nat.le_trans hB0 (grown_trans g1 g2).size))⟩
    generalize strOfNums (List.replicate n 200) = x at hend ⊢
    clear bel g1 g2 b3 C0 C1 C2 hL
    go_wp2_with fail
    go_ret
    exact hend

theorem decS_ten : Lib.itoa 10 = [49, 48] := by
  unfold Lib.itoa
  rw [if_neg (by omega)]
  show Lib.decDigits 10 = _
  rw [Lib.decDigits, dif_neg (by omega)]
  show Lib.decDigits 1 ++ _ = _
  rw [Lib.decDigits, dif_pos (by omega)]
  rfl

def DecBack (s : ByteArray) (w : World) (e : Ending) (w' : World) : Prop := e = .returned (.tuple #[.string s, .bool true]) ∧ Below w.heap.size w w'
theorem decBack_any (s : ByteArray) (w : World) (hs : s.size ≤ 20000) : Calls Tryd.prog 12 #[.string (encS s)] w (DecBack s w) :=
  (implDec_small (encS s) w (by rw [encS_size]; omega) (by rw [encS_size]; omega)).mono fun e w' ⟨hb, h⟩ => by
    rcases h with ⟨_, he⟩ | ⟨hn, _⟩
    · exact ⟨by rw [he, dec_all], hb⟩
    · exact absurd (encS_good s) hn

theorem hexText_small (a : Option Addr) (len cap : Nat) (w : World) (hl : len ≤ 1048576) (hr : Bytes w w.heap.size a len) (hT : Tab w) :
    Calls Tryd.prog 3 #[.slice a len cap] w fun e w' => e = .returned (.bool true) ∧ Below w.heap.size w w' := by
  have hb : ¬ (1048576 : Int) < len := by omega
  have hD := drawEnc_any w.heap.size a len cap w rfl hl hr
  have hT1 := fun W (b : Below w.heap.size w W) => tab_keep hT b
  clear hT hl hr
  go_enter Tryd.func3, Tryd.ntmps3
  go_wp2_with (go_at_call 8; go_in)
  refine hD.mono ?_
  rintro e w1 ⟨s, hs, rfl, b1⟩
  by_cases h2 : 20000 < s.size
  · have hE := implEnc_big s w1 h2 (by omega)
    have hF := implFmt_any 10 w1 (by omega) (by omega) (hT1 w1 b1)
    have e10 : decS 10 = { data := #[49, 48] } := by
      unfold decS
      rw [decS_ten]
    unfold Text at hF
    rw [e10] at hF
    clear e10 hD hT1 hb
    go_wp2_with fail
    refine hE.mono ?_
    rintro e w2 ⟨rfl, rfl⟩
    go_wp2_with fail
    refine hF.mono ?_
    rintro e w3 ⟨rfl, b3⟩
    have b : Below w.heap.size w w3 := b1.trans (b3.mono b1.size)
    clear hE hF b1 b3
    go_wp2
    go_ret
    exact ⟨rfl, b⟩
  · have hE := implEnc_small s w1 (by omega)
    have hDec := fun W => decBack_any s W (by omega)
    have hsz := encS_size s
    have ee : strOfNums (encTo s s.size) = encS s := rfl
    rw [ee] at hE
    clear ee
    generalize encS s = h at hE hDec hsz
    clear hD hT1 hb
    go_wp2_with fail
    refine hE.mono ?_
    rintro e w2 ⟨rfl, b2⟩
    go_wp2_with fail
    refine (hDec w2).mono ?_
    rintro e w3 ⟨rfl, b3⟩
    have b : Below w.heap.size w w3 := b1.trans ((b2.mono b1.size).trans (b3.mono (Nat.le_trans b1.size b2.size)))
    clear hE hDec b1 b2 b3
    go_wp2
    go_ret
    exact ⟨rfl, b⟩

theorem hexText_big (a : Option Addr) (len cap : Nat) (w : World) (hl : 1048576 < len) (hm : len ≤ 9223372036854775807) :
    Calls Tryd.prog 3 #[.slice a len cap] w fun e w' => e = .returned (.bool true) ∧ Below w.heap.size w w' := by
  have hb : (1048576 : Int) < len := by omega
  go_enter Tryd.func3, Tryd.ntmps3
  go_wp2_with (go_at_call 8; go_in)
  go_ret
  exact ⟨rfl, Below.refl _ _⟩
end Go.Proofs.YtepgficheibbfaaDoor
