/-
  The contracts of the program's ways of paying: each coin by a function value. Only new memory is written.
-/
import Derived.Test.YtjjedicjaojkcaaVarRow
import Derived.Test.YtjjedicjaojkcaaOwnMore
import Derived.Test.YtjjedicjaojkcaaCoinWays
import Derived.Test.YtjjedicjaojkcaaRange
import Derived.Laws.EntriesVeiled
import Derived.Lib.Hide
namespace Go.Proofs.Ytjjedicjaojkcaa
open Go.ChangeShapes Go.WideShapes Go.ChangeAt Go.RowKit Go.PlainAid

/-- What the way of paying is. -/
def ByFn (K : Nat) (g : Nat) : Value := .func (Fn.func K) #[] #[.pointer (some ⟨g, 0, none⟩)]

theorem implGreedily_any (A : Option Addr) (c n : Nat) (w : World) :
    Calls Try.prog 32 #[.slice A n c] w fun e w' => e = .returned (ByFn 42 w.heap.size) ∧ Own w w' [vrow w.heap.size (.slice A n c)] := by
  have O := (Own.none w).var (.slice A n c)
  go_enter Try.func32, Try.ntmps32
  go_wp2_with fail
  go_ret
  exact ⟨rfl, O⟩

theorem gi_here {L : List Int} {x : Nat} : ∀ k, cn L k ≤ x → gi L x k = k
  | 0, _ => rfl
  | k + 1, h => by unfold gi; rw [if_neg (by omega)]
theorem gi_down {L : List Int} {x k : Nat} (h : x < cn L (k + 1)) : gi L x (k + 1) = gi L x k := by
  show (if x < cn L (k + 1) then _ else _) = _
  rw [if_pos h]
theorem nextGreedy_any (A : Option Addr) (c n g : Nat) (L : List Int) (x : Nat) (w : World) (hP : SysP L) (hn : L.length = n) (hx : 1 ≤ x) (hx2 : x ≤ 1000) (h : IntRow w A L) (hg : w.cell? ⟨g, 0, none⟩ = some (.slice A n c)) :
    Calls Try.prog 42 #[.int .i64 x, .pointer (some ⟨g, 0, none⟩)] w (TellsI (gt L x : Nat) w) := by
  obtain ⟨X, hX⟩ : ∃ X, gt L x = X := ⟨_, rfl⟩
  rw [hX]
  replace hX : Hid (gi L x (n - 1) = X) := by rw [← hn]; exact hX
  have hn6 := hP.1.1
  rw [hn] at hn6
  obtain ⟨p, hp⟩ : ∃ p, n - 1 = p := ⟨_, rfl⟩
  have hpi : (n : Int) - 1 = (p : Int) := by omega
  rw [hp] at hX
  go_enter Try.func42, Try.ntmps42
  go_wp2_with fail
  go_loop [4] (fun i => ∃ k : Nat, k < n ∧ i = .int .i64 k ∧ Hid (gi L x k = X)) (fun i => (intOf i).toNat)
  case atStart => exact ⟨p, by omega, rfl, hX⟩
  case round =>
    clear hX hpi hp
    obtain ⟨k, hk, rfl, hX⟩ := hrel
    obtain ⟨y, rfl, -, hy⟩ := h k (by omega)
    obtain ⟨a1, a2, a3⟩ := hP.coin (k := k) (by omega)
    rw [a1] at hy
    have hki : (k : Int) < n := by omega
    by_cases hc : x < cn L k
    · have h0 : k ≠ 0 := fun e => by rw [e, hP.first] at hc; omega
      obtain ⟨j, hj⟩ : ∃ j, k = j + 1 := ⟨k - 1, by omega⟩
      have hX2 : Hid (gi L x j = X) := by
        have e := hX.out
        rw [hj] at e hc
        rw [gi_down hc] at e
        exact e
      have hji : (k : Int) - 1 = (j : Int) := by omega
      have hjn : j < n := by omega
      have hjk : j < k := by omega
      clear a1 hX hP h hj
      generalize cn L k = v at hy hc a2 a3
      go_wp2_with fail
      go_round
      case rel => exact ⟨j, hjn, by first | rfl | rw [hji], hX2⟩
      case measure => simp [intOf]; omega
    · obtain rfl : X = k := by
        have e := hX.out
        rw [gi_here k (by omega)] at e
        exact e.symm
      clear a1 hX hP h
      generalize cn L X = v at hy hc a2 a3
      go_wp2_with fail
      go_ret
      exact ⟨rfl, rfl⟩

theorem nextSparing_any (B : Option Addr) (d M g : Nat) (T : List Int) (x z : Nat) (w : World) (hT : T.length = M) (hx : x < M) (hz : T.getD x 0 = (z : Int)) (h : IntRow w B T) (hg : w.cell? ⟨g, 0, none⟩ = some (.slice B M d)) :
    Calls Try.prog 43 #[.int .i64 x, .pointer (some ⟨g, 0, none⟩)] w (TellsI (z : Nat) w) := by
  obtain ⟨y, rfl, -, hy⟩ := h x (by omega)
  rw [hz] at hy
  have hxi : (x : Int) < M := by omega
  clear h hz
  go_enter Try.func43, Try.ntmps43
  go_wp2_with fail
  go_ret
  exact ⟨rfl, rfl⟩

set_option maxHeartbeats 1000000 in
theorem implPayGreedy_any (A : Option Addr) (c n g : Nat) (L : List Int) (r : Nat) (f : Nat → Nat) (w : World) (hP : SysP L) (hn : L.length = n) (hr : r ≤ 1000) (h : IntRow w A L) (hF : Chooses L f r)
    (hC : ∀ wr, Below w.heap.size w wr → ∀ x : Nat, 1 ≤ x → x ≤ r → Calls Try.prog 42 #[.int .i64 x, .pointer (some ⟨g, 0, none⟩)] wr (TellsI (f x : Nat) wr)) :
    Calls Try.prog 31 #[.slice A n c, .int .i64 r, ByFn 42 g] w (Copied (pays L f r r (List.replicate L.length 0)) w) := by
  obtain ⟨i0, hi, hz0, hz1, hz2⟩ := info_parts Try.infoIntT
  obtain ⟨X, hX⟩ : ∃ X, pays L f r r (List.replicate L.length 0) = X := ⟨_, rfl⟩
  rw [hX]
  rw [hn] at hX
  replace hX := Lib.hid hX
  have hXl : X.length = n := by rw [← hX.out, pays_length, List.length_replicate]
  have hn6 := hP.1.1
  rw [hn] at hn6
  unfold ByFn
  go_enter Try.func31, Try.ntmps31
  go_wp2_with (at_make; refine wpList_make_full _ rfl _ _ 24 rfl w.heap.size 3 i0 (.int .i64 0) 1 Try.underlying24 hi hz0 hz1 .i64 .i64 _ _ n rfl rfl rfl rfl (by rw [hz2]; omega) (by unfold maxLen; omega) (Nat.le_refl _) ?_; intro w0 hown0 hgrow0; have M1 := (Own.none w).made hown0 hgrow0; clear hown0 hgrow0)
  have hU : ∀ j, 0 ≤ (List.replicate n (0 : Int)).getD j 0 ∧ (List.replicate n (0 : Int)).getD j 0 + r ≤ r := fun j => by
    rw [List.getD_eq_getElem?_getD, List.getElem?_replicate]
    split <;> simp
  have hUl : (List.replicate n (0 : Int)).length = n := List.length_replicate
  go_loopw [8] (fun i wr => ∃ (x : Nat) (U : List Int), x ≤ r ∧ i = .int .i64 x ∧ U.length = n ∧ (∀ j, 0 ≤ U.getD j 0 ∧ U.getD j 0 + x ≤ r) ∧ Hid (pays L f x x U = X) ∧ Own w wr [irow (.slice (some ⟨w.heap.size, 0, none⟩) n n) U]) (fun i _ => (intOf i).toNat)
  case atStart => exact ⟨r, _, Nat.le_refl _, rfl, hUl, hU, hX, M1⟩
  case round =>
    clear M1 hU hUl hX
    obtain ⟨x, U, hx, rfl, hUl, hU, hX, O⟩ := hrel
    by_cases h0 : x = 0
    · subst h0
      obtain rfl : U = X := hX.out
      have hc := O.copied
      clear h hF hC hP O hU hX
      go_wp2_with fail
      go_ret
      exact hc
    · obtain ⟨f1, f2, f3⟩ := hF x (by omega) hx
      have hN := hC wr O.bel x (by omega) hx
      have hst := hX.out
      rw [pays_step hF (by omega) hx] at hst
      replace hst := Lib.hid hst
      obtain ⟨y, rfl, hy0, hy1⟩ := h (f x) f1
      rw [(hP.coin f1).1] at hy1
      have f4 := (hP.coin f1).2.2
      have hu := O.cell hUl (show f x < n by omega)
      have hub := hU (f x)
      obtain ⟨-, hf, O2⟩ := O.store hUl (show f x < n by omega) (U.getD (f x) 0 + 1)
      have hy := (O2.bel.cell (by rw [addr_add_block]; exact hy0)).trans hy1
      replace O2 : Own w (wr.setCell ⟨w.heap.size, f x, none⟩ (.int .i64 (U.getD (f x) 0 + 1))) [irow (.slice (some ⟨w.heap.size, 0, none⟩) n n) (addAt U (f x))] := O2
      have hO := Lib.hid O2
      have hUl2 : Hid ((addAt U (f x)).length = n) := by rw [addAt_length]; exact hUl
      have hU2 : Hid (∀ j, 0 ≤ (addAt U (f x)).getD j 0 ∧ (addAt U (f x)).getD j 0 + (x - cn L (f x) : Nat) ≤ r) := fun j => by
        have := hU j
        rw [addAt_get (by omega)]
        split <;> omega
      have hxi : (0 : Int) < x := by omega
      obtain ⟨x2, hx2⟩ : ∃ x2, x - cn L (f x) = x2 := ⟨_, rfl⟩
      have hx2i : (x : Int) - cn L (f x) = (x2 : Int) := by omega
      have hfi : (f x : Int) < n := by omega
      rw [hx2] at hst hU2
      replace hx2 : x2 < x := by omega
      clear O O2 h hF hC hP hX hy1 hU h0 hXl
      generalize addAt U (f x) = U2 at hst hO hUl2 hU2
      generalize U.getD (f x) 0 = u at hu hub hy hO
      generalize cn L (f x) = cv at hx2i f2 f3 f4 hy
      generalize f x = i at hN f1 hu hf hy hO hfi
      go_wp2_with fail
      refine hN.mono ?_
      clear hN
      rintro e w1 ⟨rfl, rfl⟩
      go_wp2_with fail
      go_roundw
      case rel => exact ⟨x2, U2, by omega, by first | rfl | rw [hx2i], hUl2.out, hU2.out, hst, hO.out⟩
      case measure => simp [intOf]; omega

set_option maxHeartbeats 1000000 in
theorem implPaySparing_any (A : Option Addr) (c n g : Nat) (L : List Int) (r : Nat) (f : Nat → Nat) (w : World) (hP : SysP L) (hn : L.length = n) (hr : r ≤ 1000) (h : IntRow w A L) (hF : Chooses L f r)
    (hC : ∀ wr, Below w.heap.size w wr → ∀ x : Nat, 1 ≤ x → x ≤ r → Calls Try.prog 43 #[.int .i64 x, .pointer (some ⟨g, 0, none⟩)] wr (TellsI (f x : Nat) wr)) :
    Calls Try.prog 31 #[.slice A n c, .int .i64 r, ByFn 43 g] w (Copied (pays L f r r (List.replicate L.length 0)) w) := by
  obtain ⟨i0, hi, hz0, hz1, hz2⟩ := info_parts Try.infoIntT
  obtain ⟨X, hX⟩ : ∃ X, pays L f r r (List.replicate L.length 0) = X := ⟨_, rfl⟩
  rw [hX]
  rw [hn] at hX
  replace hX := Lib.hid hX
  have hXl : X.length = n := by rw [← hX.out, pays_length, List.length_replicate]
  have hn6 := hP.1.1
  rw [hn] at hn6
  unfold ByFn
  go_enter Try.func31, Try.ntmps31
  go_wp2_with (at_make; refine wpList_make_full _ rfl _ _ 24 rfl w.heap.size 3 i0 (.int .i64 0) 1 Try.underlying24 hi hz0 hz1 .i64 .i64 _ _ n rfl rfl rfl rfl (by rw [hz2]; omega) (by unfold maxLen; omega) (Nat.le_refl _) ?_; intro w0 hown0 hgrow0; have M1 := (Own.none w).made hown0 hgrow0; clear hown0 hgrow0)
  have hU : ∀ j, 0 ≤ (List.replicate n (0 : Int)).getD j 0 ∧ (List.replicate n (0 : Int)).getD j 0 + r ≤ r := fun j => by
    rw [List.getD_eq_getElem?_getD, List.getElem?_replicate]
    split <;> simp
  have hUl : (List.replicate n (0 : Int)).length = n := List.length_replicate
  go_loopw [8] (fun i wr => ∃ (x : Nat) (U : List Int), x ≤ r ∧ i = .int .i64 x ∧ U.length = n ∧ (∀ j, 0 ≤ U.getD j 0 ∧ U.getD j 0 + x ≤ r) ∧ Hid (pays L f x x U = X) ∧ Own w wr [irow (.slice (some ⟨w.heap.size, 0, none⟩) n n) U]) (fun i _ => (intOf i).toNat)
  case atStart => exact ⟨r, _, Nat.le_refl _, rfl, hUl, hU, hX, M1⟩
  case round =>
    clear M1 hU hUl hX
    obtain ⟨x, U, hx, rfl, hUl, hU, hX, O⟩ := hrel
    by_cases h0 : x = 0
    · subst h0
      obtain rfl : U = X := hX.out
      have hc := O.copied
      clear h hF hC hP O hU hX
      go_wp2_with fail
      go_ret
      exact hc
    · obtain ⟨f1, f2, f3⟩ := hF x (by omega) hx
      have hN := hC wr O.bel x (by omega) hx
      have hst := hX.out
      rw [pays_step hF (by omega) hx] at hst
      replace hst := Lib.hid hst
      obtain ⟨y, rfl, hy0, hy1⟩ := h (f x) f1
      rw [(hP.coin f1).1] at hy1
      have f4 := (hP.coin f1).2.2
      have hu := O.cell hUl (show f x < n by omega)
      have hub := hU (f x)
      obtain ⟨-, hf, O2⟩ := O.store hUl (show f x < n by omega) (U.getD (f x) 0 + 1)
      have hy := (O2.bel.cell (by rw [addr_add_block]; exact hy0)).trans hy1
      replace O2 : Own w (wr.setCell ⟨w.heap.size, f x, none⟩ (.int .i64 (U.getD (f x) 0 + 1))) [irow (.slice (some ⟨w.heap.size, 0, none⟩) n n) (addAt U (f x))] := O2
      have hO := Lib.hid O2
      have hUl2 : Hid ((addAt U (f x)).length = n) := by rw [addAt_length]; exact hUl
      have hU2 : Hid (∀ j, 0 ≤ (addAt U (f x)).getD j 0 ∧ (addAt U (f x)).getD j 0 + (x - cn L (f x) : Nat) ≤ r) := fun j => by
        have := hU j
        rw [addAt_get (by omega)]
        split <;> omega
      have hxi : (0 : Int) < x := by omega
      obtain ⟨x2, hx2⟩ : ∃ x2, x - cn L (f x) = x2 := ⟨_, rfl⟩
      have hx2i : (x : Int) - cn L (f x) = (x2 : Int) := by omega
      have hfi : (f x : Int) < n := by omega
      rw [hx2] at hst hU2
      replace hx2 : x2 < x := by omega
      clear O O2 h hF hC hP hX hy1 hU h0 hXl
      generalize addAt U (f x) = U2 at hst hO hUl2 hU2
      generalize U.getD (f x) 0 = u at hu hub hy hO
      generalize cn L (f x) = cv at hx2i f2 f3 f4 hy
      generalize f x = i at hN f1 hu hf hy hO hfi
      go_wp2_with fail
      refine hN.mono ?_
      clear hN
      rintro e w1 ⟨rfl, rfl⟩
      go_wp2_with fail
      go_roundw
      case rel => exact ⟨x2, U2, by omega, by first | rfl | rw [hx2i], hUl2.out, hU2.out, hst, hO.out⟩
      case measure => simp [intOf]; omega
end Go.Proofs.Ytjjedicjaojkcaa
