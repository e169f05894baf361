/-
  The contracts of the program's weighing, counting, fairness and turning. Nothing but new memory is written.
-/
import Derived.Test.YtacfblhmijabgaaImplCoins
import Derived.Test.YtacfblhmijabgaaTurn
namespace Go.Proofs.Ytacfblhmijabgaa
open Go.ChangeShapes Go.WideShapes Go.ChangeAt Go.RowKit Go.PlainAid

theorem implHeavier_any (a b : Int) (w : World) : Calls Try.prog 32 #[.int .i64 a, .int .i64 b] w fun e w' => e = .returned (.int .i64 (signI (a - b))) ∧ w = w' := by
  by_cases h1 : b < a
  · have e : signI (a - b) = 1 := by unfold signI; rw [if_pos (by omega)]
    rw [e]
    clear e
    go_enter Try.func32, Try.ntmps32
    go_wp2
    go_ret
    exact ⟨rfl, rfl⟩
  · by_cases h2 : a < b
    · have e : signI (a - b) = -1 := by unfold signI; rw [if_neg (by omega), if_pos (by omega)]
      rw [e]
      clear e
      go_enter Try.func32, Try.ntmps32
      go_wp2
      go_ret
      exact ⟨rfl, rfl⟩
    · have e : signI (a - b) = 0 := by unfold signI; rw [if_neg (by omega), if_neg (by omega)]
      rw [e]
      clear e
      go_enter Try.func32, Try.ntmps32
      go_wp2
      go_ret
      exact ⟨rfl, rfl⟩

/-- What lies in the pan x, over the first k coins. -/
def panTo (W L : List Int) (x : Int) : Nat → Int
  | 0 => 0
  | k + 1 => panTo W L x k + if L.getD k 0 = x then W.getD k 0 else 0
theorem panTo_le {W L : List Int} (x : Int) (hW : ∀ j, j < W.length → 0 ≤ W.getD j 0 ∧ W.getD j 0 ≤ 10000) : ∀ k, k ≤ W.length → 0 ≤ panTo W L x k ∧ panTo W L x k ≤ 10000 * (k : Int)
  | 0, _ => by simp [panTo]
  | k + 1, h => by
    have ih := panTo_le (L := L) x hW k (by omega)
    have a := hW k (by omega)
    show 0 ≤ panTo W L x k + (if L.getD k 0 = x then W.getD k 0 else 0) ∧ panTo W L x k + (if L.getD k 0 = x then W.getD k 0 else 0) ≤ 10000 * ((k + 1 : Nat) : Int)
    split <;> omega
theorem panTo_dot {W L : List Int} (hL : ∀ j, j < L.length → -1 ≤ L.getD j 0 ∧ L.getD j 0 ≤ 1) : ∀ k, k ≤ L.length → panTo W L 1 k - panTo W L (-1) k = dotTo W L k
  | 0, _ => rfl
  | k + 1, h => by
    have ih := panTo_dot (W := W) hL k (by omega)
    have a := hL k (by omega)
    show (panTo W L 1 k + if L.getD k 0 = 1 then W.getD k 0 else 0) - (panTo W L (-1) k + if L.getD k 0 = -1 then W.getD k 0 else 0) = dotTo W L k + L.getD k 0 * W.getD k 0
    rcases (show L.getD k 0 = -1 ∨ L.getD k 0 = 0 ∨ L.getD k 0 = 1 by omega) with e | e | e <;> rw [e] <;> simp <;> omega

theorem implWeigh_any (A A' : Option Addr) (c c' n n' : Nat) (W L : List Int) (w : World) (hn : W.length = n) (hn' : L.length = n') (hm : n ≤ 1000000000) (hm' : n' ≤ 1000000000) (h : IntRow w A W) (h' : IntRow w A' L) :
    Calls Try.prog 12 #[.slice A n c, .slice A' n' c'] w (SaysIB (weighI W L) (weighB W L) w) := by
  have hC := implCoins_any A c n W w hn hm h
  cases hc : coinsB W
  · have hend : ∀ w', Below w.heap.size w w' → SaysIB (weighI W L) (weighB W L) w (.returned (.tuple #[.int .i64 0, .bool false])) w' := fun w' b => ⟨by unfold weighI weighB; rw [hc]; rfl, b⟩
    rw [hc] at hC
    clear hc h h' hn hn'
    go_enter Try.func12, Try.ntmps12
    go_wp2_with fail
    refine hC.mono ?_
    rintro e w1 ⟨rfl, b1⟩
    replace hend := hend _ b1
    clear hC
    go_wp2_with fail
    go_ret2
    exact hend
  · rw [hc] at hC
    have hLo := fun W => implLoad_any (n : Int) A' c' n' L W hn' hm'
    cases hl : loadB (n : Int) L
    · have hend : ∀ w', Below w.heap.size w w' → SaysIB (weighI W L) (weighB W L) w (.returned (.tuple #[.int .i64 0, .bool false])) w' := fun w' b => ⟨by unfold weighI weighB; rw [hc, hn, hl]; rfl, b⟩
      rw [hl] at hLo
      clear hc hn hn' hl
      go_enter Try.func12, Try.ntmps12
      go_wp2_with fail
      refine hC.mono ?_
      rintro e w1 ⟨rfl, b1⟩
      replace hend := hend _ b1
      have hL1 := hLo w1 (h'.keep b1)
      clear hC h h' hLo
      go_wp2_with fail
      refine hL1.mono ?_
      rintro e w2 ⟨rfl, rfl⟩
      clear hL1
      go_wp2_with fail
      go_ret2
      exact hend
    · have hcc : allIn 0 10000 W = true ∧ n ≤ 12 := by
        unfold coinsB at hc
        simp only [Bool.and_eq_true, decide_eq_true_eq] at hc
        exact ⟨hc.1, by omega⟩
      have hll : signsB L = true ∧ n' = n := by
        unfold loadB at hl
        simp only [Bool.and_eq_true, decide_eq_true_eq] at hl
        exact ⟨hl.2, by omega⟩
      obtain ⟨hll, rfl⟩ := hll
      have hW := allIn_iff.1 hcc.1
      have hL := allIn_iff.1 hll
      have hlim := hcc.2
      have hS := implHeavier_any (panTo W L 1 n') (panTo W L (-1) n')
      have hend : ∀ w', Below w.heap.size w w' → SaysIB (weighI W L) (weighB W L) w (.returned (.tuple #[.int .i64 (signI (dot W L)), .bool true])) w' := fun w' b => ⟨by unfold weighI weighB; rw [hc, hn, hl]; rfl, b⟩
      have hd : dot W L = panTo W L 1 n' - panTo W L (-1) n' := by unfold dot; rw [hn', panTo_dot hL n' (by omega)]
      rw [hd] at hend
      rw [hl] at hLo
      clear hc hl hll hcc hd
      go_enter Try.func12, Try.ntmps12
      go_wp2_with fail
      refine hC.mono ?_
      rintro e w1 ⟨rfl, b1⟩
      have hL1 := hLo w1 (h'.keep b1)
      have r := h.keep b1
      have r' := h'.keep b1
      clear hC h h' hLo
      go_wp2_with fail
      refine hL1.mono ?_
      rintro e w2 ⟨rfl, rfl⟩
      clear hL1
      go_wp2_with fail
      go_loopw [6, 7, 22] (fun a b i wr => ∃ k : Nat, k ≤ n' ∧ i = .int .i64 k ∧ a = .int .i64 (panTo W L 1 k) ∧ b = .int .i64 (panTo W L (-1) k) ∧ w1 = wr) (fun _ _ i _ => n' - (intOf i).toNat)
      case atStart => exact ⟨0, by omega, rfl, rfl, rfl, rfl⟩
      case round =>
        obtain ⟨k, hk, rfl, rfl, rfl, rfl⟩ := hrel
        by_cases hlt : k < n'
        · obtain ⟨x, rfl, -, hx⟩ := r k (by omega)
          obtain ⟨y, rfl, -, hy⟩ := r' k (by omega)
          have l1 := panTo_le (L := L) 1 hW k (by omega)
          have l2 := panTo_le (L := L) (-1) hW k (by omega)
          have a := hW k (by omega)
          have b := hL k (by omega)
          have e1 : panTo W L 1 (k + 1) = panTo W L 1 k + if L.getD k 0 = 1 then W.getD k 0 else 0 := rfl
          have e2 : panTo W L (-1) (k + 1) = panTo W L (-1) k + if L.getD k 0 = -1 then W.getD k 0 else 0 := rfl
          clear hend hS hW hL r r'
          generalize W.getD k 0 = u at hx e1 e2 a
          generalize L.getD k 0 = v at hy e1 e2 b
          generalize panTo W L 1 k = p at l1 e1
          generalize panTo W L (-1) k = q at l2 e2
          rcases (show v = 1 ∨ v = -1 ∨ v = 0 by omega) with rfl | rfl | rfl
          · rw [if_pos rfl] at e1
            rw [if_neg (by decide)] at e2
            go_wp2
            go_roundw
            case rel => exact ⟨k + 1, by omega, by go_num, by rw [e1], by rw [e2, Int.add_zero], by first | rfl | trivial⟩
            case measure => simp [intOf]; omega
          · rw [if_neg (by decide)] at e1
            rw [if_pos rfl] at e2
            go_wp2
            go_roundw
            case rel => exact ⟨k + 1, by omega, by go_num, by rw [e1, Int.add_zero], by rw [e2], by first | rfl | trivial⟩
            case measure => simp [intOf]; omega
          · rw [if_neg (by decide)] at e1
            rw [if_neg (by decide)] at e2
            go_wp2
            go_roundw
            case rel => exact ⟨k + 1, by omega, by go_num, by rw [e1, Int.add_zero], by rw [e2, Int.add_zero], by first | rfl | trivial⟩
            case measure => simp [intOf]; omega
        · obtain rfl : k = n' := by omega
          have he := hend _ b1
          have hS1 := hS w1
          clear hend hS hW hL r r' b1
          generalize panTo W L 1 k = p at hS1 he
          generalize panTo W L (-1) k = q at hS1 he
          go_wp2_with fail
          refine hS1.mono ?_
          rintro e w3 ⟨rfl, rfl⟩
          clear hS1
          go_wp2
          go_ret2
          exact he

/-- Two ints are answered, the world is as it was. -/
def TellsII (x y : Int) (w : World) (e : Ending) (w' : World) : Prop := e = .returned (.tuple #[.int .i64 x, .int .i64 y]) ∧ w = w'

theorem implCount_any (A : Option Addr) (c n : Nat) (L : List Int) (w : World) (hn : L.length = n) (hm : n ≤ 1000000000) (h : IntRow w A L) :
    Calls Try.prog 14 #[.slice A n c] w (TellsII (cnt L 1) (cnt L (-1)) w) := by
  have hend : TellsII (cnt L 1) (cnt L (-1)) w (.returned (.tuple #[.int .i64 (cntTo L 1 n), .int .i64 (cntTo L (-1) n)])) w := ⟨by unfold cnt; rw [hn], rfl⟩
  go_enter Try.func14, Try.ntmps14
  go_wp2
  go_loopw [4, 5, 10] (fun a b i wr => ∃ k : Nat, k ≤ n ∧ i = .int .i64 k ∧ a = .int .i64 (cntTo L 1 k) ∧ b = .int .i64 (cntTo L (-1) k) ∧ w = wr) (fun _ _ i _ => n - (intOf i).toNat)
  case atStart => exact ⟨0, by omega, rfl, rfl, rfl, rfl⟩
  case round =>
    obtain ⟨k, hk, rfl, rfl, rfl, rfl⟩ := hrel
    by_cases hlt : k < n
    · obtain ⟨x, rfl, -, hx⟩ := h k (by omega)
      have l1 := cntTo_le L 1 k
      have l2 := cntTo_le L (-1) k
      have e1 : cntTo L 1 (k + 1) = cntTo L 1 k + if L.getD k 0 = 1 then 1 else 0 := rfl
      have e2 : cntTo L (-1) (k + 1) = cntTo L (-1) k + if L.getD k 0 = -1 then 1 else 0 := rfl
      clear h hend
      generalize L.getD k 0 = z at hx e1 e2
      generalize cntTo L 1 k = p at l1 e1
      generalize cntTo L (-1) k = q at l2 e2
      by_cases z1 : z = 1
      · subst z1
        rw [if_pos rfl] at e1
        rw [if_neg (by decide)] at e2
        go_wp2
        go_roundw
        case rel => exact ⟨k + 1, by omega, by go_num, by rw [e1], by rw [e2, Int.add_zero], by first | rfl | trivial⟩
        case measure => simp [intOf]; omega
      · by_cases z2 : z = -1
        · subst z2
          rw [if_neg (by decide)] at e1
          rw [if_pos rfl] at e2
          go_wp2
          go_roundw
          case rel => exact ⟨k + 1, by omega, by go_num, by rw [e1, Int.add_zero], by rw [e2], by first | rfl | trivial⟩
          case measure => simp [intOf]; omega
        · rw [if_neg z1] at e1
          rw [if_neg z2] at e2
          go_wp2
          go_roundw
          case rel => exact ⟨k + 1, by omega, by go_num, by rw [e1, Int.add_zero], by rw [e2, Int.add_zero], by first | rfl | trivial⟩
          case measure => simp [intOf]; omega
    · obtain rfl : k = n := by omega
      clear h
      go_wp2
      go_ret2
      exact hend

theorem implFair_any (m : Int) (A : Option Addr) (c n : Nat) (L : List Int) (w : World) (hn : L.length = n) (hm : n ≤ 1000000000) (h : IntRow w A L) :
    Calls Try.prog 15 #[.int .i64 m, .slice A n c] w (SaysB (fairB m L) w) := by
  have hC := implCount_any A c n L w hn hm h
  have hLo := implLoad_any m A c n L w hn hm h
  have hend : ∀ b, b = fairB m L → SaysB (fairB m L) w (.returned (.bool b)) w := fun b e => ⟨by rw [e], Below.refl _ _⟩
  clear h hn
  unfold fairB at hend ⊢
  generalize loadB m L = o at hLo hend
  generalize cnt L 1 = p at hC hend
  generalize cnt L (-1) = q at hC hend
  cases o
  · have he := hend false rfl
    clear hend hC
    go_enter Try.func15, Try.ntmps15
    go_wp2_with fail
    refine hLo.mono ?_
    rintro e w1 ⟨rfl, rfl⟩
    clear hLo
    go_wp2_with fail
    go_ret
    exact he
  · by_cases h1 : p = q
    · have he := hend (decide (0 < p)) (by rw [decide_eq_true h1]; rfl)
      subst h1
      clear hend
      go_enter Try.func15, Try.ntmps15
      go_wp2_with fail
      refine hLo.mono ?_
      rintro e w1 ⟨rfl, rfl⟩
      clear hLo
      go_wp2_with fail
      refine hC.mono ?_
      rintro e w2 ⟨rfl, rfl⟩
      clear hC
      go_wp2_with fail
      go_ret
      exact he
    · have he := hend false (by rw [decide_eq_false h1]; rfl)
      clear hend
      go_enter Try.func15, Try.ntmps15
      go_wp2_with fail
      refine hLo.mono ?_
      rintro e w1 ⟨rfl, rfl⟩
      clear hLo
      go_wp2_with fail
      refine hC.mono ?_
      rintro e w2 ⟨rfl, rfl⟩
      clear hC
      go_wp2_with fail
      go_ret
      exact he

def negTo (L : List Int) (k : Nat) : List Value := ints (negs (L.take k)) ++ List.replicate (L.length - k) (.int .i64 0)
theorem negTo_len {L : List Int} {k : Nat} (hk : k ≤ L.length) : (negTo L k).length = L.length := by
  unfold negTo
  rw [List.length_append, ints_length, negs_length, List.length_replicate, List.length_take]; omega
theorem negTo_set {L : List Int} {k : Nat} (hk : k < L.length) : (negTo L k).set k (.int .i64 (-(L.getD k 0))) = negTo L (k + 1) := by
  unfold negTo
  have hl : (ints (negs (L.take k))).length = k := by rw [ints_length, negs_length, List.length_take]; omega
  rw [List.set_append_right _ _ (by omega), hl, Nat.sub_self]
  obtain ⟨m, hm⟩ : ∃ m, L.length - k = m + 1 := ⟨L.length - k - 1, by omega⟩
  have hm2 : L.length - (k + 1) = m := by omega
  rw [hm, hm2, List.replicate_succ, List.set_cons_zero, negs_take hk, ints_append, List.append_assoc]; rfl
theorem negTo_all (L : List Int) : negTo L L.length = ints (negs L) := by
  unfold negTo
  rw [Nat.sub_self, List.replicate_zero, List.append_nil, List.take_length]
theorem neg_rel {w wr : World} {k g c n : Nat} {L : List Int} (hn : L.length = n) (hk : k < n) (hown : wr.ownsRow w.heap.size 3 1 (.slice (some ⟨g, 0, none⟩) n c) n (negTo L k)) (hb : Below w.heap.size w wr) :
    (∃ u, wr.cell? ⟨g, k, none⟩ = some u) ∧ wr.frozen? ⟨g, k, none⟩ = false ∧ (wr.setCell ⟨g, k, none⟩ (.int .i64 (-(L.getD k 0)))).ownsRow w.heap.size 3 1 (.slice (some ⟨g, 0, none⟩) n c) n (negTo L (k + 1)) ∧ Below w.heap.size w (wr.setCell ⟨g, k, none⟩ (.int .i64 (-(L.getD k 0)))) := by
  obtain ⟨s1, s2⟩ := hown.stored k (.int .i64 (-(L.getD k 0)))
  rw [negTo_set (by omega)] at s1
  exact ⟨⟨_, (hown.cellAt k (by omega)).trans (List.getElem?_eq_getElem (by rw [negTo_len (by omega)]; omega))⟩, hown.frozenAt k, s1, hb.setCell (hown.lt g rfl).1 _⟩

theorem implTurn_any (A : Option Addr) (c n : Nat) (L : List Int) (w : World) (hn : L.length = n) (hm : n ≤ 1048576) (h : IntRow w A L) :
    Calls Try.prog 13 #[.slice A n c] w (Copied (turnL L) w) := by
  obtain ⟨i0, hi, hz0, hz1, hz2⟩ := info_parts Try.infoIntT
  have hS := implSigns_any A c n L w hn (by omega) h
  cases hs : signsB L
  · rw [hs] at hS
    have he : turnL L = [] := by unfold turnL; rw [hs]; rfl
    rw [he]
    have hend : Copied [] w (.returned (.slice none 0 0)) w := ⟨none, 0, rfl, ⟨rfl, .inl ⟨rfl, rfl⟩⟩, Below.refl _ _⟩
    clear h he hn
    go_enter Try.func13, Try.ntmps13
    go_wp2_with fail
    refine hS.mono ?_
    rintro e w' ⟨rfl, rfl⟩
    clear hS
    go_wp2_with fail
    go_ret
    exact hend
  · rw [hs] at hS
    have he : turnL L = negs L := by unfold turnL; rw [hs]; rfl
    rw [he]
    have hL := allIn_iff.1 hs
    clear he hs
    go_enter Try.func13, Try.ntmps13
    go_wp2_with fail
    refine hS.mono ?_
    rintro e w' ⟨rfl, rfl⟩
    clear hS
    go_wp2_with (at_make; refine wpList_make_full _ rfl _ _ 24 rfl w.heap.size 3 i0 (.int .i64 0) 1 Try.underlying24 hi hz0 hz1 .i64 .i64 _ _ n rfl rfl rfl rfl (by rw [hz2]; omega) (by unfold maxLen; omega) (Nat.le_refl _) ?_; intro w0 hown0 hgrow0)
    have hbel0 : Below w.heap.size w w0 := (Below.refl _ _).grown hgrow0 (Nat.le_refl _) (fun k e => by cases e)
    have hown1 : w0.ownsRow w.heap.size 3 1 (.slice (some ⟨w.heap.size, 0, none⟩) n n) n (negTo L 0) := by
      have e : (madeCells (Value.int .i64 0).cells (n * 1)).toList = negTo L 0 := by
        show (madeCells #[Value.int .i64 0] (n * 1)).toList = _
        rw [toList_madeCells_one, Nat.mul_one]
        unfold negTo
        rw [Nat.sub_zero, hn]; rfl
      rw [← e]
      exact hown0
    clear hgrow0 hown0
    go_loopw [14] (fun i wr => ∃ k : Nat, k ≤ n ∧ i = .int .i64 k ∧ wr.ownsRow w.heap.size 3 1 (.slice (some ⟨w.heap.size, 0, none⟩) n n) n (negTo L k) ∧ Below w.heap.size w wr) (fun i _ => n - (intOf i).toNat)
    case atStart => exact ⟨0, by omega, rfl, hown1, hbel0⟩
    case round =>
      clear hown1 hbel0
      obtain ⟨k, hk, rfl, hown, hbel⟩ := hrel
      by_cases hlt : k < n
      · obtain ⟨⟨u, hc⟩, hf, h1, h2⟩ := neg_rel hn hlt hown hbel
        obtain ⟨x, rfl, hx, hx2⟩ := h k (by omega)
        have hx3 : wr.cell? (x.add k) = some (.int .i64 (L.getD k 0)) := (hbel.cell (by rw [addr_add_block]; exact hx)).trans hx2
        have hz := hL k (by omega)
        clear hown hbel hx2 h hL
        generalize L.getD k 0 = z at h1 h2 hx3 hz
        go_wp2
        go_roundw
        case rel => exact ⟨k + 1, by omega, by go_num, h1, h2⟩
        case measure => simp [intOf]; omega
      · obtain rfl : k = n := by omega
        subst hn
        rw [negTo_all] at hown
        have hend : Copied (negs L) w (.returned (.slice (some ⟨w.heap.size, 0, none⟩) L.length L.length)) wr := own_copied (L := negs L) (negs_length L) hown hbel
        clear hown hbel h hL
        go_wp2
        go_ret
        exact hend
end Go.Proofs.Ytacfblhmijabgaa
