/-
  The contracts of the program's functions on ternary digits. Only new memory is written. No condition but that slices are not longer than 1048576.
-/
import Derived.Test.YthedoijceeeinaaFinTern
import Derived.Test.YthedoijceeeinaaImplDig
import Derived.Test.YthedoijceeeinaaImplTurn
import Derived.Deep.WholeRow
namespace Go.Proofs.Ythedoijceeeinaa
open Go.ChangeShapes Go.WideShapes Go.ChangeAt Go.RowKit Go.PlainAid

def digitsB (L : List Int) : Bool := decide (L.length ≤ 10) && signsB L

theorem areDigits_any (A : Option Addr) (c n : Nat) (L : List Int) (w : World) (hn : L.length = n) (hm : n ≤ 1000000000) (h : IntRow w A L) :
    Calls Try.prog 28 #[.slice A n c] w (Tells (digitsB L) w) := by
  have hS := implSigns_any A c n L w hn hm h
  unfold digitsB
  clear h
  by_cases hl : n ≤ 10
  · rw [hn, decide_eq_true hl, Bool.true_and]
    have hli : (n : Int) ≤ 10 := by omega
    generalize signsB L = s at hS
    clear hn hm hl
    go_enter Try.func28, Try.ntmps28
    go_wp2_with fail
    refine hS.mono ?_
    rintro e w' ⟨rfl, rfl⟩
    clear hS
    go_wp2_with fail
    go_ret
    exact ⟨rfl, rfl⟩
  · rw [hn, decide_eq_false hl, Bool.false_and]
    have hli : ¬ (n : Int) ≤ 10 := by omega
    clear hS hn hm hl
    go_enter Try.func28, Try.ntmps28
    go_wp2_with fail
    go_ret
    exact ⟨rfl, rfl⟩

theorem implValue_any (A : Option Addr) (c n : Nat) (L : List Int) (w : World) (hn : L.length = n) (hm : n ≤ 1000000000) (h : IntRow w A L) :
    Calls Try.prog 14 #[.slice A n c] w (TellsI (valueI L) w) := by
  have hS := areDigits_any A c n L w hn hm h
  cases hs : digitsB L
  · have e : valueI L = 0 := by
      unfold valueI
      rw [if_neg]
      rintro ⟨h1, h2⟩
      unfold digitsB at hs
      rw [h1, decide_eq_true h2] at hs
      cases hs
    rw [e]
    rw [hs] at hS
    clear e hs h hn
    go_enter Try.func14, Try.ntmps14
    go_wp2_with fail
    refine hS.mono ?_
    rintro e w1 ⟨rfl, rfl⟩
    clear hS
    go_wp2_with fail
    go_ret
    exact ⟨rfl, rfl⟩
  · have hs2 : L.length ≤ 10 ∧ signsB L = true := by
      unfold digitsB at hs
      simpa using hs
    have e : valueI L = valL (L.drop 0) := by unfold valueI; rw [if_pos ⟨hs2.2, hs2.1⟩, List.drop_zero]
    rw [e]
    have hz := signs_mem hs2.2
    have hd := allIn_iff.1 hs2.2
    rw [hs] at hS
    have hl : n ≤ 10 := by omega
    clear e hs hm hs2
    go_enter Try.func14, Try.ntmps14
    go_wp2_with fail
    refine hS.mono ?_
    rintro e w1 ⟨rfl, rfl⟩
    clear hS
    go_wp2_with fail
    go_loopw [3, 4] (fun s i wr => ∃ m : Nat, m ≤ n ∧ i = .int .i64 ((m : Int) - 1) ∧ s = .int .i64 (valL (L.drop m)) ∧ w = wr) (fun _ i _ => (intOf i + 1).toNat)
    case atStart => exact ⟨n, by omega, rfl, by rw [← hn, List.drop_length]; rfl, rfl⟩
    case round =>
      obtain ⟨m, hk, rfl, rfl, rfl⟩ := hrel
      rcases m with _ | m
      · clear h hn hz hd
        have hend : TellsI (valL (L.drop 0)) w (.returned (.int .i64 (valL (L.drop 0)))) w := ⟨rfl, rfl⟩
        go_wp2
        go_ret
        exact hend
      · obtain ⟨x, rfl, -, hx⟩ := h m (by omega)
        have e1 : valL (L.drop m) = L.getD m 0 + 3 * valL (L.drop (m + 1)) := by rw [drop_get (by omega)]; rfl
        have b := valL_le (L := L.drop (m + 1)) fun z hy => hz z (List.mem_of_mem_drop hy)
        have t := top3_le (f := (L.drop (m + 1)).length) (by rw [List.length_drop]; omega)
        have d := hd m (by omega)
        have b1 : -29524 ≤ valL (L.drop (m + 1)) ∧ valL (L.drop (m + 1)) ≤ 29524 := by omega
        have hi : ((m + 1 : Nat) : Int) - 1 = m := by omega
        rw [hi]
        clear h hn hz b t hi hd
        generalize L.getD m 0 = z at hx e1 d
        generalize valL (L.drop (m + 1)) = y at e1 b1
        go_wp2
        go_roundw
        case rel => exact ⟨m, by omega, rfl, by rw [e1, Int.add_comm], by first | rfl | trivial⟩
        case measure => simp [intOf]

theorem implNegate_any (A : Option Addr) (c n : Nat) (L : List Int) (w : World) (hn : L.length = n) (hm : n ≤ 1048576) (h : IntRow w A L) :
    Calls Try.prog 15 #[.slice A n c] w (Copied (negL L) w) := by
  have hS := areDigits_any A c n L w hn (by omega) h
  have hT := implTurn_any A c n L w hn hm h
  clear h
  cases hs : digitsB L
  · have e : negL L = [] := by
      unfold digitsB at hs
      unfold negL turnL
      split
      · next h => rw [decide_eq_true h, Bool.true_and] at hs; rw [hs]; rfl
      · rfl
    rw [e]
    rw [hs] at hS
    have hend : Copied [] w (.returned (.slice none 0 0)) w := ⟨none, 0, rfl, ⟨rfl, .inl ⟨rfl, rfl⟩⟩, Below.refl _ _⟩
    clear e hs hT hn
    go_enter Try.func15, Try.ntmps15
    go_wp2_with fail
    refine hS.mono ?_
    rintro e w1 ⟨rfl, rfl⟩
    clear hS
    go_wp2_with fail
    go_ret
    exact hend
  · have e : negL L = turnL L := by
      unfold digitsB at hs
      unfold negL
      rw [if_pos (by simp at hs; omega)]
    rw [e]
    rw [hs] at hS
    clear e hs hn
    generalize turnL L = X at hT
    go_enter Try.func15, Try.ntmps15
    go_wp2_with fail
    refine hS.mono ?_
    rintro e w1 ⟨rfl, rfl⟩
    clear hS
    go_wp2_with fail
    refine hT.mono ?_
    rintro e w1 ⟨Y, d, rfl, o, b⟩
    clear hT
    go_wp2_with fail
    go_ret
    exact ⟨Y, d, rfl, o, b⟩

/-- A place of an array by value. -/
theorem index_ten (L : List Int) (hl : L.length = 10) (k : Nat) (hk : k < 10) (w : World) :
    (Instr.index 37 (.agg (ints L).toArray) (.int .i64 k)).run Try.prog w = .ok (.int .i64 (L.getD k 0)) w := by
  have e := ints_get (L := L) (j := k) (by omega)
  obtain ⟨c0, c1, c2, c3, c4, c5, c6, c7, c8, c9, rfl⟩ := ten_of hl
  have hk5 : k = 0 ∨ k = 1 ∨ k = 2 ∨ k = 3 ∨ k = 4 ∨ k = 5 ∨ k = 6 ∨ k = 7 ∨ k = 8 ∨ k = 9 := by omega
  clear e hl
  rcases hk5 with rfl | rfl | rfl | rfl | rfl | rfl | rfl | rfl | rfl | rfl <;> (clear hk; show (_ : Result Value) = _; kernel_rfl)

theorem cnt_sgn {n x : Int} (hx : ¬ 0 = x) : cntTo (sgn n) x 10 = cnt (digsL n) x := by
  have a : ∀ k, k ≤ (digsL n).length → cntTo (sgn n) x k = cntTo (digsL n) x k := fun k => by
    induction k with
    | zero => exact fun _ => rfl
    | succ k ih =>
      intro h
      show cntTo (sgn n) x k + (if (sgn n).getD k 0 = x then 1 else 0) = cntTo (digsL n) x k + (if (digsL n).getD k 0 = x then 1 else 0)
      rw [ih (by omega), sgn_get]
  have b : ∀ k, cntTo (sgn n) x ((digsL n).length + k) = cnt (digsL n) x := fun k => by
    induction k with
    | zero => exact a _ (Nat.le_refl _)
    | succ k ih =>
      show cntTo (sgn n) x ((digsL n).length + k) + (if (sgn n).getD ((digsL n).length + k) 0 = x then 1 else 0) = _
      rw [ih, sgn_get, List.getD_eq_getElem?_getD, List.getElem?_eq_none (by omega)]
      show cnt (digsL n) x + (if 0 = x then 1 else 0) = _
      rw [if_neg hx, Int.add_zero]
  have h := b (10 - (digsL n).length)
  have hl := digsL_length n
  rwa [show (digsL n).length + (10 - (digsL n).length) = 10 by omega] at h
theorem pows_sgn {n x : Int} (hx : ¬ 0 = x) : powsTo (sgn n) x 10 = powsL (digsL n) x := by
  have a : ∀ k, k ≤ (digsL n).length → powsTo (sgn n) x k = powsTo (digsL n) x k := fun k => by
    induction k with
    | zero => exact fun _ => rfl
    | succ k ih =>
      intro h
      show (if (sgn n).getD k 0 = x then powsTo (sgn n) x k ++ [(3 : Int) ^ k] else powsTo (sgn n) x k) = (if (digsL n).getD k 0 = x then powsTo (digsL n) x k ++ [(3 : Int) ^ k] else powsTo (digsL n) x k)
      rw [ih (by omega), sgn_get]
  have b : ∀ k, powsTo (sgn n) x ((digsL n).length + k) = powsL (digsL n) x := fun k => by
    induction k with
    | zero => exact a _ (Nat.le_refl _)
    | succ k ih =>
      show (if (sgn n).getD ((digsL n).length + k) 0 = x then powsTo (sgn n) x ((digsL n).length + k) ++ [(3 : Int) ^ ((digsL n).length + k)] else powsTo (sgn n) x ((digsL n).length + k)) = _
      rw [ih, sgn_get, List.getD_eq_getElem?_getD, List.getElem?_eq_none (by omega)]
      show (if 0 = x then _ else powsL (digsL n) x) = _
      rw [if_neg hx]
  have h := b (10 - (digsL n).length)
  have hl := digsL_length n
  rwa [show (digsL n).length + (10 - (digsL n).length) = 10 by omega] at h
theorem digsL_signs (n : Int) (k : Nat) : -1 ≤ (sgn n).getD k 0 ∧ (sgn n).getD k 0 ≤ 1 := by
  rw [sgn_get]
  rcases Nat.lt_or_ge k (digsL n).length with h | h
  · have hm : (digsL n).getD k 0 ∈ digsL n := by rw [List.getD_eq_getElem?_getD, List.getElem?_eq_getElem h]; exact List.getElem_mem h
    unfold digsL at hm ⊢
    split at hm
    · rename_i hi
      rw [if_pos hi]
      exact digs_signs 10 n _ hm
    · cases hm
  · rw [List.getD_eq_getElem?_getD, List.getElem?_eq_none h]
    decide

/-- How many of the first k are not 0. -/
def nzTo (S : List Int) : Nat → Int
  | 0 => 0
  | k + 1 => nzTo S k + if S.getD k 0 = 0 then 0 else 1
theorem nzTo_le (S : List Int) : ∀ k, 0 ≤ nzTo S k ∧ nzTo S k ≤ k
  | 0 => by simp [nzTo]
  | k + 1 => by
    have ih := nzTo_le S k
    show 0 ≤ nzTo S k + (if S.getD k 0 = 0 then 0 else 1) ∧ nzTo S k + (if S.getD k 0 = 0 then 0 else 1) ≤ ((k + 1 : Nat) : Int)
    split <;> omega
theorem nz_sgn (n : Int) : ∀ k, nzTo (sgn n) k = cntTo (sgn n) 1 k + cntTo (sgn n) (-1) k
  | 0 => rfl
  | k + 1 => by
    have ih := nz_sgn n k
    have d := digsL_signs n k
    show nzTo (sgn n) k + (if (sgn n).getD k 0 = 0 then 0 else 1) = (cntTo (sgn n) 1 k + if (sgn n).getD k 0 = 1 then 1 else 0) + (cntTo (sgn n) (-1) k + if (sgn n).getD k 0 = -1 then 1 else 0)
    generalize (sgn n).getD k 0 = z at d
    have hz : z = -1 ∨ z = 0 ∨ z = 1 := by omega
    rcases hz with rfl | rfl | rfl <;> simp <;> omega

theorem implWeights_any (n : Int) (w : World) : Calls Try.prog 17 #[.int .i64 n] w (SaysI (weightsI n) w) := by
  have hD := signed_any n w
  have hL := sgn_length n
  have hx := fun k hk w' => index_ten (sgn n) hL k hk w'
  have hc : weightsI n = nzTo (sgn n) 10 := by rw [nz_sgn, cnt_sgn (by decide), cnt_sgn (by decide)]; rfl
  rw [hc]
  generalize sgn n = S at hD hL hx
  clear hL hc
  go_enter Try.func17, Try.ntmps17
  go_wp2_with fail
  refine hD.mono ?_
  rintro e w1 ⟨rfl, b⟩
  clear hD
  generalize Value.agg (ints S).toArray = V at hx
  go_wp2_with fail
  go_loopw [3, 8] (fun s i wr => ∃ k : Nat, k ≤ 10 ∧ i = .int .i64 k ∧ s = .int .i64 (nzTo S k) ∧ w1 = wr) (fun _ i _ => 10 - (intOf i).toNat)
  case atStart => exact ⟨0, by omega, rfl, rfl, rfl⟩
  case round =>
    obtain ⟨k, hk, rfl, rfl, rfl⟩ := hrel
    by_cases hlt : k < 10
    · have h := fun w' => hx k hlt w'
      have l := nzTo_le S k
      have e : nzTo S (k + 1) = nzTo S k + if S.getD k 0 = 0 then 0 else 1 := rfl
      clear hx b
      generalize S.getD k 0 = z at h e
      generalize nzTo S k = y at l e
      by_cases hz : z = 0
      · subst hz
        rw [if_pos rfl, Int.add_zero] at e
        go_wp2
        go_roundw
        case rel => exact ⟨k + 1, by omega, by go_num, by rw [e], by first | rfl | trivial⟩
        case measure => simp [intOf]; omega
      · rw [if_neg hz] at e
        go_wp2
        go_roundw
        case rel => exact ⟨k + 1, by omega, by go_num, by rw [e], by first | rfl | trivial⟩
        case measure => simp [intOf]; omega
    · obtain rfl : k = 10 := by omega
      clear hx
      go_wp2
      go_ret
      exact ⟨rfl, b⟩

theorem implPans_any (n : Int) (w : World) : Calls Try.prog 12 #[.int .i64 n] w (GivesSSB (panX n (-1)) (panX n 1) (panB n) w) := by
  obtain ⟨i0, hi, hz0, hz1, hz2⟩ := info_parts Try.infoIntT
  by_cases hin : 1 ≤ n ∧ n ≤ 29524
  · have e1 : ∀ x, ¬ 0 = x → panX n x = powsTo (sgn n) x 10 := fun x hx => by unfold panX; rw [if_pos hin.1, pows_sgn hx]
    have e2 : panB n = true := by unfold panB; rw [decide_eq_true hin]
    rw [e1 _ (by decide), e1 _ (by decide), e2]
    have hD := signed_any n w
    have hL := sgn_length n
    have hx := fun k hk w' => index_ten (sgn n) hL k hk w'
    generalize sgn n = S at hD hL hx
    clear hL e1 e2
    have hend : ∀ u v W, Own w W [irow u (powsTo S (-1) 10), irow v (powsTo S 1 10)] → GivesSSB (powsTo S (-1) 10) (powsTo S 1 10) true w (.returned (.tuple #[u, v, .bool true])) W := fun u v W h => h.gives _
    go_enter Try.func12, Try.ntmps12
    go_wp2_with fail
    refine hD.mono ?_
    rintro e w1 ⟨rfl, b⟩
    clear hD
    have hT1 : Own w w1 [irow (.slice none 0 0) [], irow (.slice none 0 0) []] := ⟨fun p hp => by
      simp only [List.mem_cons, List.not_mem_nil, or_false, or_self] at hp
      subst hp
      exact ⟨rfl, .inl ⟨rfl, rfl⟩⟩, List.pairwise_cons.2 ⟨fun p hp => .inl rfl, List.pairwise_cons.2 ⟨fun p hp => .inl rfl, List.Pairwise.nil⟩⟩, b⟩
    generalize Value.agg (ints S).toArray = V at hx
    clear b
    go_wp2_with fail
    go_loopw [5, 6, 7, 18] (fun u v p i wr => ∃ k : Nat, k ≤ 10 ∧ i = .int .i64 k ∧ p = .int .i64 ((3 : Int) ^ k) ∧ Own w wr [irow u (powsTo S (-1) k), irow v (powsTo S 1 k)]) (fun _ _ _ i _ => 10 - (intOf i).toNat)
    case atStart => exact ⟨0, by omega, rfl, rfl, hT1⟩
    case round =>
      clear hT1
      obtain ⟨k, hk, rfl, rfl, hT⟩ := hrel
      by_cases hlt : k < 10
      · have h := fun w' => hx k hlt w'
        have l1 : ((powsTo S (-1) k).length : Int) ≤ 10 := by have := powsTo_length S (-1) k; omega
        have l2 : ((powsTo S 1 k).length : Int) ≤ 10 := by have := powsTo_length S 1 k; omega
        have e1 : powsTo S (-1) (k + 1) = if S.getD k 0 = -1 then powsTo S (-1) k ++ [(3 : Int) ^ k] else powsTo S (-1) k := rfl
        have e2 : powsTo S 1 (k + 1) = if S.getD k 0 = 1 then powsTo S 1 k ++ [(3 : Int) ^ k] else powsTo S 1 k := rfl
        have hp : (3 : Int) ^ (k + 1) = (3 : Int) ^ k * 3 := Int.pow_succ 3 k
        have hb := pow3_le (k := k) (by omega)
        have hsz := hT.bel.size
        clear hend hx
        generalize S.getD k 0 = z at h e1 e2
        generalize powsTo S (-1) k = P at hT l1 e1
        generalize powsTo S 1 k = Q at hT l2 e2
        generalize (3 : Int) ^ k = p at hp hb e1 e2
        have h1 := hT.hd
        have h2 := hT.swap.hd
        by_cases z1 : z = -1
        · subst z1
          rw [if_pos rfl] at e1
          rw [if_neg (by decide)] at e2
          go_wp2_with (at_builtin; refine wpList_append_one rfl (.tmp 24) (.tmp 26) 25 rfl w.heap.size 3 i0 (.int .i64 0) Try.underlying25 hi hz0 hz1 hz2 rfl u5 P.length _ rfl (h1.alloc _) ⟨wr.heap.size, 0, none⟩ 1 _ rfl (new_one _ _ _) rfl (by omega) (by simp; omega) ?_; intro v' w2 hown1 hg1 hb1)
          have R := hT.iapp hown1 hg1 hb1
          rw [← e1, ← e2] at R
          clear hown1 hg1 hb1 hT e1 e2 h1 h2
          go_wp2
          go_roundw
          case rel => exact ⟨k + 1, by omega, by go_num, by rw [hp], R⟩
          case measure => simp [intOf]; omega
        · by_cases z2 : z = 1
          · subst z2
            rw [if_neg (by decide)] at e1
            rw [if_pos rfl] at e2
            go_wp2_with (at_builtin; refine wpList_append_one rfl (.tmp 30) (.tmp 32) 25 rfl w.heap.size 3 i0 (.int .i64 0) Try.underlying25 hi hz0 hz1 hz2 rfl u6 Q.length _ rfl (h2.alloc _) ⟨wr.heap.size, 0, none⟩ 1 _ rfl (new_one _ _ _) rfl (by omega) (by simp; omega) ?_; intro v' w2 hown1 hg1 hb1)
            have R := (hT.swap.iapp hown1 hg1 hb1).swap
            rw [← e1, ← e2] at R
            clear hown1 hg1 hb1 hT e1 e2 h1 h2
            go_wp2
            go_roundw
            case rel => exact ⟨k + 1, by omega, by go_num, by rw [hp], R⟩
            case measure => simp [intOf]; omega
          · rw [if_neg z1] at e1
            rw [if_neg z2] at e2
            rw [← e1, ← e2] at hT
            clear e1 e2 h1 h2
            go_wp2
            go_roundw
            case rel => exact ⟨k + 1, by omega, by go_num, by rw [hp], hT⟩
            case measure => simp [intOf]; omega
      · obtain rfl : k = 10 := by omega
        have he := hend _ _ _ hT
        clear hend hT hx
        go_wp2
        go_ret3
        exact he
  · have e1 : ∀ x, panX n x = [] := fun x => by
      unfold panX
      split
      · have : digsL n = [] := by unfold digsL; rw [if_neg (by omega)]
        rw [this]; rfl
      · rfl
    have e2 : panB n = false := by unfold panB; rw [decide_eq_false hin]
    rw [e1, e1, e2]
    have hT1 : Own w w [irow (.slice none 0 0) [], irow (.slice none 0 0) []] := ⟨fun p hp => by
      simp only [List.mem_cons, List.not_mem_nil, or_false, or_self] at hp
      subst hp
      exact ⟨rfl, .inl ⟨rfl, rfl⟩⟩, List.pairwise_cons.2 ⟨fun p hp => .inl rfl, List.pairwise_cons.2 ⟨fun p hp => .inl rfl, List.Pairwise.nil⟩⟩, Below.refl _ _⟩
    have hend := hT1.gives false
    clear e1 e2 hT1
    by_cases h1 : n < 1
    · go_enter Try.func12, Try.ntmps12
      go_wp2
      go_ret3
      exact hend
    · have h2 : 29524 < n := by omega
      go_enter Try.func12, Try.ntmps12
      go_wp2
      go_ret3
      exact hend

theorem getD_negs (L : List Int) (k : Nat) : (negs L).getD k 0 = -(L.getD k 0) := by
  unfold negs
  rw [List.getD_eq_getElem?_getD, List.getD_eq_getElem?_getD, List.getElem?_map]
  rcases L[k]? with _ | z <;> rfl
/-- The last digit is not 0. -/
theorem digsL_last {n : Int} (h : 0 < (digsL n).length) : ¬ (digsL n).getD ((digsL n).length - 1) 0 = 0 := by
  unfold digsL at h ⊢
  split at h
  · rename_i hi
    rw [if_pos hi]
    have hn : ¬ n = 0 := fun e => by rw [e, digs_zero] at h; exact Nat.lt_irrefl _ h
    rcases Int.lt_or_lt_of_ne hn with hneg | hpos
    · have l := digs_last 10 (-n) (by omega) (by show -n ≤ 29524; omega)
      rw [digs_neg, negs_length, getD_negs] at l
      omega
    · have l := digs_last 10 n hpos hi.2
      omega
  · exact absurd h (by simp)

theorem Try.infoTen : (Try.prog.info? 37).map (·.size) = some 10 := by kernel_rfl

theorem slice_ten (a : Addr) (m : Nat) (hm : m + 1 ≤ 10) (w : World) :
    (Instr.sliceAt 37 (.pointer (some a)) none (some (.int .i64 ((m : Int) + 1))) none).run Try.prog w = .ok (.slice (some a) (m + 1) 10) w := by
  have hu : Try.prog.arrayLen 37 = 10 := by kernel_rfl
  have he : Try.prog.elem 37 = 3 := by kernel_rfl
  have h := run_sliceAt_array_h (P := Try.prog) w 37 a (by kernel_rfl) .i64 ((m : Int) + 1) (by omega) (by rw [hu]; omega)
  rw [h, hu, he]
  have e : ((m : Int) + 1).toNat = m + 1 := by omega
  rw [e]
  go_simp

theorem implDigits_any (n : Int) (w : World) : Calls Try.prog 11 #[.int .i64 n] w (Copied (digsL n) w) := by
  obtain ⟨i0, hi, hz0, hz1, hz2⟩ := info_parts Try.infoIntT
  have hD := signed_any n w
  have hL := sgn_length n
  have hl := digsL_length n
  have hlast := fun h => digsL_last (n := n) h
  have hg := sgn_get n
  have hz : ∀ k, (digsL n).length ≤ k → (sgn n).getD k 0 = 0 := fun k hk => by rw [hg, List.getD_eq_getElem?_getD, List.getElem?_eq_none hk]; rfl
  have htk : (sgn n).take (digsL n).length = digsL n := by unfold sgn; rw [List.take_left' rfl]
  generalize digsL n = D at hl hlast hg hz htk
  generalize sgn n = S at hD hL hg hz htk
  go_enter Try.func11, Try.ntmps11
  go_wp2_with fail
  refine hD.mono ?_
  rintro e w1 ⟨rfl, b⟩
  clear hD
  have hc : ∀ k, k < 10 → (w1.alloc (.cells (ints S).toArray 37)).cell? ((⟨w1.heap.size, 0, none⟩ : Addr).add k) = some (.int .i64 (S.getD k 0)) := fun k hk => news_new w1 (ints S) _ k _ (ints_get (by omega))
  have hsz : (ints S).length = 10 := by rw [ints_length]; exact hL
  have hsc : (storeCells ⟨w1.heap.size, 0, none⟩ (ints S)).run Try.prog (w1.alloc (.cells #[.int .i64 0, .int .i64 0, .int .i64 0, .int .i64 0, .int .i64 0, .int .i64 0, .int .i64 0, .int .i64 0, .int .i64 0, .int .i64 0] 37)) = .ok () (w1.alloc (.cells (ints S).toArray 37)) :=
    run_storeCells_new w1 37 _ (ints S).toArray (by rw [List.size_toArray, hsz]; exact Try.infoTen) (by simp [hsz]) (by rw [List.all_toArray]; exact List.all_eq_true.2 fun u hu => ints_oneCell .i64 S u hu)
  have hbel : Below w.heap.size w (w1.alloc (.cells (ints S).toArray 37)) := b.alloc b.size _
  go_wp2_with fail
  generalize hW : w1.alloc (.cells (ints S).toArray 37) = W at hc hbel ⊢
  clear hsc hW hsz
  go_loopw [4] (fun i wr => ∃ k : Nat, k ≤ 10 ∧ D.length ≤ k ∧ i = .int .i64 k ∧ W = wr) (fun i _ => (intOf i).toNat)
  case atStart => exact ⟨10, by omega, hl, rfl, rfl⟩
  case round =>
    obtain ⟨k, hk, hkl, rfl, rfl⟩ := hrel
    rcases k with _ | m
    · obtain rfl : D = [] := List.eq_nil_of_length_eq_zero (by omega)
      clear hz hg htk hlast hc hL hl hk hkl
      go_wp2_with fail
      go_ret
      exact ⟨none, 0, rfl, ⟨rfl, .inl ⟨rfl, rfl⟩⟩, hbel⟩
    · have e : W.cell? ⟨w1.heap.size, m, none⟩ = some (.int .i64 (S.getD m 0)) := by have := hc m (by omega); rwa [Addr.add_lit, Nat.zero_add] at this
      by_cases hm : D.length = m + 1
      · have h0 := hlast (by omega)
        rw [hm, Nat.add_sub_cancel, ← hg] at h0
        have hnews : ∀ j u, (ints D)[j]? = some u → W.cell? ((⟨w1.heap.size, 0, none⟩ : Addr).add j) = some u := fun j u hu => by
          have hj : j < D.length := by have := (List.getElem?_eq_some_iff.1 hu).1; rwa [ints_length] at this
          rw [hc j (by omega), hg, ← ints_get hj]; exact hu
        have hsl := fun w' => slice_ten ⟨w1.heap.size, 0, none⟩ m hk w'
        have hown0 : W.ownsRow w.heap.size 3 1 (.slice none 0 0) 0 [] := ⟨rfl, .inl ⟨rfl, rfl⟩⟩
        have hld : (ints D).length = (m + 1) * 1 := by rw [ints_length]; omega
        clear hz hg htk hlast hc hL
        generalize S.getD m 0 = z at e h0
        go_wp2_with (at_builtin; refine wpList_append_own _ rfl (.const (.slice none 0 0)) (.tmp 19) 25 rfl w.heap.size 3 i0 (.int .i64 0) 1 8 Try.underlying25 hi hz0 hz1 hz2 rfl (by decide) _ 0 _ rfl hown0 ⟨w1.heap.size, 0, none⟩ (m + 1) _ (ints D) rfl hld hnews (ints_oneCell .i64 D) (by unfold maxLen; omega) (by omega) hbel.size ?_; intro v' w2 hown1 hgrow1 _)
        have hend : Copied D w (.returned v') w2 := own_copied (n := 0 + (m + 1)) (by omega) hown1 (hbel.grown hgrow1 hbel.size (fun k e => by cases e))
        clear hown1 hgrow1 hnews hown0 hld
        go_wp2_with fail
        go_ret
        exact hend
      · have h0 := hz m (by omega)
        rw [h0] at e
        have hkl2 : D.length ≤ m := by omega
        clear hz hg htk hlast hc h0 hm hkl hL hl
        go_wp2
        go_roundw
        case rel => exact ⟨m, by omega, hkl2, by go_num, by first | rfl | trivial⟩
        case measure => simp [intOf]

theorem impl4 : Impl4 where
  hD := fun n v => implDigits_any n v
  hP := fun n v => implPans_any n v
  hV := fun L A c v hl r => (implValue_any A c _ L v rfl (by omega) r).mono fun _ _ h => h.says
  hN := fun L A c v hl r => implNegate_any A c _ L v rfl hl r
  hW := fun n v => implWeights_any n v
end Go.Proofs.Ythedoijceeeinaa
