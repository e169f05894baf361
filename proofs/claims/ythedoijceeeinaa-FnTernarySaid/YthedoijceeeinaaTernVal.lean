/-
  The contracts of the model's value of digits, negated digits and count of weights. Nothing but new memory is written.
-/
import Derived.Test.YthedoijceeeinaaTern
import Derived.Test.YthedoijceeeinaaCount
namespace Go.Proofs.Ythedoijceeeinaa
open Go.ChangeShapes Go.WideShapes Go.ChangeAt Go.RowKit Go.PlainAid

def valL : List Int → Int
  | [] => 0
  | d :: r => d + 3 * valL r
theorem drop_get {L : List Int} {m : Nat} (h : m < L.length) : L.drop m = L.getD m 0 :: L.drop (m + 1) := by
  rw [List.drop_eq_getElem_cons h, List.getD_eq_getElem?_getD, List.getElem?_eq_getElem h]; rfl
theorem valL_le : ∀ {L : List Int}, (∀ z ∈ L, -1 ≤ z ∧ z ≤ 1) → -(top3 L.length) ≤ valL L ∧ valL L ≤ top3 L.length
  | [], _ => by decide
  | d :: r, h => by
    have ih := valL_le (L := r) fun z hz => h z (List.mem_cons_of_mem _ hz)
    have hd := h d List.mem_cons_self
    show -(3 * top3 r.length + 1) ≤ d + 3 * valL r ∧ d + 3 * valL r ≤ 3 * top3 r.length + 1
    omega
theorem signs_mem {L : List Int} (h : signsB L = true) : ∀ z ∈ L, -1 ≤ z ∧ z ≤ 1 := fun z hz => by
  unfold signsB allIn at h
  simpa using List.all_eq_true.1 h z hz
def valueI (L : List Int) : Int := if signsB L = true ∧ L.length ≤ 10 then valL L else 0

theorem specValue_any (A : Option Addr) (c n : Nat) (L : List Int) (w : World) (hn : L.length = n) (hm : n ≤ 1000000000) (h : IntRow w A L) :
    Calls Try.prog 22 #[.slice A n c] w (TellsI (valueI L) w) := by
  have hS := specSigns_any A c n L w hn hm h
  cases hs : signsB L
  · have e : valueI L = 0 := by unfold valueI; rw [if_neg (by rw [hs]; simp)]
    rw [e]
    rw [hs] at hS
    clear e hs h hn
    go_enter Try.func22, Try.ntmps22
    go_wp2_with fail
    refine hS.mono ?_
    rintro e w1 ⟨rfl, rfl⟩
    clear hS
    go_wp2_with fail
    go_ret
    exact ⟨rfl, rfl⟩
  · by_cases hl : n ≤ 10
    · have e : valueI L = valL (L.drop 0) := by unfold valueI; rw [if_pos ⟨hs, by omega⟩, List.drop_zero]
      rw [e]
      have hz := signs_mem hs
      rw [hs] at hS
      have hli : (n : Int) ≤ 10 := by omega
      clear e hs hm
      go_enter Try.func22, Try.ntmps22
      go_wp2_with fail
      refine hS.mono ?_
      rintro e w1 ⟨rfl, rfl⟩
      clear hS
      go_wp2_with fail
      go_loopw [3, 4] (fun s i wr => ∃ m : Nat, m ≤ n ∧ i = .int .i64 ((m : Int) - 1) ∧ s = .int .i64 (valL (L.drop m)) ∧ w = wr) (fun _ i _ => (intOf i + 1).toNat)
      case atStart => exact ⟨n, by omega, rfl, by rw [← hn, List.drop_length]; rfl, rfl⟩
      case round =>
        obtain ⟨m, hk, rfl, rfl, rfl⟩ := hrel
        rcases m with _ | m
        · clear h hn hz
          have hend : TellsI (valL (L.drop 0)) w (.returned (.int .i64 (valL (L.drop 0)))) w := ⟨rfl, rfl⟩
          go_wp2
          go_ret
          exact hend
        · obtain ⟨x, rfl, -, hx⟩ := h m (by omega)
          have e1 : valL (L.drop m) = L.getD m 0 + 3 * valL (L.drop (m + 1)) := by rw [drop_get (by omega)]; rfl
          have b := valL_le (L := L.drop (m + 1)) fun z hy => hz z (List.mem_of_mem_drop hy)
          have t := top3_le (f := (L.drop (m + 1)).length) (by rw [List.length_drop]; omega)
          have d := allIn_iff.1 (show signsB L = true by unfold signsB allIn; exact List.all_eq_true.2 fun z hy => decide_eq_true (hz z hy)) m (by omega)
          have b1 : -29524 ≤ valL (L.drop (m + 1)) ∧ valL (L.drop (m + 1)) ≤ 29524 := by omega
          have hi : ((m + 1 : Nat) : Int) - 1 = m := by omega
          rw [hi]
          clear h hn hz b t hi
          generalize L.getD m 0 = z at hx e1 d
          generalize valL (L.drop (m + 1)) = y at e1 b1
          go_wp2
          go_roundw
          case rel => exact ⟨m, by omega, rfl, by rw [e1, Int.add_comm], by first | rfl | trivial⟩
          case measure => simp [intOf]
    · have e : valueI L = 0 := by unfold valueI; rw [if_neg (by omega)]
      rw [e]
      rw [hs] at hS
      have hli : ¬ (n : Int) ≤ 10 := by omega
      clear e hs h hn
      go_enter Try.func22, Try.ntmps22
      go_wp2_with fail
      refine hS.mono ?_
      rintro e w1 ⟨rfl, rfl⟩
      clear hS
      go_wp2_with fail
      go_ret
      exact ⟨rfl, rfl⟩

def negL (L : List Int) : List Int := if L.length ≤ 10 then turnL L else []

theorem specNegate_any (A : Option Addr) (c n : Nat) (L : List Int) (w : World) (hn : L.length = n) (hm : n ≤ 1048576) (h : IntRow w A L) :
    Calls Try.prog 25 #[.slice A n c] w (Copied (negL L) w) := by
  by_cases hl : (n : Int) ≤ 10
  · have hT := specTurn_any A c n L w hn hm h
    have e : negL L = turnL L := by unfold negL; rw [if_pos (by omega)]
    rw [e]
    clear e h hn
    generalize turnL L = X at hT
    go_enter Try.func25, Try.ntmps25
    go_wp2_with fail
    refine hT.mono ?_
    rintro e w1 ⟨Y, d, rfl, o, b⟩
    clear hT
    go_wp2_with fail
    go_ret
    exact ⟨Y, d, rfl, o, b⟩
  · have hown0 : (w.alloc (.cells #[] 3)).ownsRow w.heap.size 3 1 (.slice (some ⟨w.heap.size, 0, none⟩) 0 0) 0 (ints []) := World.ownsRow_made w #[] 0 (Nat.le_refl _) (by decide) rfl
    have hb0 : Below w.heap.size w (w.alloc (.cells #[] 3)) := (Below.refl _ _).alloc (Nat.le_refl _) _
    have hend := own_copied (L := []) (n := 0) rfl hown0 hb0
    have e : negL L = [] := by unfold negL; rw [if_neg (by omega)]
    rw [e]
    clear e h hn hown0 hb0
    go_enter Try.func25, Try.ntmps25
    go_wp2_with fail
    go_ret
    exact hend

def weightsI (n : Int) : Int := cnt (digsL n) 1 + cnt (digsL n) (-1)
theorem cnt_le (L : List Int) (x : Int) : 0 ≤ cnt L x ∧ cnt L x ≤ L.length := cntTo_le L x L.length

theorem specWeights_any (n : Int) (w : World) : Calls Try.prog 26 #[.int .i64 n] w (SaysI (weightsI n) w) := by
  have hD := specDigits_any n w
  have hC := fun (A : Option Addr) (c : Nat) (v : World) (r : IntRow v A (digsL n)) => specCount_any A c _ (digsL n) v rfl (by have := digsL_length n; omega) r
  have b1 := cnt_le (digsL n) 1
  have b2 := cnt_le (digsL n) (-1)
  have b3 : ((digsL n).length : Int) ≤ 10 := by have := digsL_length n; omega
  unfold weightsI
  generalize digsL n = D at hD hC b1 b2 b3
  generalize cnt D 1 = p at hC b1
  generalize cnt D (-1) = q at hC b2
  go_enter Try.func26, Try.ntmps26
  go_wp2_with fail
  refine hD.mono ?_
  rintro e w1 ⟨Y, d, rfl, o, b⟩
  have hC1 := hC Y d w1 (intRow_own o)
  clear hD hC o
  go_wp2_with fail
  refine hC1.mono ?_
  rintro e w2 ⟨rfl, r, rfl⟩
  clear hC1
  go_wp2_with fail
  go_ret
  exact ⟨rfl, below_drewN b r⟩
end Go.Proofs.Ythedoijceeeinaa
