/-
  The contract of the program's times. Only new memory is written.
-/
import Derived.Test.YtmbhldpbgcfnmaaImplStates
namespace Go.Proofs.Ytmbhldpbgcfnmaa
open Go.ChangeShapes Go.WideShapes Go.ChangeAt Go.RowKit Go.PlainAid

/-- An empty row of ints that is nil, beside others. -/
theorem Own.nilRow {w wr : World} {R : List Rw} (h : Own w wr R) : Own w wr (irow (.slice .none 0 0) [] :: R) := by
  have o : wr.ownsRow wr.heap.size 3 1 (.slice .none 0 0) 0 [] := World.ownsRow_nil _ _ _ _
  exact h.add (Below.refl _ _) o
/-- nil. -/
theorem nil_copied {w w' : World} (b : Below w.heap.size w w') : Copied [] w (.returned (.slice none 0 0)) w' := (((Own.none w).keep b).nilRow).copied

set_option maxRecDepth 100000 in
set_option maxHeartbeats 4000000 in
theorem implTimes_nat (a b m : Nat) (w : World) (ha : 1 ≤ a ∧ a ≤ 12) (hb : 1 ≤ b ∧ b ≤ 12) (hm : 1 ≤ m ∧ m ≤ 60) :
    Calls Try.prog 13 #[.int .i64 a, .int .i64 b, .int .i64 m] w (Copied (tms a b (m + 1)) w) := by
  obtain ⟨i0, hi, hz0, hz1, hz2⟩ := info_parts Try.infoIntT
  have ok : okG (a : Int) b 0 0 = true := okG_iff.2 (by omega)
  have hO := fun W => implGlassesOk_any a b 0 0 W
  rw [ok] at hO
  have hS := fun W => states_any a b m W ha hb hm
  obtain ⟨N, hN⟩ : ∃ N, m + 1 = N := ⟨_, rfl⟩
  rw [hN] at hS ⊢
  have hNi : (N : Int) ≤ 61 := by omega
  have hm1 : ¬ (m : Int) < 1 := by omega
  have hm2 : ¬ (60 : Int) < m := by omega
  have O := (Own.none w).jug (a : Int) b 0 0
  clear ok
  go_enter Try.func13, Try.ntmps13
  go_upto_region 2 with fail
  generalize w.alloc (jobj a b 0 0 25) = w1 at O ⊢
  obtain ⟨p, hp⟩ : ∃ p, w.heap.size = p := ⟨_, rfl⟩
  rw [hp] at O ⊢
  obtain ⟨c0, c1, c2, c3⟩ := (O.jbox (q := p) List.mem_cons_self).cells
  replace hp := Lib.hid hp
  go_wp2_with fail
  refine (hO _).mono ?_
  clear hO c0 c1 c2 c3
  rintro e w2 ⟨rfl, b2⟩
  replace O := O.keep b2
  clear b2
  obtain ⟨c0, c1, c2, c3⟩ := (O.jbox (q := p) List.mem_cons_self).cells
  go_wp2_with fail
  refine (hS _).mono ?_
  clear hS c0 c1 c2 c3
  rintro e w3 ⟨g, V, S, rfl, OS, hAt⟩

  replace O := (O.tl.join OS).nilRow
  clear OS
  go_wp2_with fail
  go_loopw [8, 29] (fun u i wr => ∃ T : Nat, T ≤ N ∧ i = .int .i64 T ∧ Own w wr (irow u (tms a b T) :: (vrow (.slice (some ⟨g, 0, none⟩) N N) N V :: (grows N a b V S ++ [])) ++ [])) (fun _ i _ => N - (intOf i).toNat)
  case atStart => exact ⟨0, by omega, rfl, O⟩
  case round =>
    clear O
    obtain ⟨T, hT, rfl, O⟩ := hrel
    by_cases hlt : T < N
    · have hTi : (T : Int) < N := by omega
      have hA := hAt T hlt
      obtain ⟨A, c, hV⟩ := grow_slice (O.own _ (List.mem_append_left _ (List.mem_cons_of_mem _ (List.mem_cons_of_mem _ (List.mem_append_left _ (grows_mem hlt))))))
      have hc := O.vcell (List.mem_append_left _ (List.mem_cons_of_mem _ List.mem_cons_self)) hlt
      rw [hV] at hc
      generalize (S T).length = l at hA hc
      have hyes := fun h0 : 0 < T => tms_yes (a := a) (b := b) (T := T) h0
      have hno := tms_no (a := a) (b := b) (T := T)
      have hlen := tms_len a b T
      clear hV hAt
      by_cases h0 : 0 < T
      · have h0i : (0 : Int) < T := by omega
        by_cases hl : 0 < l
        · have hli : (0 : Int) < l := by omega
          have e := hyes h0 (by rw [hA]; exact decide_eq_true hl)
          clear hyes hno hA
          have hown := O.hd
          replace e := Lib.hid e
          generalize tms a b T = Z at O hown e hlen
          have hZ : Z.length ≤ 61 := by omega
          replace hown : wr.ownsRow w.heap.size 3 1 u8 Z.length (ints Z) := hown
          have hws := O.bel.size
          replace O := Lib.hid O
          clear hlen
          go_wp2_with (at_builtin; refine wpList_append_one rfl (.tmp 41) (.tmp 43) 30 rfl w.heap.size 3 i0 (.int .i64 0) Try.underlying30 hi hz0 hz1 hz2 rfl u8 Z.length _ rfl (hown.alloc _) ⟨wr.heap.size, 0, none⟩ 1 _ rfl (new_one _ _ _) rfl (by omega) (by simp; omega) ?_; intro v' w5 hown1 hg1 hb1)
          have O3 := O.out.iapp hown1 hg1 hb1
          rw [← e.out] at O3
          clear hown1 hg1 hb1 O hown
          go_wp2_with fail
          go_roundw
          case rel => exact ⟨T + 1, by omega, by go_num, O3⟩
          case measure => simp [intOf]; omega
        · obtain rfl : l = 0 := by omega
          have e := hno (by rw [hA]; simp)
          rw [← e] at O
          replace O := Lib.hid O
          clear hyes hno hA e hlen hl
          go_wp2_with fail
          go_roundw
          case rel => exact ⟨T + 1, by omega, by go_num, O.out⟩
          case measure => simp [intOf]; omega
      · obtain rfl : T = 0 := by omega
        have e := hno (by simp)
        rw [← e] at O
        replace O := Lib.hid O
        clear hyes hno hA e hlen h0
        go_wp2_with fail
        go_roundw
        case rel => exact ⟨1, by omega, by go_num, O.out⟩
        case measure => simp [intOf]; omega
    · obtain rfl : T = N := by omega
      have hTi : ¬ (T : Int) < T := by omega
      have hend := Own.copied O
      clear O hAt
      go_wp2_with fail
      go_ret
      exact hend
end Go.Proofs.Ytmbhldpbgcfnmaa
