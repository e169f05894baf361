/-
  The law: the fields of a line, joined by single spaces, have the same fields. Where the library's table is as its initialiser lays it.
-/
import Derived.Test.YtepgficheibbfaaDoorRejoin
namespace Go.Proofs.YtepgficheibbfaaDoor
open Go.ChangeShapes Go.WideShapes Go.ChangeAt Go.RowKit Go.PlainAid

theorem strRow_keep {w w' : World} {A : Option Addr} {n : Nat} {xs : List ByteArray} (h : StrRow w A n xs) (hb : Below w.heap.size w w') : StrRow w' A n xs := fun j hj => by
  obtain ⟨x, hA, hc⟩ := h j hj
  exact ⟨x, hA, (hb.cell (lt_of_cell hc)).trans hc⟩

theorem fields_small (a : Option Addr) (len cap : Nat) (w : World) (hl : len ≤ 1048576) (hr : Bytes w w.heap.size a len) (hT : Tab w) :
    Calls Tryd.prog 5 #[.slice a len cap] w fun e w' => e = .returned (.bool true) ∧ Below w.heap.size w w' := by
  have hb : ¬ (1048576 : Int) < len := by omega
  have hD := drawSplit_any w.heap.size a len cap w rfl hl hr
  have hT1 := fun W (b : Below w.heap.size w W) => tab_keep hT b
  clear hT hl hr
  go_enter Tryd.func5, Tryd.ntmps5
  go_wp2_with (go_at_call 8; go_in)
  refine hD.mono ?_
  rintro e w1 ⟨s, hs, rfl, b1⟩
  have hS := fun W => (specSplit_any s W (by omega)).mono fun _ _ h => split_form h
  have hI := fun W => (implSplit_any s W (by omega)).mono fun _ _ h => split_form h
  have hn := xsOf_le s
  have hf := xsOf_ok s
  have hbad := xsOf_bad (s := s)
  clear hD hb
  generalize okS s = q at hS hI hbad
  generalize xsOf s = xs at hS hI hn hf hbad
  go_wp2_with fail
  refine (hI _).mono ?_
  rintro e w2 ⟨A1, c1, rfl, own1, b2⟩
  go_wp2_with fail
  refine (hS _).mono ?_
  rintro e w3 ⟨A0, c0, rfl, own0, b3⟩
  have hp : StrRow w3 A1 xs.length xs := strRow_below own1 b3 (Nat.le_refl _)
  have b3' : Below w.heap.size w w3 := b1.trans ((b2.mono b1.size).trans (b3.mono (Nat.le_trans b1.size b2.size)))
  clear hS hI own1 own0 b1 b2 b3
  cases q
  · obtain rfl := hbad rfl
    have hF := implFmt_any (-3) w3 (by omega) (by omega) (hT1 w3 b3')
    unfold Text at hF
    rw [decS_m3] at hF
    clear hbad hf hn hp hT1
    go_wp2_with fail
    refine hF.mono ?_
    rintro e w4 ⟨rfl, b4⟩
    have b : Below w.heap.size w w4 := b3'.trans (b4.mono b3'.size)
    clear hF b3' b4
    go_wp2
    go_ret
    exact ⟨rfl, b⟩
  · clear hbad hT1
    go_wp2_with fail
    go_loop [8, 9] (fun j i => ∃ (k : Nat) (acc : ByteArray), k ≤ xs.length ∧ i = .int .i64 k ∧ j = .string acc ∧ JSt xs k acc) (fun _ i => xs.length - (intOf i).toNat)
    case atStart => exact ⟨0, _, by omega, rfl, rfl, jSt_start xs⟩
    case round =>
      obtain ⟨k, acc, hk, rfl, rfl, hst⟩ := hrel
      have hz0 := hst.2
      by_cases hlt : k < xs.length
      · obtain ⟨x, rfl, hc⟩ := hp k hlt
        have hz := getD_ok hf hlt
        have hst1 := jSt_step hst hlt hz
        have hs2 := size_two acc (xs.getD k ByteArray.empty)
        have hs3 : (acc ++ xs.getD k ByteArray.empty).size ≤ 100000 := by omega
        clear hs2 hp hf b3' hst
        generalize xs.getD k ByteArray.empty = z at hc hz hst1 hs3
        go_wp2
        go_round
        case rel => exact ⟨k + 1, _, by omega, by go_num, rfl, hst1⟩
        case measure => simp [intOf]; omega
      · obtain rfl : k = xs.length := by omega
        have hj := hst.1
        rw [List.take_length] at hj
        have hI2 := fun W => (implSplit_any acc W (by omega)).mono fun _ _ h => split_form h
        by_cases h6 : 600 < acc.size
        · generalize okS acc = q2 at hI2
          generalize xsOf acc = xs2 at hI2
          have h6i : (600 : Int) < acc.size := by omega
          clear hst hj hf hp hlt
          go_wp2_with fail
          refine (hI2 _).mono ?_
          rintro e w4 ⟨A2, c2, rfl, own2, b4⟩
          have b : Below w.heap.size w w4 := b3'.trans (b4.mono b3'.size)
          clear hI2 own2 b3' b4
          go_wp2_with fail
          go_ret
          exact ⟨rfl, b⟩
        · obtain ⟨e1, e2⟩ := again hj hf hn (by omega)
          rw [e1, e2] at hI2
          have h6i : ¬ (600 : Int) < acc.size := by omega
          clear e1 e2 hst hj hf hlt
          go_wp2_with fail
          refine (hI2 _).mono ?_
          rintro e w4 ⟨A2, c2, rfl, own2, b4⟩
          have b : Below w.heap.size w w4 := b3'.trans (b4.mono b3'.size)
          have hE := sameTexts_same A1 A2 xs.length c1 c2 xs w4 (by omega) (strRow_keep hp b4) (strRow_own own2)
          clear hI2 own2 b3' b4 hp
          go_wp2_with fail
          refine hE.mono ?_
          rintro e w5 ⟨rfl, q2, rfl⟩
          have b' := below_drewN b q2
          clear hE b
          go_wp2_with fail
          go_ret
          exact ⟨rfl, b'⟩

theorem fields_big (a : Option Addr) (len cap : Nat) (w : World) (hl : 1048576 < len) (hm : len ≤ 9223372036854775807) :
    Calls Tryd.prog 5 #[.slice a len cap] w fun e w' => e = .returned (.bool true) ∧ Below w.heap.size w w' := by
  have hb : (1048576 : Int) < len := by omega
  go_enter Tryd.func5, Tryd.ntmps5
  go_wp2_with (go_at_call 8; go_in)
  go_ret
  exact ⟨rfl, Below.refl _ _⟩
end Go.Proofs.YtepgficheibbfaaDoor
