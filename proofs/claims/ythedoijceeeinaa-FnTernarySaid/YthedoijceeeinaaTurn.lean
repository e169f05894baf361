/-
  The contract of the model's turning of a load: the negated numbers, or no numbers, in memory of the call's own.
-/
import Derived.Test.YthedoijceeeinaaSigns
namespace Go.Proofs.Ythedoijceeeinaa
open Go.ChangeShapes Go.WideShapes Go.ChangeAt Go.RowKit Go.PlainAid

def negs (L : List Int) : List Int := L.map fun z => -z
theorem negs_length (L : List Int) : (negs L).length = L.length := by simp [negs]
theorem negs_take {L : List Int} {k : Nat} (h : k < L.length) : negs (L.take (k + 1)) = negs (L.take k) ++ [-(L.getD k 0)] := by
  unfold negs
  rw [List.take_succ_eq_append_getElem h, List.map_append, List.getD_eq_getElem?_getD, List.getElem?_eq_getElem h]; rfl
def turnL (L : List Int) : List Int := if signsB L then negs L else []

theorem specTurn_any (A : Option Addr) (c n : Nat) (L : List Int) (w : World) (hn : L.length = n) (hm : n ≤ 1048576) (h : IntRow w A L) :
    Calls Try.prog 32 #[.slice A n c] w (Copied (turnL L) w) := by
  obtain ⟨i0, hi, hz0, hz1, hz2⟩ := info_parts Try.infoIntT
  have hown0 : (w.alloc (.cells #[] 3)).ownsRow w.heap.size 3 1 (.slice (some ⟨w.heap.size, 0, none⟩) 0 0) 0 (ints []) := World.ownsRow_made w #[] 0 (Nat.le_refl _) (by decide) rfl
  have hb0 : Below w.heap.size w (w.alloc (.cells #[] 3)) := (Below.refl _ _).alloc (Nat.le_refl _) _
  have hS := fun W => specSigns_any A c n L W hn (by omega)
  cases hs : signsB L
  · rw [hs] at hS
    have he : turnL L = [] := by unfold turnL; rw [hs]; rfl
    rw [he]
    rcases Nat.eq_zero_or_pos n with h0 | h0
    · subst h0
      obtain rfl : L = [] := List.eq_nil_of_length_eq_zero hn
      cases hs
    · have hS1 := hS _ (h.keep hb0)
      have hend := own_copied (L := []) (n := 0) rfl hown0 hb0
      have hlt : (0 : Int) < n := by omega
      clear hS h hown0 hb0 he hn
      go_enter Try.func32, Try.ntmps32
      go_wp2
      refine wp_loop_rounds 1 ?_
      rw [rounds_succ]
      go_wp2_with fail
      refine hS1.mono ?_
      rintro e w' ⟨rfl, rfl⟩
      clear hS1
      go_wp2
      go_ret
      exact hend
  · rw [hs] at hS
    have he : turnL L = negs L := by unfold turnL; rw [hs]; rfl
    rw [he]
    have hL := allIn_iff.1 hs
    clear he hs
    go_enter Try.func32, Try.ntmps32
    go_wp2
    go_loopw [3, 4] (fun v i wr => ∃ k : Nat, k ≤ n ∧ i = .int .i64 k ∧ wr.ownsRow w.heap.size 3 1 v k (ints (negs (L.take k))) ∧ Below w.heap.size w wr) (fun _ i _ => n - (intOf i).toNat)
    case atStart => exact ⟨0, by omega, rfl, hown0, hb0⟩
    case round =>
      clear hown0 hb0
      obtain ⟨k, hk, rfl, hown, hbel⟩ := hrel
      by_cases hlt : k < n
      · have hS1 := hS wr (h.keep hbel)
        obtain ⟨x, rfl, hx0, hx1⟩ := h k (by omega)
        have hx : wr.cell? (x.add k) = some (.int .i64 (L.getD k 0)) := (hbel.cell (by rw [addr_add_block]; exact hx0)).trans hx1
        have hz := hL k (by omega)
        have hsz := hbel.size
        have hneg := negs_take (L := L) (k := k) (by omega)
        clear h hL hS hx1
        generalize L.getD k 0 = z at hx hz hneg
        go_wp2_with fail
        refine hS1.mono ?_
        rintro e w' ⟨rfl, rfl⟩
        clear hS1
        have hw : x.block < wr.heap.size := by omega
        have hxa : (wr.alloc (.cells #[.int .i64 (-z)] 3)).cell? (x.add k) = some (.int .i64 z) := by
          rw [World.cell?_alloc_lt _ _ _ (by rw [addr_add_block]; exact hw)]; exact hx
        go_wp2_with (at_builtin; refine wpList_append_own _ rfl (.tmp 16) (.tmp 22) 25 rfl w.heap.size 3 i0 (.int .i64 0) 1 8 Try.underlying25 hi hz0 hz1 hz2 rfl (by decide) u3 k _ rfl (hown.alloc _) ⟨wr.heap.size, 0, none⟩ 1 1 [_] rfl rfl (news_new _ [_] _) (by simp [Value.oneCell']) (by unfold maxLen; omega) (by omega) (by simp; omega) ?_; intro v' w2 hown1 hgrow1 _)
        have R := app_rel (w := w) (Nat.le_refl _) hown hbel hown1 hgrow1
        rw [← hneg] at R
        clear hown1 hgrow1 hown hbel hneg
        obtain ⟨R1, R2⟩ := R
        go_wp2
        go_roundw
        case rel => exact ⟨k + 1, by omega, by go_num, R1, R2⟩
        case measure => simp [intOf]; omega
      · obtain rfl : k = n := by omega
        have e : L.take k = L := List.take_of_length_le (by omega)
        rw [e] at hown
        have hend := own_copied (L := negs L) (by rw [negs_length]; exact hn) hown hbel
        clear hown hbel h hL hS
        go_wp2
        go_ret
        exact hend
end Go.Proofs.Ythedoijceeeinaa
