/-
  The contract of the program's turning of a load. Nothing but new memory is written.
-/
import Derived.Test.YthedoijceeeinaaTurn
import Derived.Test.YthedoijceeeinaaImplSigns
namespace Go.Proofs.Ythedoijceeeinaa
open Go.ChangeShapes Go.WideShapes Go.ChangeAt Go.RowKit Go.PlainAid

def negTo (L : List Int) (k : Nat) : List Value := ints (negs (L.take k)) ++ List.replicate (L.length - k) (.int .i64 0)
theorem negTo_len {L : List Int} {k : Nat} (hk : k ≤ L.length) : (negTo L k).length = L.length := by
  unfold negTo
  rw [List.length_append, ints_length, negs_length, List.length_replicate, List.length_take]; omega
theorem negTo_set {L : List Int} {k : Nat} (hk : k < L.length) : (negTo L k).set k (.int .i64 (-(L.getD k 0))) = negTo L (k + 1) := by
  unfold negTo
  have hl : (ints (negs (L.take k))).length = k := by rw [ints_length, negs_length, List.length_take]; omega
  rw [List.set_append_right _ _ (by omega), hl, Nat.sub_self]
  obtain ⟨m, hm⟩ : ∃ m, L.length - k = m + 1 := ⟨L.length - k - 1, by omega⟩
  have hm2 : L.length - (k + 1) = m := by omega
  rw [hm, hm2, List.replicate_succ, List.set_cons_zero, negs_take hk, ints_append, List.append_assoc]; rfl
theorem negTo_all (L : List Int) : negTo L L.length = ints (negs L) := by
  unfold negTo
  rw [Nat.sub_self, List.replicate_zero, List.append_nil, List.take_length]
theorem neg_rel {w wr : World} {k g c n : Nat} {L : List Int} (hn : L.length = n) (hk : k < n) (hown : wr.ownsRow w.heap.size 3 1 (.slice (some ⟨g, 0, none⟩) n c) n (negTo L k)) (hb : Below w.heap.size w wr) :
    (∃ u, wr.cell? ⟨g, k, none⟩ = some u) ∧ wr.frozen? ⟨g, k, none⟩ = false ∧ (wr.setCell ⟨g, k, none⟩ (.int .i64 (-(L.getD k 0)))).ownsRow w.heap.size 3 1 (.slice (some ⟨g, 0, none⟩) n c) n (negTo L (k + 1)) ∧ Below w.heap.size w (wr.setCell ⟨g, k, none⟩ (.int .i64 (-(L.getD k 0)))) := by
  obtain ⟨s1, s2⟩ := hown.stored k (.int .i64 (-(L.getD k 0)))
  rw [negTo_set (by omega)] at s1
  exact ⟨⟨_, (hown.cellAt k (by omega)).trans (List.getElem?_eq_getElem (by rw [negTo_len (by omega)]; omega))⟩, hown.frozenAt k, s1, hb.setCell (hown.lt g rfl).1 _⟩

theorem implTurn_any (A : Option Addr) (c n : Nat) (L : List Int) (w : World) (hn : L.length = n) (hm : n ≤ 1048576) (h : IntRow w A L) :
    Calls Try.prog 29 #[.slice A n c] w (Copied (turnL L) w) := by
  obtain ⟨i0, hi, hz0, hz1, hz2⟩ := info_parts Try.infoIntT
  have hS := implSigns_any A c n L w hn (by omega) h
  cases hs : signsB L
  · rw [hs] at hS
    have he : turnL L = [] := by unfold turnL; rw [hs]; rfl
    rw [he]
    have hend : Copied [] w (.returned (.slice none 0 0)) w := ⟨none, 0, rfl, ⟨rfl, .inl ⟨rfl, rfl⟩⟩, Below.refl _ _⟩
    clear h he hn
    go_enter Try.func29, Try.ntmps29
    go_wp2_with fail
    refine hS.mono ?_
    rintro e w' ⟨rfl, rfl⟩
    clear hS
    go_wp2_with fail
    go_ret
    exact hend
  · rw [hs] at hS
    have he : turnL L = negs L := by unfold turnL; rw [hs]; rfl
    rw [he]
    have hL := allIn_iff.1 hs
    clear he hs
    go_enter Try.func29, Try.ntmps29
    go_wp2_with fail
    refine hS.mono ?_
    rintro e w' ⟨rfl, rfl⟩
    clear hS
    go_wp2_with (at_make; refine wpList_make_full _ rfl _ _ 25 rfl w.heap.size 3 i0 (.int .i64 0) 1 Try.underlying25 hi hz0 hz1 .i64 .i64 _ _ n rfl rfl rfl rfl (by rw [hz2]; omega) (by unfold maxLen; omega) (Nat.le_refl _) ?_; intro w0 hown0 hgrow0)
    have hbel0 : Below w.heap.size w w0 := (Below.refl _ _).grown hgrow0 (Nat.le_refl _) (fun k e => by cases e)
    have hown1 : w0.ownsRow w.heap.size 3 1 (.slice (some ⟨w.heap.size, 0, none⟩) n n) n (negTo L 0) := by
      have e : (madeCells (Value.int .i64 0).cells (n * 1)).toList = negTo L 0 := by
        show (madeCells #[Value.int .i64 0] (n * 1)).toList = _
        rw [toList_madeCells_one, Nat.mul_one]
        unfold negTo
        rw [Nat.sub_zero, hn]; rfl
      rw [← e]
      exact hown0
    clear hgrow0 hown0
    go_loopw [14] (fun i wr => ∃ k : Nat, k ≤ n ∧ i = .int .i64 k ∧ wr.ownsRow w.heap.size 3 1 (.slice (some ⟨w.heap.size, 0, none⟩) n n) n (negTo L k) ∧ Below w.heap.size w wr) (fun i _ => n - (intOf i).toNat)
    case atStart => exact ⟨0, by omega, rfl, hown1, hbel0⟩
    case round =>
      clear hown1 hbel0
      obtain ⟨k, hk, rfl, hown, hbel⟩ := hrel
      by_cases hlt : k < n
      · obtain ⟨⟨u, hc⟩, hf, h1, h2⟩ := neg_rel hn hlt hown hbel
        obtain ⟨x, rfl, hx, hx2⟩ := h k (by omega)
        have hx3 : wr.cell? (x.add k) = some (.int .i64 (L.getD k 0)) := (hbel.cell (by rw [addr_add_block]; exact hx)).trans hx2
        have hz := hL k (by omega)
        clear hown hbel hx2 h hL
        generalize L.getD k 0 = z at h1 h2 hx3 hz
        go_wp2
        go_roundw
        case rel => exact ⟨k + 1, by omega, by go_num, h1, h2⟩
        case measure => simp [intOf]; omega
      · obtain rfl : k = n := by omega
        subst hn
        rw [negTo_all] at hown
        have hend : Copied (negs L) w (.returned (.slice (some ⟨w.heap.size, 0, none⟩) L.length L.length)) wr := own_copied (L := negs L) (negs_length L) hown hbel
        clear hown hbel h hL
        go_wp2
        go_ret
        exact hend
end Go.Proofs.Ythedoijceeeinaa
