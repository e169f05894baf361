/-
  The exact laws' own helpers on slices of hangs: an own copy; equal slices compare equal; marks are written into every place; held marks are found. No condition but that the slices are short.
-/
import Derived.Test.YtajndcggafjmeaaHangs
import Derived.Test.YtajndcggafjmeaaFracOk
namespace Go.Proofs.Ytajndcggafjmeaa
open Go.ChangeShapes Go.WideShapes Go.ChangeAt Go.RowKit Go.PlainAid

theorem Try.infoHangT : (Try.prog.info? 34).map (fun i => (i.zero, i.size, i.bytes)) = some (some (.agg #[.int .i64 0, .int .i64 0]), 2, 16) := by kernel_rfl

/-- What is left of 1048576. -/
theorem szHang_in (A : Option Addr) (n c : Nat) (w : World) (h : n ≤ 1048576) : Calls Try.prog 20 #[.slice A n c, .int .i64 1048576] w fun e w' => e = .returned (.int .i64 (1048576 - n)) ∧ w = w' := by
  have h1 : ¬ ((1048576 : Int) - n < 0) := by omega
  go_enter Try.func20, Try.ntmps20
  go_wp2_with fail
  go_ret
  exact ⟨rfl, rfl⟩
theorem szHang_out (A : Option Addr) (n c : Nat) (w : World) (h : 1048576 < n) (hm : n ≤ 9223372036854775807) : Calls Try.prog 20 #[.slice A n c, .int .i64 1048576] w fun e w' => e = .returned (.int .i64 (-1)) ∧ w = w' := by
  have h1 : (1048576 : Int) - n < 0 := by omega
  go_enter Try.func20, Try.ntmps20
  go_wp2_with fail
  go_ret
  exact ⟨rfl, rfl⟩

/-- The law's own type into the program's. -/
theorem toHang_any (t b : Int) (w : World) : Calls Try.prog 43 #[.agg #[.int .i64 t, .int .i64 b]] w fun e w' => e = .returned (.agg #[.int .i64 t, .int .i64 b]) ∧ Below w.heap.size w w' := by
  go_enter Try.func43, Try.ntmps43
  go_wp2_with fail
  (try simp only [Exit.inBlock, Exit.then])
  refine bodyPost_ret (v := .agg #[.int .i64 t, .int .i64 b]) ?_ rfl ⟨rfl, ?_⟩
  · rw [results_cell_one rfl]
    go_simp
  · repeat' (first | exact Below.refl _ _ | refine Below.setCell ?_ (by simp <;> omega) _ | refine Below.alloc ?_ (by simp <;> omega) _)

def cpTo (L : List Hg) (k : Nat) : List Hg := L.take k ++ List.replicate (L.length - k) (0, 0)
theorem cpTo_len {L : List Hg} {k : Nat} (hk : k ≤ L.length) : (cpTo L k).length = L.length := by
  unfold cpTo
  rw [List.length_append, List.length_replicate, List.length_take]; omega
theorem cpTo_set {L : List Hg} {k : Nat} (hk : k < L.length) : (cpTo L k).set k (hget L k) = cpTo L (k + 1) := by
  unfold cpTo hget
  have hl : (L.take k).length = k := by rw [List.length_take]; omega
  rw [List.set_append_right _ _ (by omega), hl, Nat.sub_self]
  obtain ⟨m, hm⟩ : ∃ m, L.length - k = m + 1 := ⟨L.length - k - 1, by omega⟩
  have hm2 : L.length - (k + 1) = m := by omega
  rw [hm, hm2, List.replicate_succ, List.set_cons_zero, List.take_succ_eq_append_getElem hk, List.getD_eq_getElem?_getD, List.getElem?_eq_getElem hk, List.append_assoc]; rfl
theorem cpTo_all (L : List Hg) : cpTo L L.length = L := by
  unfold cpTo
  rw [Nat.sub_self, List.replicate_zero, List.append_nil, List.take_length]
theorem made_two (n : Nat) : (madeCells #[Value.int .i64 0, .int .i64 0] (n * 2)).toList = hcells (List.replicate n (0, 0)) := by
  induction n with
  | zero => simp [madeCells, hcells]
  | succ n ih =>
    rw [List.replicate_succ', hcells_app, ← ih]
    unfold madeCells
    rw [show (n + 1) * 2 = n * 2 + 1 + 1 by omega, Array.range_succ, Array.range_succ]
    have h1 : (n * 2) % 2 = 0 := by omega
    have h2 : (n * 2 + 1) % 2 = 1 := by omega
    simp [h1, h2]
/-- A row of zeros was made. -/
theorem Own.hmade {w wr w0 : World} {n : Nat} {R : List Rw} (h : Own w wr R) (o : w0.ownsRow wr.heap.size 34 2 (.slice (some ⟨wr.heap.size, 0, .none⟩) n n) n (madeCells (Value.agg #[.int .i64 0, .int .i64 0]).cells (n * 2)).toList) (g : wr.grownBy w0 .none) :
    Own w w0 (hrow (.slice (some ⟨wr.heap.size, 0, .none⟩) n n) (List.replicate n (0, 0)) :: R) := by
  have e : (madeCells (Value.agg #[.int .i64 0, .int .i64 0]).cells (n * 2)).toList = hcells (List.replicate n (0, 0)) := made_two n
  rw [e] at o
  have b : Below wr.heap.size wr w0 := (Below.refl _ _).grown g (Nat.le_refl _) (fun k e => by cases e)
  have k := h.add b o
  unfold hrow
  rw [List.length_replicate]
  exact k

set_option maxHeartbeats 1000000 in
theorem toHangs_any (A : Option Addr) (c n : Nat) (L : List Hg) (w : World) (hn : L.length = n) (hm : n ≤ 1048576) (h : HangRow w A L) :
    Calls Try.prog 22 #[.slice A n c] w (HCopied L w) := by
  obtain ⟨i0, hi, hz0, hz1, hz2⟩ := info_parts Try.infoHangT
  have O0 := Own.none w
  go_enter Try.func22, Try.ntmps22
  go_wp2_with (at_make; refine wpList_make_full _ rfl _ _ 24 rfl w.heap.size 34 i0 (.agg #[.int .i64 0, .int .i64 0]) 2 Try.underlying24 hi hz0 hz1 .i64 .i64 _ _ n rfl rfl rfl rfl (by rw [hz2]; omega) (by unfold maxLen; omega) (Nat.le_refl _) ?_; intro w0 hown0 hgrow0)
  replace O0 := O0.hmade hown0 hgrow0
  rw [show List.replicate n (0, 0) = cpTo L 0 by unfold cpTo; rw [Nat.sub_zero, hn]; rfl] at O0
  clear hgrow0 hown0
  go_loopw [4] (fun i wr => ∃ k : Nat, k ≤ n ∧ i = .int .i64 k ∧ Own w wr [hrow (.slice (some ⟨w.heap.size, 0, none⟩) n n) (cpTo L k)]) (fun i _ => n - (intOf i).toNat)
  case atStart => exact ⟨0, by omega, rfl, O0⟩
  case round =>
    clear O0
    obtain ⟨k, hk, rfl, O⟩ := hrel
    by_cases hlt : k < n
    · obtain ⟨x, rfl, hx, hc, hd, -⟩ := h.at (j := k) (by omega)
      have hl : (cpTo L k).length = n := by rw [cpTo_len (by omega)]; exact hn
      have hs := cpTo_set (L := L) (k := k) (by omega)
      obtain ⟨X, Y, hp⟩ : ∃ X Y, hget L k = (X, Y) := ⟨_, _, rfl⟩
      rw [hp] at hc hd hs
      have hc1 : wr.cell? (x.add (k * 2)) = some (.int .i64 X) := (O.bel.cell (by rw [addr_add_block]; exact hx)).trans hc
      have hd1 : wr.cell? (x.add (k * 2 + 1)) = some (.int .i64 Y) := (O.bel.cell (by rw [addr_add_block]; exact hx)).trans hd
      have hd2 : wr.cell? ⟨(x.add (k * 2)).block, (x.add (k * 2)).off + 1, none⟩ = some (.int .i64 Y) := by rw [addr_next]; exact hd1
      clear hc hd h hp
      have hT := fun W => toHang_any X Y W
      go_wp2_with fail
      refine (hT _).mono ?_
      rintro e w1 ⟨rfl, b⟩
      replace O := O.keep b
      obtain ⟨c0, c1⟩ := O.hcell hl hlt
      obtain ⟨f0, f1, O2⟩ := O.hput hl hlt X Y
      rw [hs] at O2
      clear O b hc1 hd1 hd2 hs hT
      go_wp2_with fail
      go_roundw
      case rel => exact ⟨k + 1, by omega, by go_num, O2⟩
      case measure => simp [intOf]; omega
    · obtain rfl : k = n := by omega
      subst hn
      rw [cpTo_all] at O
      have hend : HCopied L w (.returned (.slice (some ⟨w.heap.size, 0, none⟩) L.length L.length)) wr := O.hcopied
      clear O h
      go_wp2
      go_ret
      exact hend

/-! ### Equal slices -/
theorem undrew_h {w w' : World} (b : Below w.drew.heap.size w.drew w') : Below w.heap.size w w' := ⟨b.os, b.tape, b.output, b.size, b.block⟩
theorem eqHang_any (t b : Int) (w : World) : Calls Try.prog 44 #[.agg #[.int .i64 t, .int .i64 b], .agg #[.int .i64 t, .int .i64 b]] w (SaysB true w) := by
  go_enter Try.func44, Try.ntmps44
  go_wp2_with fail
  go_ret
  refine ⟨rfl, ?_⟩
  repeat' (first | exact Below.refl _ _ | refine Below.setCell ?_ (by simp <;> omega) _ | refine Below.alloc ?_ (by simp <;> omega) _)
theorem eqHangs_same (A A' : Option Addr) (n c c' : Nat) (L : List Hg) (w : World) (hn : L.length = n) (hm : n ≤ 1000000000) (h : HangRow w A L) (h' : HangRow w A' L) :
    Calls Try.prog 24 #[.slice A n c, .slice A' n c'] w (SaysB true w) := by
  go_enter Try.func24, Try.ntmps24
  go_wp2_with fail
  go_loopw [5] (fun i wr => ∃ k : Nat, k ≤ n ∧ i = .int .i64 k ∧ Below w.heap.size w wr) (fun i _ => n - (intOf i).toNat)
  case atStart => exact ⟨0, by omega, rfl, Below.refl _ _⟩
  case round =>
    obtain ⟨k, hk, rfl, b⟩ := hrel
    by_cases hlt : k < n
    · obtain ⟨x, rfl, hx, hc0, hc, hc2⟩ := (h.keep b).at (j := k) (by omega)
      obtain ⟨y, rfl, hy, hd0, hd, hd2⟩ := (h'.keep b).at (j := k) (by omega)
      clear h h'
      obtain ⟨X, Y, hXY⟩ : ∃ X Y, hget L k = (X, Y) := ⟨_, _, rfl⟩
      rw [hXY] at hc0 hc hc2 hd0 hd hd2
      have hT := fun W => eqHang_any X Y W
      clear hXY
      go_wp2_with fail
      go_region_law (go_simp; go_at_call 44; refine (hT _).mono ?_; rintro e w1 ⟨rfl, b1⟩)
      all_goals
        have b2 := b.trans ((undrew_h b1).mono b.size)
        clear hc0 hc hc2 hd0 hd hd2 hT b b1
        go_wp2_with fail
        go_roundw
        case rel => exact ⟨k + 1, by omega, by go_num, b2⟩
        case measure => simp [intOf]; omega
    · clear h h'
      go_wp2_with fail
      go_ret
      exact ⟨rfl, b⟩

/-! ### Marks -/
/-- The hangs that marks from s on make. -/
def hmarks (s : Int) (n : Nat) : List Hg := (List.range n).map fun j => (s + 2 * (j : Nat), s + 2 * (j : Nat) + 1)
theorem hmarks_length (s : Int) (n : Nat) : (hmarks s n).length = n := by simp [hmarks]
theorem hmarks_get {s : Int} {n j : Nat} (h : j < n) : hget (hmarks s n) j = (s + 2 * (j : Nat), s + 2 * (j : Nat) + 1) := by
  unfold hmarks hget
  rw [List.getD_eq_getElem?_getD, List.getElem?_map, List.getElem?_range h]; rfl
/-- k marks, and what was there. -/
def hmarksTo (s : Int) (k : Nat) (L : List Hg) : List Hg := hmarks s k ++ L.drop k
theorem hmarksTo_len {s : Int} {k : Nat} {L : List Hg} (h : k ≤ L.length) : (hmarksTo s k L).length = L.length := by
  unfold hmarksTo
  rw [List.length_append, hmarks_length, List.length_drop]; omega
theorem hmarksTo_zero (s : Int) (L : List Hg) : hmarksTo s 0 L = L := by simp [hmarksTo, hmarks]
theorem hmarksTo_set {s : Int} {k : Nat} {L : List Hg} (h : k < L.length) : (hmarksTo s k L).set k (s + 2 * (k : Nat), s + 2 * (k : Nat) + 1) = hmarksTo s (k + 1) L := by
  unfold hmarksTo
  rw [List.set_append_right _ _ (by rw [hmarks_length]; omega), hmarks_length, Nat.sub_self]
  have e : hmarks s (k + 1) = hmarks s k ++ [(s + 2 * (k : Nat), s + 2 * (k : Nat) + 1)] := by
    unfold hmarks
    rw [List.range_succ, List.map_append]; rfl
  rw [e, List.append_assoc]
  congr 1
  rw [List.drop_eq_getElem_cons h]
  rfl
theorem hmarksTo_all {s : Int} {n : Nat} {L : List Hg} (h : L.length = n) : hmarksTo s n L = hmarks s n := by
  unfold hmarksTo
  rw [List.drop_of_length_le (by omega), List.append_nil]
def HMarked (w0 : World) (R : List Rw) (s : Int) (n : Nat) (v : Value) (e : Ending) (w' : World) : Prop := e = .returned (.int .i64 (s + 2 * (n : Nat))) ∧ Own w0 w' (hrow v (hmarks s n) :: R)
/-- The first row is marked. -/
theorem hmark_any (w0 : World) (R : List Rw) (s : Int) (n c : Nat) (A : Option Addr) (L : List Hg) (w : World) (hn : L.length = n) (hm : n ≤ 1000000000) (hs0 : 0 ≤ s) (hs : s ≤ 1000000000) (h : Own w0 w (hrow (.slice A n c) L :: R)) :
    Calls Try.prog 31 #[.slice A n c, .int .i64 s] w (HMarked w0 R s n (.slice A n c)) := by
  have hni : (n : Int) ≤ 1000000000 := by omega
  clear hm
  go_enter Try.func31, Try.ntmps31
  go_wp2_with fail
  go_loopw [5, 1] (fun i m wr => ∃ k : Nat, k ≤ n ∧ i = .int .i64 k ∧ m = .int .i64 (s + 2 * (k : Nat)) ∧ Own w0 wr (hrow (.slice A n c) (hmarksTo s k L) :: R)) (fun i _ _ => n - (intOf i).toNat)
  case atStart => exact ⟨0, by omega, rfl, by simp, by rw [hmarksTo_zero]; exact h⟩
  case round =>
    clear h
    obtain ⟨k, hk, rfl, rfl, O⟩ := hrel
    by_cases hlt : k < n
    · have hl : (hmarksTo s k L).length = n := by rw [hmarksTo_len (by omega)]; exact hn
      obtain ⟨g, cc, hA⟩ := hrow_form O (by omega)
      injection hA with hA
      subst hA
      obtain ⟨c0, c1⟩ := O.hcell hl hlt
      obtain ⟨f0, f1, O2⟩ := O.hput hl hlt (s + 2 * (k : Nat)) (s + 2 * (k : Nat) + 1)
      rw [hmarksTo_set (by omega)] at O2
      clear hl O
      go_wp2_with fail
      go_roundw
      case rel => exact ⟨k + 1, by omega, by go_num, congrArg (Value.int .i64) (by omega), O2⟩
      case measure => simp [intOf]; omega
    · obtain rfl : k = n := by omega
      rw [hmarksTo_all hn] at O
      have hend : HMarked w0 R s k (.slice A k c) (.returned (.int .i64 (s + 2 * (k : Nat)))) wr := ⟨rfl, O⟩
      clear O
      go_wp2_with fail
      go_ret
      exact hend
/-- Held marks are found. -/
theorem hheld_any (s : Int) (n c : Nat) (A : Option Addr) (w : World) (hm : n ≤ 1000000000) (hs0 : 0 ≤ s) (hs : s ≤ 1000000000) (h : HangRow w A (hmarks s n)) :
    Calls Try.prog 32 #[.slice A n c, .int .i64 s] w fun e w' => e = .returned (.int .i64 (s + 2 * (n : Nat))) ∧ w = w' := by
  have hni : (n : Int) ≤ 1000000000 := by omega
  clear hm
  go_enter Try.func32, Try.ntmps32
  go_wp2_with fail
  go_loopw [5, 1] (fun i m wr => ∃ k : Nat, k ≤ n ∧ i = .int .i64 k ∧ m = .int .i64 (s + 2 * (k : Nat)) ∧ wr = w) (fun i _ _ => n - (intOf i).toNat)
  case atStart => exact ⟨0, by omega, rfl, by simp, rfl⟩
  case round =>
    obtain ⟨k, hk, rfl, rfl, rfl⟩ := hrel
    by_cases hlt : k < n
    · obtain ⟨x, rfl, -, hc, hd, hd2⟩ := h.at (j := k) (by rw [hmarks_length]; omega)
      rw [hmarks_get hlt] at hc hd hd2
      clear h
      go_wp2_with fail
      go_roundw
      case rel => exact ⟨k + 1, by omega, by go_num, congrArg (Value.int .i64) (by omega), trivial⟩
      case measure => simp [intOf]; omega
    · obtain rfl : k = n := by omega
      clear h
      go_wp2_with fail
      go_ret
      exact ⟨rfl, rfl⟩
end Go.Proofs.Ytajndcggafjmeaa
