/-
  The exact laws' own helpers on slices of Part: an own copy; equal slices compare equal; marks are written into every place; held marks are found. No condition but that the slices are short.
-/
import Derived.Test.YthefcbninpkncaaParts
import Derived.Laws.ResultCell
namespace Go.Proofs.Ythefcbninpkncaa
open Go.ChangeShapes Go.WideShapes Go.ChangeAt Go.RowKit Go.PlainAid

theorem Try.infoPartT : (Try.prog.info? 33).map (fun i => (i.zero, i.size, i.bytes)) = some (some (.agg #[.int .i64 0, .int .i64 0, .int .i64 0, .int .i64 0, .int .i64 0]), 5, 40) := by kernel_rfl
theorem ptresults_one {fn : Func} {q : Tmp} {ty : TypeId} (h : fn.results = #[.cell q ty]) (tmps : Array Value) (P : Program) (w : World) :
    (results fn tmps).run P w = ((asAddr (tmps.getD q undef)).run P w).andThen fun a w₁ => (loadVar ty a).run P w₁ := by
  simp only [results, h]
  simp [Sem.run_bind, Result.andThen]
def ptSays (w : World) (e : Ending) (w' : World) : Prop := e = .returned (.bool true) ∧ Below w.heap.size w w'

theorem szPart_in (A : Option Addr) (n c : Nat) (w : World) (h : n ≤ 1048576) : Calls Try.prog 17 #[.slice A n c, .int .i64 1048576] w fun e w' => e = .returned (.int .i64 (1048576 - n)) ∧ w = w' := by
  have h1 : ¬ ((1048576 : Int) - n < 0) := by omega
  go_enter Try.func17, Try.ntmps17
  go_wp2_with fail
  go_ret
  exact ⟨rfl, rfl⟩
theorem szPart_out (A : Option Addr) (n c : Nat) (w : World) (h : 1048576 < n) (hm : n ≤ 9223372036854775807) : Calls Try.prog 17 #[.slice A n c, .int .i64 1048576] w fun e w' => e = .returned (.int .i64 (-1)) ∧ w = w' := by
  have h1 : (1048576 : Int) - n < 0 := by omega
  go_enter Try.func17, Try.ntmps17
  go_wp2_with fail
  go_ret
  exact ⟨rfl, rfl⟩

set_option maxHeartbeats 1000000 in
theorem toPart_any (y0 y1 y2 y3 y4 : Int) (w : World) : Calls Try.prog 37 #[.agg #[.int .i64 y0, .int .i64 y1, .int .i64 y2, .int .i64 y3, .int .i64 y4]] w fun e w' => e = .returned (.agg #[.int .i64 y0, .int .i64 y1, .int .i64 y2, .int .i64 y3, .int .i64 y4]) ∧ Below w.heap.size w w' := by
  go_enter Try.func37, Try.ntmps37
  go_wp2_with fail
  (try simp only [Exit.inBlock, Exit.then])
  refine bodyPost_ret (v := .agg #[.int .i64 y0, .int .i64 y1, .int .i64 y2, .int .i64 y3, .int .i64 y4]) ?_ rfl ⟨rfl, ?_⟩
  · rw [ptresults_one rfl]
    go_simp
  · repeat' (first | exact Below.refl _ _ | refine Below.setCell ?_ (by simp <;> omega) _ | refine Below.alloc ?_ (by simp <;> omega) _)

def ptcpTo (L : List PartT) (k : Nat) : List PartT := L.take k ++ List.replicate (L.length - k) ⟨0, 0, 0, 0, 0⟩
theorem ptcpTo_len {L : List PartT} {k : Nat} (hk : k ≤ L.length) : (ptcpTo L k).length = L.length := by
  unfold ptcpTo
  rw [List.length_append, List.length_replicate, List.length_take]; omega
theorem ptcpTo_set {L : List PartT} {k : Nat} (hk : k < L.length) : (ptcpTo L k).set k (ptget L k) = ptcpTo L (k + 1) := by
  unfold ptcpTo ptget
  have hl : (L.take k).length = k := by rw [List.length_take]; omega
  rw [List.set_append_right _ _ (by omega), hl, Nat.sub_self]
  obtain ⟨r, hr⟩ : ∃ r, L.length - k = r + 1 := ⟨L.length - k - 1, by omega⟩
  have hr2 : L.length - (k + 1) = r := by omega
  rw [hr, hr2, List.replicate_succ, List.set_cons_zero, List.take_succ_eq_append_getElem hk, List.getD_eq_getElem?_getD, List.getElem?_eq_getElem hk, List.append_assoc]; rfl
theorem ptcpTo_all (L : List PartT) : ptcpTo L L.length = L := by
  unfold ptcpTo
  rw [Nat.sub_self, List.replicate_zero, List.append_nil, List.take_length]
theorem ptmade (n : Nat) : (madeCells #[Value.int .i64 0, Value.int .i64 0, Value.int .i64 0, Value.int .i64 0, Value.int .i64 0] (n * 5)).toList = ptcells (List.replicate n ⟨0, 0, 0, 0, 0⟩) := by
  induction n with
  | zero => simp [madeCells, ptcells]
  | succ n ih =>
    rw [List.replicate_succ', ptcells_app, ← ih]
    unfold madeCells
    rw [show (n + 1) * 5 = n * 5 + 1 + 1 + 1 + 1 + 1 by omega, Array.range_succ, Array.range_succ, Array.range_succ, Array.range_succ, Array.range_succ]
    have h0 : (n * 5) % 5 = 0 := by omega
    have h1 : (n * 5 + 1) % 5 = 1 := by omega
    have h2 : (n * 5 + 1 + 1) % 5 = 2 := by omega
    have h3 : (n * 5 + 1 + 1 + 1) % 5 = 3 := by omega
    have h4 : (n * 5 + 1 + 1 + 1 + 1) % 5 = 4 := by omega
    simp [h0, h1, h2, h3, h4]
theorem ptrow_made {w wr w0 : World} {n : Nat} {R : List Rw} (h : Own w wr R) (o : w0.ownsRow wr.heap.size 33 5 (.slice (some ⟨wr.heap.size, 0, .none⟩) n n) n (madeCells (Value.agg #[.int .i64 0, .int .i64 0, .int .i64 0, .int .i64 0, .int .i64 0]).cells (n * 5)).toList) (g : wr.grownBy w0 .none) :
    Own w w0 (ptrow (.slice (some ⟨wr.heap.size, 0, .none⟩) n n) (List.replicate n ⟨0, 0, 0, 0, 0⟩) :: R) := by
  have e : (madeCells (Value.agg #[.int .i64 0, .int .i64 0, .int .i64 0, .int .i64 0, .int .i64 0]).cells (n * 5)).toList = ptcells (List.replicate n ⟨0, 0, 0, 0, 0⟩) := ptmade n
  rw [e] at o
  have b : Below wr.heap.size wr w0 := (Below.refl _ _).grown g (Nat.le_refl _) (fun k e => by cases e)
  have k := h.add b o
  unfold ptrow
  rw [List.length_replicate]
  exact k

set_option maxHeartbeats 2000000 in
theorem toParts_any (A : Option Addr) (c n : Nat) (L : List PartT) (w : World) (hn : L.length = n) (hm : n ≤ 1048576) (h : PartRow w A L) :
    Calls Try.prog 19 #[.slice A n c] w (PartCopied L w) := by
  obtain ⟨i0, hi, hz0, hz1, hz2⟩ := info_parts Try.infoPartT
  have O0 := Own.none w
  go_enter Try.func19, Try.ntmps19
  go_wp2_with (at_make; refine wpList_make_full _ rfl _ _ 24 rfl w.heap.size 33 i0 (.agg #[.int .i64 0, .int .i64 0, .int .i64 0, .int .i64 0, .int .i64 0]) 5 Try.underlying24 hi hz0 hz1 .i64 .i64 _ _ n rfl rfl rfl rfl (by rw [hz2]; omega) (by unfold maxLen; omega) (Nat.le_refl _) ?_; intro w0 hown0 hgrow0)
  replace O0 := ptrow_made O0 hown0 hgrow0
  rw [show List.replicate n (⟨0, 0, 0, 0, 0⟩ : PartT) = ptcpTo L 0 by unfold ptcpTo; rw [Nat.sub_zero, hn]; rfl] at O0
  clear hgrow0 hown0
  go_loopw [4] (fun i wr => ∃ k : Nat, k ≤ n ∧ i = .int .i64 k ∧ Own w wr [ptrow (.slice (some ⟨w.heap.size, 0, none⟩) n n) (ptcpTo L k)]) (fun i _ => n - (intOf i).toNat)
  case atStart => exact ⟨0, by omega, rfl, O0⟩
  case round =>
    clear O0
    obtain ⟨k, hk, rfl, O⟩ := hrel
    by_cases hlt : k < n
    · obtain ⟨x, rfl, hx, c0, d1, d2, d3, d4⟩ := (PartRow.keep h O.bel).at (j := k) (by omega)
      replace c0 := c0.1
      have hl : (ptcpTo L k).length = n := by rw [ptcpTo_len (by omega)]; exact hn
      have hs := ptcpTo_set (L := L) (k := k) (by omega)
      obtain ⟨y, hp⟩ : ∃ y, ptget L k = y := ⟨_, rfl⟩
      rw [hp] at c0 d1 d2 d3 d4 hs
      clear h hp
      have hT := fun W => toPart_any y.left y.right y.armLeft y.armRight y.weight W
      go_wp2_with fail
      refine (hT _).mono ?_
      rintro e w1 ⟨rfl, b⟩
      replace O := O.keep b
      obtain ⟨p0, p1, p2, p3, p4⟩ := ptrow_cell O hl hlt
      have fr := ptrow_free O hl
      have O2 := ptrow_put O hl hlt y
      have f0 := fr (k * 5)
      have f1 := fr (k * 5 + 1)
      have f2 := fr (k * 5 + 2)
      have f3 := fr (k * 5 + 3)
      have f4 := fr (k * 5 + 4)
      rw [hs] at O2
      clear O b c0 d1 d2 d3 d4 hs hT fr
      go_wp2_with fail
      go_roundw
      case rel => exact ⟨k + 1, by omega, by go_num, O2⟩
      case measure => simp [intOf]; omega
    · obtain rfl : k = n := by omega
      subst hn
      rw [ptcpTo_all] at O
      have hend : PartCopied L w (.returned (.slice (some ⟨w.heap.size, 0, none⟩) L.length L.length)) wr := ptrow_copied O
      clear O h
      go_wp2
      go_ret
      exact hend

/-! ### Equal slices -/
theorem ptundrew {w w' : World} (b : Below w.drew.heap.size w.drew w') : Below w.heap.size w w' := ⟨b.os, b.tape, b.output, b.size, b.block⟩
set_option maxHeartbeats 1000000 in
theorem eqPart_any (y0 y1 y2 y3 y4 : Int) (w : World) : Calls Try.prog 41 #[.agg #[.int .i64 y0, .int .i64 y1, .int .i64 y2, .int .i64 y3, .int .i64 y4], .agg #[.int .i64 y0, .int .i64 y1, .int .i64 y2, .int .i64 y3, .int .i64 y4]] w (ptSays w) := by
  go_enter Try.func41, Try.ntmps41
  go_wp2_with fail
  go_ret
  refine ⟨rfl, ?_⟩
  repeat' (first | exact Below.refl _ _ | refine Below.setCell ?_ (by simp <;> omega) _ | refine Below.alloc ?_ (by simp <;> omega) _)
set_option maxHeartbeats 2000000 in
theorem eqParts_same (A A' : Option Addr) (n c c' : Nat) (L : List PartT) (w : World) (hn : L.length = n) (hm : n ≤ 1000000000) (h : PartRow w A L) (h' : PartRow w A' L) :
    Calls Try.prog 21 #[.slice A n c, .slice A' n c'] w (ptSays w) := by
  go_enter Try.func21, Try.ntmps21
  go_wp2_with fail
  go_loopw [5] (fun i wr => ∃ k : Nat, k ≤ n ∧ i = .int .i64 k ∧ Below w.heap.size w wr) (fun i _ => n - (intOf i).toNat)
  case atStart => exact ⟨0, by omega, rfl, Below.refl _ _⟩
  case round =>
    obtain ⟨k, hk, rfl, b⟩ := hrel
    by_cases hlt : k < n
    · obtain ⟨x, rfl, hx, c0, c1, c2, c3, c4⟩ := (h.keep b).at (j := k) (by omega)
      obtain ⟨y, rfl, hy, d0, d1, d2, d3, d4⟩ := (h'.keep b).at (j := k) (by omega)
      replace c0 := c0.1
      replace d0 := d0.1
      clear h h'
      generalize ptget L k = z at c0 d0 c1 d1 c2 d2 c3 d3 c4 d4
      have hT := fun W => eqPart_any z.left z.right z.armLeft z.armRight z.weight W
      go_wp2_with fail
      go_region_law (go_simp; go_at_call 41; refine (hT _).mono ?_; rintro e w1 ⟨rfl, b1⟩)
      all_goals
        have b2 := b.trans ((ptundrew b1).mono b.size)
        clear c0 d0 c1 d1 c2 d2 c3 d3 c4 d4 hT b b1
        go_wp2_with fail
        go_roundw
        case rel => exact ⟨k + 1, by omega, by go_num, b2⟩
        case measure => simp [intOf]; omega
    · clear h h'
      go_wp2_with fail
      go_ret
      exact ⟨rfl, b⟩

/-! ### Marks -/
def ptmk (s : Int) (j : Nat) : PartT := ⟨s + 5 * (j : Nat), s + 5 * (j : Nat) + 1, s + 5 * (j : Nat) + 2, s + 5 * (j : Nat) + 3, s + 5 * (j : Nat) + 4⟩
def ptmarks (s : Int) (n : Nat) : List PartT := (List.range n).map (ptmk s)
theorem ptmarks_length (s : Int) (n : Nat) : (ptmarks s n).length = n := by simp [ptmarks]
theorem ptmarks_get {s : Int} {n j : Nat} (h : j < n) : ptget (ptmarks s n) j = ptmk s j := by
  unfold ptmarks ptget
  rw [List.getD_eq_getElem?_getD, List.getElem?_map, List.getElem?_range h]; rfl
def ptmarksTo (s : Int) (k : Nat) (L : List PartT) : List PartT := ptmarks s k ++ L.drop k
theorem ptmarksTo_len {s : Int} {k : Nat} {L : List PartT} (h : k ≤ L.length) : (ptmarksTo s k L).length = L.length := by
  unfold ptmarksTo
  rw [List.length_append, ptmarks_length, List.length_drop]; omega
theorem ptmarksTo_zero (s : Int) (L : List PartT) : ptmarksTo s 0 L = L := by simp [ptmarksTo, ptmarks]
theorem ptmarksTo_set {s : Int} {k : Nat} {L : List PartT} (h : k < L.length) : (ptmarksTo s k L).set k (ptmk s k) = ptmarksTo s (k + 1) L := by
  unfold ptmarksTo
  rw [List.set_append_right _ _ (by rw [ptmarks_length]; omega), ptmarks_length, Nat.sub_self]
  have e : ptmarks s (k + 1) = ptmarks s k ++ [ptmk s k] := by
    unfold ptmarks
    rw [List.range_succ, List.map_append]; rfl
  rw [e, List.append_assoc]
  congr 1
  rw [List.drop_eq_getElem_cons h]
  rfl
theorem ptmarksTo_all {s : Int} {n : Nat} {L : List PartT} (h : L.length = n) : ptmarksTo s n L = ptmarks s n := by
  unfold ptmarksTo
  rw [List.drop_of_length_le (by omega), List.append_nil]
def PartMarked (w0 : World) (R : List Rw) (s : Int) (n : Nat) (v : Value) (e : Ending) (w' : World) : Prop := e = .returned (.int .i64 (s + 5 * (n : Nat))) ∧ Own w0 w' (ptrow v (ptmarks s n) :: R)
set_option maxHeartbeats 2000000 in
theorem markPart_any (w0 : World) (R : List Rw) (s : Int) (n c : Nat) (A : Option Addr) (L : List PartT) (w : World) (hn : L.length = n) (hm : n ≤ 1000000000) (hs0 : 0 ≤ s) (hs : s ≤ 1000000000) (h : Own w0 w (ptrow (.slice A n c) L :: R)) :
    Calls Try.prog 26 #[.slice A n c, .int .i64 s] w (PartMarked w0 R s n (.slice A n c)) := by
  have hni : (n : Int) ≤ 1000000000 := by omega
  clear hm
  go_enter Try.func26, Try.ntmps26
  go_wp2_with fail
  go_loopw [5, 1] (fun i u wr => ∃ k : Nat, k ≤ n ∧ i = .int .i64 k ∧ u = .int .i64 (s + 5 * (k : Nat)) ∧ Own w0 wr (ptrow (.slice A n c) (ptmarksTo s k L) :: R)) (fun i _ _ => n - (intOf i).toNat)
  case atStart => exact ⟨0, by omega, rfl, by simp, by rw [ptmarksTo_zero]; exact h⟩
  case round =>
    clear h
    obtain ⟨k, hk, rfl, rfl, O⟩ := hrel
    by_cases hlt : k < n
    · have hl : (ptmarksTo s k L).length = n := by rw [ptmarksTo_len (by omega)]; exact hn
      obtain ⟨g, cc, hA⟩ := ptrow_form O (by omega)
      injection hA with hA
      subst hA
      obtain ⟨p0, p1, p2, p3, p4⟩ := ptrow_cell O hl hlt
      have fr := ptrow_free O hl
      have f0 := fr (k * 5)
      have f1 := fr (k * 5 + 1)
      have f2 := fr (k * 5 + 2)
      have f3 := fr (k * 5 + 3)
      have f4 := fr (k * 5 + 4)
      have O2 := ptrow_put O hl hlt (ptmk s k)
      rw [ptmarksTo_set (by omega)] at O2
      unfold ptmk at O2
      dsimp only at O2
      clear hl O fr
      go_wp2_with fail
      go_roundw
      case rel => exact ⟨k + 1, by omega, by go_num, congrArg (Value.int .i64) (by omega), by simpa only [Int.add_assoc, Int.reduceAdd] using O2⟩
      case measure => simp [intOf]; omega
    · obtain rfl : k = n := by omega
      rw [ptmarksTo_all hn] at O
      have hend : PartMarked w0 R s k (.slice A k c) (.returned (.int .i64 (s + 5 * (k : Nat)))) wr := ⟨rfl, O⟩
      clear O
      go_wp2_with fail
      go_ret
      exact hend
set_option maxHeartbeats 2000000 in
theorem heldPart_any (s : Int) (n c : Nat) (A : Option Addr) (w : World) (hm : n ≤ 1000000000) (hs0 : 0 ≤ s) (hs : s ≤ 1000000000) (h : PartRow w A (ptmarks s n)) :
    Calls Try.prog 27 #[.slice A n c, .int .i64 s] w fun e w' => e = .returned (.int .i64 (s + 5 * (n : Nat))) ∧ w = w' := by
  have hni : (n : Int) ≤ 1000000000 := by omega
  clear hm
  go_enter Try.func27, Try.ntmps27
  go_wp2_with fail
  go_loopw [5, 1] (fun i u wr => ∃ k : Nat, k ≤ n ∧ i = .int .i64 k ∧ u = .int .i64 (s + 5 * (k : Nat)) ∧ wr = w) (fun i _ _ => n - (intOf i).toNat)
  case atStart => exact ⟨0, by omega, rfl, by simp, rfl⟩
  case round =>
    obtain ⟨k, hk, rfl, rfl, rfl⟩ := hrel
    by_cases hlt : k < n
    · obtain ⟨x, rfl, -, c0, d1, d2, d3, d4⟩ := h.at (j := k) (by rw [ptmarks_length]; omega)
      replace c0 := c0.1
      rw [ptmarks_get hlt] at c0 d1 d2 d3 d4
      unfold ptmk at c0 d1 d2 d3 d4
      dsimp only at c0 d1 d2 d3 d4
      clear h
      go_wp2_with fail
      go_roundw
      case rel => exact ⟨k + 1, by omega, by go_num, congrArg (Value.int .i64) (by omega), trivial⟩
      case measure => simp [intOf]; omega
    · obtain rfl : k = n := by omega
      clear h
      go_wp2_with fail
      go_ret
      exact ⟨rfl, rfl⟩
end Go.Proofs.Ythefcbninpkncaa
