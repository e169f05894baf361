/-
  Contracts of the draws' functions on texts: a drawn text is some string of at most n bytes (n up to 5000); a long text is n bytes of one kind.
-/
import Derived.Test.YtepgficheibbfaaDoorBelow
import Derived.Test.YtepgficheibbfaaDoorFigure
namespace Go.Proofs.YtepgficheibbfaaDoor
open Go.ChangeShapes Go.WideShapes Go.ChangeAt Go.RowKit Go.PlainAid

theorem Tryd.infoByteT : (Tryd.prog.info? 5).map (fun i => (i.zero, i.size, i.bytes)) = some (some (.int .u8 0), 1, 1) := by kernel_rfl

theorem grown_own {w wr w1 : World} {p B : Nat} {e : TypeId} {size n : Nat} {v : Value} {xs : List Value} {o : Obj} (hg : w.grownBy wr (some p)) (hown : wr.ownsRow B e size v n xs) (hB : w.heap.size ≤ B) (h1 : (wr.alloc o).grownBy w1 v.ownBlock) : w.grownBy w1 (some p) := by
  have hs := hg.size
  refine ⟨h1.os.trans hg.os, h1.tape.trans hg.tape, h1.output.trans hg.output, Nat.le_trans hs (Nat.le_trans (by simp) h1.size), fun k hk hne => ?_⟩
  have h2 : some k ≠ v.ownBlock := fun e => by have := (hown.lt k e.symm).1; omega
  rw [h1.block k (by simp; omega) h2, Below.heap_alloc _ _ _ (by omega), hg.block k hk hne]

/-- What a drawn text is: some string of at most n bytes; the cursor stands; beside it only new memory. -/
def DrawnText (n : Nat) (w : World) (p : Nat) (a : Option Addr) (len cap : Nat) (e : Ending) (w' : World) : Prop :=
  ∃ s : ByteArray, s.size ≤ n ∧ e = .returned (.string s) ∧ Cur w' p a len cap ∧ w.grownBy w' (some p)

/-- The loop's state. -/
def TextSt (w : World) (p : Nat) (a : Option Addr) (len cap : Nat) (v : Value) (k : Nat) (wr : World) : Prop :=
  ∃ xs : List Int, xs.length = k ∧ Cur wr p a len cap ∧ wr.ownsRow w.heap.size 5 1 v k (xs.map (Value.int .u8)) ∧ w.grownBy wr (some p)
theorem textSt_start {w : World} {p : Nat} {a : Option Addr} {len cap : Nat} (C : Cur w p a len cap) : TextSt w p a len cap (.slice (some ⟨w.heap.size, 0, none⟩) 0 0) 0 (w.alloc (.cells #[] 5)) :=
  ⟨[], rfl, C.alloc _, World.ownsRow_made w #[] 0 (Nat.le_refl _) (by decide) rfl, World.grownBy_alloc w _ _⟩
/-- A byte is drawn in between. -/
theorem textSt_drawn {w wr w1 : World} {p : Nat} {a : Option Addr} {len cap k : Nat} {v : Value} (hp : p < w.heap.size) (h : TextSt w p a len cap v k wr) (C : Cur w1 p a len cap) (g : wr.grownBy w1 (some p)) : TextSt w p a len cap v k w1 := by
  obtain ⟨xs, hl, _, hown, hg⟩ := h
  refine ⟨xs, hl, C, hown.kept g ?_, grown_trans hg g⟩
  rcases e : v.ownBlock with _ | q
  · exact .inl rfl
  · refine .inr fun h => ?_
    injection h with h
    have := (hown.lt q e).1
    omega
theorem textSt_append {w wr w1 : World} {p : Nat} {a : Option Addr} {len cap k : Nat} {v v' : Value} {o : Obj} {z : Int} {xs : List Int} (hp : p < w.heap.size) (hl : xs.length = k) (C : Cur wr p a len cap) (hown : wr.ownsRow w.heap.size 5 1 v k (xs.map (Value.int .u8))) (hg : w.grownBy wr (some p))
    (hown1 : w1.ownsRow w.heap.size 5 1 v' (k + 1) (xs.map (Value.int .u8) ++ [.int .u8 z])) (hgrow1 : (wr.alloc o).grownBy w1 v.ownBlock) : TextSt w p a len cap v' (k + 1) w1 := by
  refine ⟨xs ++ [z], by rw [List.length_append, hl]; rfl, (C.alloc o).grown hgrow1 (fun g e => ?_), ?_, grown_own hg hown (Nat.le_refl _) hgrow1⟩
  · have := (hown.lt g e).1
    omega
  · rw [List.map_append]
    exact hown1

theorem text_any (n : Nat) (hn : n ≤ 5000) (p len cap : Nat) (a : Option Addr) (w : World) (C : Cur w p a len cap) :
    Calls Tryd.prog 25 #[.pointer (some ⟨p, 0, none⟩), .int .i64 (n : Int)] w (DrawnText n w p a len cap) := by
  obtain ⟨i0, hi, hz0, hz1, hz2⟩ := info_parts Tryd.infoByteT
  have hp := C.lt
  have hst0 := textSt_start C
  have hni : ¬ (5000 : Int) < n := by omega
  clear C
  go_enter Tryd.func25, Tryd.ntmps25
  go_wp2
  go_loopw [5, 6] (fun v i wr => ∃ k : Nat, k ≤ n ∧ i = .int .i64 k ∧ TextSt w p a len cap v k wr) (fun _ i _ => n - (intOf i).toNat)
  case atStart => exact ⟨0, by omega, rfl, hst0⟩
  case round =>
    clear hst0
    obtain ⟨k, hk, rfl, hst⟩ := hrel
    by_cases hlt : k < n
    · have hC : Cur wr p a len cap := by obtain ⟨_, _, hC, _⟩ := hst; exact hC
      have hB := byte_any p len cap a wr hC
      clear hC
      go_wp2_with fail
      refine hB.mono ?_
      rintro e w1 ⟨x, ⟨x0, x1⟩, rfl, C1, g1⟩
      obtain ⟨xs, hl, C2, hown, hg⟩ := textSt_drawn hp hst C1 g1
      have hsz := hg.size
      clear hB hst C1 g1
      go_wp2_with (at_builtin; refine wpList_append_own _ rfl (.tmp 15) (.tmp 19) 22 rfl w.heap.size 5 i0 (.int .u8 0) 1 1 Tryd.underlying22 hi hz0 hz1 hz2 rfl (by decide) u5 k _ rfl (hown.alloc _) ⟨w1.heap.size, 0, none⟩ 1 1 [_] rfl rfl (news_new _ [_] _) (by simp [Value.oneCell']) (by unfold maxLen; omega) (by omega) (by simp; omega) ?_; intro v' w2 hown1 hgrow1 _)
      have R := textSt_append hp hl C2 hown hg hown1 hgrow1
      clear hown1 hgrow1 hown C2 hg
      go_wp2
      go_roundw
      case rel => exact ⟨k + 1, by omega, by go_num, R⟩
      case measure => simp [intOf]; omega
    · obtain rfl : k = n := by omega
      obtain ⟨xs, hl, C2, hown, hg⟩ := hst
      have hconv := conv_own (P := Tryd.prog) wr 22 9 5 Tryd.underlying22 Tryd.underlying5 Tryd.underlying9 _ _ _ _ hown
      have hz : (strOfNums xs).size ≤ k := by rw [strOfNums_size]; omega
      have hend : DrawnText k w p a len cap (.returned (.string (strOfNums xs))) wr := ⟨_, hz, rfl, C2, hg⟩
      clear hown C2 hg hz hl
      go_wp2
      go_ret
      exact hend

/-- A long text: n bytes x. -/
def LongText (n : Nat) (x : Int) (w : World) (e : Ending) (w' : World) : Prop := e = .returned (.string (strOfNums (List.replicate n x))) ∧ Below w.heap.size w w'
def longTo (n : Nat) (x : Int) (k : Nat) : List Value := List.replicate k (.int .u8 x) ++ List.replicate (n - k) (.int .u8 0)
theorem longTo_len {n : Nat} {x : Int} {k : Nat} (hk : k ≤ n) : (longTo n x k).length = n := by
  unfold longTo
  rw [List.length_append, List.length_replicate, List.length_replicate]; omega
theorem longTo_set {n : Nat} {x : Int} {k : Nat} (hk : k < n) : (longTo n x k).set k (.int .u8 x) = longTo n x (k + 1) := by
  unfold longTo
  rw [List.set_append_right _ _ (by rw [List.length_replicate]; omega), List.length_replicate, Nat.sub_self]
  obtain ⟨m, hm⟩ : ∃ m, n - k = m + 1 := ⟨n - k - 1, by omega⟩
  have hm2 : n - (k + 1) = m := by omega
  rw [hm, hm2, List.replicate_succ (n := m), List.set_cons_zero, List.replicate_succ' (n := k), List.append_assoc]
  rfl
theorem longTo_all (n : Nat) (x : Int) : longTo n x n = (List.replicate n x).map (Value.int .u8) := by
  unfold longTo
  rw [Nat.sub_self, List.replicate_zero, List.append_nil, List.map_replicate]
theorem long_rel {w wr : World} {n k g c : Nat} {x : Int} (hk : k < n) (hown : wr.ownsRow w.heap.size 5 1 (.slice (some ⟨g, 0, none⟩) n c) n (longTo n x k)) (hb : Below w.heap.size w wr) :
    (∃ u, wr.cell? ⟨g, k, none⟩ = some u) ∧ wr.frozen? ⟨g, k, none⟩ = false ∧ (wr.setCell ⟨g, k, none⟩ (.int .u8 x)).ownsRow w.heap.size 5 1 (.slice (some ⟨g, 0, none⟩) n c) n (longTo n x (k + 1)) ∧ Below w.heap.size w (wr.setCell ⟨g, k, none⟩ (.int .u8 x)) := by
  obtain ⟨s1, s2⟩ := hown.stored k (.int .u8 x)
  rw [longTo_set hk] at s1
  refine ⟨⟨_, (hown.cellAt k (by omega)).trans (List.getElem?_eq_getElem (by rw [longTo_len (by omega)]; exact hk))⟩, hown.frozenAt k, s1, hb.setCell (hown.lt g rfl).1 _⟩

theorem long_any (n : Nat) (x : Int) (w : World) (hn : n ≤ 100000) :
    Calls Tryd.prog 23 #[.int .i64 (n : Int), .int .u8 x] w (LongText n x w) := by
  obtain ⟨i0, hi, hz0, hz1, hz2⟩ := info_parts Tryd.infoByteT
  go_enter Tryd.func23, Tryd.ntmps23
  go_wp2_with (at_make; refine wpList_make_full _ rfl _ _ 22 rfl w.heap.size 5 i0 (.int .u8 0) 1 Tryd.underlying22 hi hz0 hz1 .i64 .i64 _ _ n rfl rfl rfl rfl (by rw [hz2]; omega) (by unfold maxLen; omega) (Nat.le_refl _) ?_; intro w0 hown0 hgrow0)
  have hbel0 : Below w.heap.size w w0 := (Below.refl _ _).grown hgrow0 (Nat.le_refl _) (fun k e => by cases e)
  have hown1 : w0.ownsRow w.heap.size 5 1 (.slice (some ⟨w.heap.size, 0, none⟩) n n) n (longTo n x 0) := by
    have e : (madeCells (Value.int .u8 0).cells (n * 1)).toList = longTo n x 0 := by
      show (madeCells #[Value.int .u8 0] (n * 1)).toList = _
      rw [toList_madeCells_one, Nat.mul_one]
      unfold longTo
      rw [Nat.sub_zero]; rfl
    rw [← e]
    exact hown0
  clear hgrow0 hown0
  go_loopw [6] (fun i wr => ∃ k : Nat, k ≤ n ∧ i = .int .i64 k ∧ wr.ownsRow w.heap.size 5 1 (.slice (some ⟨w.heap.size, 0, none⟩) n n) n (longTo n x k) ∧ Below w.heap.size w wr) (fun i _ => n - (intOf i).toNat)
  case atStart => exact ⟨0, by omega, rfl, hown1, hbel0⟩
  case round =>
    clear hown1 hbel0
    obtain ⟨k, hk, rfl, hown, hbel⟩ := hrel
    by_cases hlt : k < n
    · obtain ⟨⟨u, hc⟩, hf, h1, h2⟩ := long_rel hlt hown hbel
      clear hown hbel
      go_wp2
      go_roundw
      case rel => exact ⟨k + 1, by omega, by go_num, h1, h2⟩
      case measure => simp [intOf]; omega
    · obtain rfl : k = n := by omega
      rw [longTo_all] at hown
      have hconv := conv_own (P := Tryd.prog) wr 22 9 5 Tryd.underlying22 Tryd.underlying5 Tryd.underlying9 _ _ _ _ hown
      have hend : LongText k x w (.returned (.string (strOfNums (List.replicate k x)))) wr := ⟨rfl, hbel⟩
      clear hown hbel
      go_wp2
      go_ret
      exact hend
end Go.Proofs.YtepgficheibbfaaDoor
