/-
  The contract of the draw of a line: some string that is not long. The cursor's functions by their contracts.
-/
import Derived.Test.YtepgficheibbfaaDoorTexts
import Derived.Deep.LoopGhost
namespace Go.Proofs.YtepgficheibbfaaDoor
open Go.ChangeShapes Go.WideShapes Go.ChangeAt Go.RowKit Go.PlainAid

def DrawnBytes (m : Nat) (w : World) (p : Nat) (a : Option Addr) (len cap : Nat) (e : Ending) (w' : World) : Prop :=
  ∃ s : ByteArray, s.size ≤ m ∧ e = .returned (.string s) ∧ Cur w' p a len cap ∧ w.grownBy w' (some p)
def StrCells (w : World) (g n m : Nat) : Prop := ∀ j, j < n → ∃ z : ByteArray, w.cell? ⟨g, j, none⟩ = some (.string z) ∧ z.size ≤ m

def shortB (m : Nat) : Value → Bool
  | .string z => decide (z.size ≤ m)
  | _ => false
theorem short_of (m : Nat) : ∀ v : Value, shortB m v = true → ∃ z, v = .string z ∧ z.size ≤ m
  | .string z, h => by
    unfold shortB at h
    rw [decide_eq_true_eq] at h
    exact ⟨z, rfl, h⟩
theorem strCells_new (w : World) (cs : Array Value) (t : TypeId) (n m : Nat) (hn : n ≤ cs.size) (h : cs.toList.all (shortB m) = true) : StrCells (w.alloc (.cells cs t)) w.heap.size n m := fun j hj => by
  have hb := heap_alloc_new w (.cells cs t)
  have hc := cell_of_row (w.alloc (.cells cs t)) w.heap.size j _ _ _ hb
  have hj' : j < cs.size := by omega
  rw [Array.getElem?_eq_getElem hj'] at hc
  obtain ⟨z, hz, hf⟩ := short_of m cs[j] (List.all_eq_true.1 h _ (by simp))
  exact ⟨z, by rw [hc, hz], hf⟩

theorem pick_any (g n c m : Nat) (hn : 0 < n) (hn2 : n ≤ 256) (p len cap : Nat) (a : Option Addr) (w : World) (hg : g ≠ p) (hlt : g < w.heap.size) (hr : StrCells w g n m) (C : Cur w p a len cap) :
    Calls Tryd.prog 30 #[.pointer (some ⟨p, 0, none⟩), .slice (some ⟨g, 0, none⟩) n c] w (DrawnBytes m w p a len cap) := by
  have hn0 : (0 : Int) < n := by omega
  go_enter Tryd.func30, Tryd.ntmps30
  go_wp2_with fail
  refine (below_any n p len cap a _ C).mono ?_
  rintro e w1 ⟨x, ⟨-, hx⟩, rfl, C1, g1⟩
  obtain ⟨x0, x1⟩ := hx hn0
  obtain ⟨k, rfl⟩ := Int.eq_ofNat_of_zero_le x0
  clear hx
  obtain ⟨z, hz, hf⟩ := hr k (by omega)
  have hz1 : w1.cell? ⟨g, k, none⟩ = some (.string z) := (World.cell?_of_block (a := ⟨g, k, none⟩) (g1.block g hlt (fun e => hg (by injection e)))).trans hz
  clear hr hz
  go_wp2_with fail
  go_ret
  exact ⟨z, hf, rfl, C1, g1⟩

/-- A long text behind a cursor: the cursor stands. -/
theorem long_cur (n : Nat) (x : Int) (p len cap : Nat) (a : Option Addr) (w : World) (hn : n ≤ 100000) (C : Cur w p a len cap) :
    Calls Tryd.prog 23 #[.int .i64 (n : Int), .int .u8 x] w (DrawnBytes n w p a len cap) :=
  (long_any n x w hn).mono fun e w' ⟨he, hb⟩ => ⟨_, by rw [strOfNums_size, List.length_replicate]; exact Nat.le_refl _, he, C.below hb C.lt, ⟨hb.os, hb.tape, hb.output, hb.size, fun k hk _ => hb.block k hk⟩⟩

theorem one_own2 (w : World) (T : TypeId) (u : Value) : (w.alloc (.cells #[u] T)).ownsRow w.heap.size T 1 (.slice (some ⟨w.heap.size, 0, none⟩) 1 1) 1 [u] :=
  ⟨rfl, .inr ⟨w.heap.size, 1, #[u], rfl, Nat.le_refl _, heap_alloc_new w _, Nat.le_refl _, by decide, rfl, rfl⟩⟩

theorem long_int (z : Int) (h0 : 0 ≤ z) (h1 : z ≤ 100000) (x : Int) (p len cap : Nat) (a : Option Addr) (w : World) (C : Cur w p a len cap) :
    Calls Tryd.prog 23 #[.int .i64 z, .int .u8 x] w (DrawnBytes z.toNat w p a len cap) := by
  obtain ⟨n, rfl⟩ := Int.eq_ofNat_of_zero_le h0
  exact long_cur n x p len cap a w (by omega) C

theorem size_two (a b : ByteArray) : (a ++ b).size = a.size + b.size := ByteArray.size_append

def DrawnLine (B : Nat) (w : World) (e : Ending) (w' : World) : Prop := ∃ s : ByteArray, s.size ≤ 20000 ∧ e = .returned (.string s) ∧ Below B w w'

set_option maxHeartbeats 4000000 in
theorem drawSplit_any (B : Nat) (a : Option Addr) (len cap : Nat) (w : World) (hB : B = w.heap.size) (hl : len ≤ 1048576) (hr : Bytes w w.heap.size a len) :
    Calls Tryd.prog 15 #[.slice a len cap] w (DrawnLine B w) := by
  go_enter Tryd.func15, Tryd.ntmps15
  go_wp2_with fail
  refine (new_any a len cap w hl hr).mono ?_
  rintro e w0 ⟨rfl, C0, b0, s0⟩
  have bel : ∀ w2 : World, w0.grownBy w2 (some w.heap.size) → ∀ s : ByteArray, s.size ≤ 20000 → DrawnLine B w (.returned (.string s)) w2 := fun w2 g s hs => ⟨s, hs, rfl, hB ▸ b0.trans (below_of_grown g (Nat.le_refl _) (by omega))⟩
  clear b0 s0 hr hl hB
  generalize w.heap.size = p at C0 bel ⊢
  go_wp2_with fail
  refine (below_any 9 p len cap a _ C0).mono ?_
  rintro e w1 ⟨x, ⟨-, hx⟩, rfl, C1, g1⟩
  obtain ⟨x0, x1⟩ := hx (by omega)
  clear hx
  go_wp2_with fail
  refine (once_any 15 p len cap a _ C1).mono ?_
  rintro e w2 ⟨q, rfl, C2, g2⟩
  have g2' := grown_trans g1 g2
  clear C1 g1 g2 C0
  cases q
  · have x2 : x ≤ 25 := by omega
    clear x1
    go_wp2_with fail
    go_loopw [5, 6, 7] (fun s i _ wr => ∃ (acc : ByteArray) (k : Nat), s = .string acc ∧ i = .int .i64 k ∧ k ≤ 25 ∧ acc.size ≤ 10 * k ∧ Cur wr p a len cap ∧ w0.grownBy wr (some p)) (fun _ i _ _ => 30 - (intOf i).toNat)
    case atStart => exact ⟨_, 0, rfl, rfl, by omega, by show 0 ≤ _; omega, C2, g2'⟩
    case round =>
      clear C2 g2'
      obtain ⟨acc, k, rfl, rfl, hk, hz, C, g⟩ := hrel
      by_cases hlt : (k : Int) < x
      · clear bel
        by_cases hk0 : (0 : Int) < k
        · go_wp2_with fail
          refine (below_any 2 p len cap a _ C).mono ?_
          rintro e w7 ⟨y1, ⟨-, hy⟩, rfl, C7, g7⟩
          obtain ⟨ya, yb⟩ := hy (by omega)
          have g7' := grown_trans g g7
          clear hy C g g7
          obtain rfl | rfl : y1 = 0 ∨ y1 = 1 := by omega
          · go_wp2_with fail
            refine (below_any 3 p len cap a _ C7).mono ?_
            rintro e w8 ⟨y2, ⟨-, hy⟩, rfl, C8, g8⟩
            obtain ⟨yc, yd⟩ := hy (by omega)
            have g8' := grown_trans g7' g8
            clear hy C7 g7' g8
            go_wp2_with fail
            refine (long_int (1) (by omega) (by omega) 32 p len cap a _ C8).mono ?_
            rintro e w9 ⟨t, ht, rfl, CI, g9⟩
            have gI := grown_trans g8' g9
            have hs2 := size_two acc t
            have hzI : (acc ++ t).size ≤ 10 * k + 3 + 0 := by omega
            have hsum : acc.size + t.size ≤ 9223372036854775807 := by omega
            clear C8 g8' g9 hs2
            go_wp2_with fail
            go_loopw [5, 7] (fun s j wi => ∃ (acc2 : ByteArray) (m : Nat), s = .string acc2 ∧ j = .int .i64 m ∧ m ≤ 5 ∧ acc2.size ≤ 10 * k + 3 + m ∧ Cur wi p a len cap ∧ w0.grownBy wi (some p)) (fun _ j _ => 6 - (intOf j).toNat)
            case atStart => exact ⟨_, 0, rfl, rfl, by omega, hzI, CI, gI⟩
            case round =>
              clear CI gI hzI
              obtain ⟨acc2, m, rfl, rfl, hm, hz2, C2, g2⟩ := hrel
              go_wp2_with fail
              refine (below_any 5 p len cap a _ C2).mono ?_
              rintro e w5 ⟨y, ⟨-, hy⟩, rfl, C5, g5⟩
              obtain ⟨y0, y1⟩ := hy (by omega)
              have g5' := grown_trans g2 g5
              clear hy C2 g2 g5
              by_cases hmy : (m : Int) ≤ y
              · go_wp2_with fail
                refine (below_any 94 p len cap a _ C5).mono ?_
                rintro e w6 ⟨z, ⟨-, hz⟩, rfl, C6, g6⟩
                obtain ⟨z0, z1⟩ := hz (by omega)
                have g6' := grown_trans (grown_trans g5' g6) (World.grownBy_alloc w6 (.cells #[.int .u8 (33 + z)] 5) (some p))
                have C6' := C6.alloc (.cells #[.int .u8 (33 + z)] 5)
                have hconv := conv_own (P := Tryd.prog) (w6.alloc (.cells #[.int .u8 (33 + z)] 5)) 22 9 5 Tryd.underlying22 Tryd.underlying5 Tryd.underlying9 w6.heap.size 1 (.slice (some ⟨w6.heap.size, 0, none⟩) 1 1) [33 + z] (one_own2 w6 _ _)
                have hs1 : (strOfNums [33 + z]).size ≤ 1 := by rw [strOfNums_size]; simp
                have hs2 := size_two acc2 (strOfNums [33 + z])
                have hs3 : (acc2 ++ strOfNums [33 + z]).size ≤ 10 * k + 3 + (m + 1) := by omega
                clear hz C5 g5' g6 C6 hs2
                go_wp2
                go_roundw
                case rel => exact ⟨_, m + 1, rfl, by go_num, by omega, hs3, C6', g6'⟩
                case measure => simp [intOf]; omega
              · go_wp2
                go_roundw
                case rel => exact ⟨acc2, k + 1, rfl, by go_num, by omega, by omega, C5, g5'⟩
                case measure => simp [intOf]; omega
          · go_wp2_with fail
            refine (below_any 3 p len cap a _ C7).mono ?_
            rintro e w8 ⟨y2, ⟨-, hy⟩, rfl, C8, g8⟩
            obtain ⟨yc, yd⟩ := hy (by omega)
            have g8' := grown_trans g7' g8
            clear hy C7 g7' g8
            go_wp2_with fail
            refine (long_int (1 + y2) (by omega) (by omega) 32 p len cap a _ C8).mono ?_
            rintro e w9 ⟨t, ht, rfl, CI, g9⟩
            have gI := grown_trans g8' g9
            have hs2 := size_two acc t
            have hzI : (acc ++ t).size ≤ 10 * k + 3 + 0 := by omega
            have hsum : acc.size + t.size ≤ 9223372036854775807 := by omega
            clear C8 g8' g9 hs2
            go_wp2_with fail
            go_loopw [5, 7] (fun s j wi => ∃ (acc2 : ByteArray) (m : Nat), s = .string acc2 ∧ j = .int .i64 m ∧ m ≤ 5 ∧ acc2.size ≤ 10 * k + 3 + m ∧ Cur wi p a len cap ∧ w0.grownBy wi (some p)) (fun _ j _ => 6 - (intOf j).toNat)
            case atStart => exact ⟨_, 0, rfl, rfl, by omega, hzI, CI, gI⟩
            case round =>
              clear CI gI hzI
              obtain ⟨acc2, m, rfl, rfl, hm, hz2, C2, g2⟩ := hrel
              go_wp2_with fail
              refine (below_any 5 p len cap a _ C2).mono ?_
              rintro e w5 ⟨y, ⟨-, hy⟩, rfl, C5, g5⟩
              obtain ⟨y0, y1⟩ := hy (by omega)
              have g5' := grown_trans g2 g5
              clear hy C2 g2 g5
              by_cases hmy : (m : Int) ≤ y
              · go_wp2_with fail
                refine (below_any 94 p len cap a _ C5).mono ?_
                rintro e w6 ⟨z, ⟨-, hz⟩, rfl, C6, g6⟩
                obtain ⟨z0, z1⟩ := hz (by omega)
                have g6' := grown_trans (grown_trans g5' g6) (World.grownBy_alloc w6 (.cells #[.int .u8 (33 + z)] 5) (some p))
                have C6' := C6.alloc (.cells #[.int .u8 (33 + z)] 5)
                have hconv := conv_own (P := Tryd.prog) (w6.alloc (.cells #[.int .u8 (33 + z)] 5)) 22 9 5 Tryd.underlying22 Tryd.underlying5 Tryd.underlying9 w6.heap.size 1 (.slice (some ⟨w6.heap.size, 0, none⟩) 1 1) [33 + z] (one_own2 w6 _ _)
                have hs1 : (strOfNums [33 + z]).size ≤ 1 := by rw [strOfNums_size]; simp
                have hs2 := size_two acc2 (strOfNums [33 + z])
                have hs3 : (acc2 ++ strOfNums [33 + z]).size ≤ 10 * k + 3 + (m + 1) := by omega
                clear hz C5 g5' g6 C6 hs2
                go_wp2
                go_roundw
                case rel => exact ⟨_, m + 1, rfl, by go_num, by omega, hs3, C6', g6'⟩
                case measure => simp [intOf]; omega
              · go_wp2
                go_roundw
                case rel => exact ⟨acc2, k + 1, rfl, by go_num, by omega, by omega, C5, g5'⟩
                case measure => simp [intOf]; omega
        · go_wp2_with fail
          refine (once_any 5 p len cap a _ C).mono ?_
          rintro e wa ⟨q, rfl, Ca, ga⟩
          have ga' := grown_trans g ga
          clear C g ga
          cases q
          · go_wp2_with fail
            have CI := Ca
            have gI := ga'
            have hzI : acc.size ≤ 10 * k + 3 + 0 := by omega
            clear Ca ga'
            go_loopw [5, 7] (fun s j wi => ∃ (acc2 : ByteArray) (m : Nat), s = .string acc2 ∧ j = .int .i64 m ∧ m ≤ 5 ∧ acc2.size ≤ 10 * k + 3 + m ∧ Cur wi p a len cap ∧ w0.grownBy wi (some p)) (fun _ j _ => 6 - (intOf j).toNat)
            case atStart => exact ⟨_, 0, rfl, rfl, by omega, hzI, CI, gI⟩
            case round =>
              clear CI gI hzI
              obtain ⟨acc2, m, rfl, rfl, hm, hz2, C2, g2⟩ := hrel
              go_wp2_with fail
              refine (below_any 5 p len cap a _ C2).mono ?_
              rintro e w5 ⟨y, ⟨-, hy⟩, rfl, C5, g5⟩
              obtain ⟨y0, y1⟩ := hy (by omega)
              have g5' := grown_trans g2 g5
              clear hy C2 g2 g5
              by_cases hmy : (m : Int) ≤ y
              · go_wp2_with fail
                refine (below_any 94 p len cap a _ C5).mono ?_
                rintro e w6 ⟨z, ⟨-, hz⟩, rfl, C6, g6⟩
                obtain ⟨z0, z1⟩ := hz (by omega)
                have g6' := grown_trans (grown_trans g5' g6) (World.grownBy_alloc w6 (.cells #[.int .u8 (33 + z)] 5) (some p))
                have C6' := C6.alloc (.cells #[.int .u8 (33 + z)] 5)
                have hconv := conv_own (P := Tryd.prog) (w6.alloc (.cells #[.int .u8 (33 + z)] 5)) 22 9 5 Tryd.underlying22 Tryd.underlying5 Tryd.underlying9 w6.heap.size 1 (.slice (some ⟨w6.heap.size, 0, none⟩) 1 1) [33 + z] (one_own2 w6 _ _)
                have hs1 : (strOfNums [33 + z]).size ≤ 1 := by rw [strOfNums_size]; simp
                have hs2 := size_two acc2 (strOfNums [33 + z])
                have hs3 : (acc2 ++ strOfNums [33 + z]).size ≤ 10 * k + 3 + (m + 1) := by omega
                clear hz C5 g5' g6 C6 hs2
                go_wp2
                go_roundw
                case rel => exact ⟨_, m + 1, rfl, by go_num, by omega, hs3, C6', g6'⟩
                case measure => simp [intOf]; omega
              · go_wp2
                go_roundw
                case rel => exact ⟨acc2, k + 1, rfl, by go_num, by omega, by omega, C5, g5'⟩
                case measure => simp [intOf]; omega
          · go_wp2_with fail
            have C := Ca
            have g := ga'
            clear Ca ga'
            refine (below_any 2 p len cap a _ C).mono ?_
            rintro e w7 ⟨y1, ⟨-, hy⟩, rfl, C7, g7⟩
            obtain ⟨ya, yb⟩ := hy (by omega)
            have g7' := grown_trans g g7
            clear hy C g g7
            obtain rfl | rfl : y1 = 0 ∨ y1 = 1 := by omega
            · go_wp2_with fail
              refine (below_any 3 p len cap a _ C7).mono ?_
              rintro e w8 ⟨y2, ⟨-, hy⟩, rfl, C8, g8⟩
              obtain ⟨yc, yd⟩ := hy (by omega)
              have g8' := grown_trans g7' g8
              clear hy C7 g7' g8
              go_wp2_with fail
              refine (long_int (1) (by omega) (by omega) 32 p len cap a _ C8).mono ?_
              rintro e w9 ⟨t, ht, rfl, CI, g9⟩
              have gI := grown_trans g8' g9
              have hs2 := size_two acc t
              have hzI : (acc ++ t).size ≤ 10 * k + 3 + 0 := by omega
              have hsum : acc.size + t.size ≤ 9223372036854775807 := by omega
              clear C8 g8' g9 hs2
              go_wp2_with fail
              go_loopw [5, 7] (fun s j wi => ∃ (acc2 : ByteArray) (m : Nat), s = .string acc2 ∧ j = .int .i64 m ∧ m ≤ 5 ∧ acc2.size ≤ 10 * k + 3 + m ∧ Cur wi p a len cap ∧ w0.grownBy wi (some p)) (fun _ j _ => 6 - (intOf j).toNat)
              case atStart => exact ⟨_, 0, rfl, rfl, by omega, hzI, CI, gI⟩
              case round =>
                clear CI gI hzI
                obtain ⟨acc2, m, rfl, rfl, hm, hz2, C2, g2⟩ := hrel
                go_wp2_with fail
                refine (below_any 5 p len cap a _ C2).mono ?_
                rintro e w5 ⟨y, ⟨-, hy⟩, rfl, C5, g5⟩
                obtain ⟨y0, y1⟩ := hy (by omega)
                have g5' := grown_trans g2 g5
                clear hy C2 g2 g5
                by_cases hmy : (m : Int) ≤ y
                · go_wp2_with fail
                  refine (below_any 94 p len cap a _ C5).mono ?_
                  rintro e w6 ⟨z, ⟨-, hz⟩, rfl, C6, g6⟩
                  obtain ⟨z0, z1⟩ := hz (by omega)
                  have g6' := grown_trans (grown_trans g5' g6) (World.grownBy_alloc w6 (.cells #[.int .u8 (33 + z)] 5) (some p))
                  have C6' := C6.alloc (.cells #[.int .u8 (33 + z)] 5)
                  have hconv := conv_own (P := Tryd.prog) (w6.alloc (.cells #[.int .u8 (33 + z)] 5)) 22 9 5 Tryd.underlying22 Tryd.underlying5 Tryd.underlying9 w6.heap.size 1 (.slice (some ⟨w6.heap.size, 0, none⟩) 1 1) [33 + z] (one_own2 w6 _ _)
                  have hs1 : (strOfNums [33 + z]).size ≤ 1 := by rw [strOfNums_size]; simp
                  have hs2 := size_two acc2 (strOfNums [33 + z])
                  have hs3 : (acc2 ++ strOfNums [33 + z]).size ≤ 10 * k + 3 + (m + 1) := by omega
                  clear hz C5 g5' g6 C6 hs2
                  go_wp2
                  go_roundw
                  case rel => exact ⟨_, m + 1, rfl, by go_num, by omega, hs3, C6', g6'⟩
                  case measure => simp [intOf]; omega
                · go_wp2
                  go_roundw
                  case rel => exact ⟨acc2, k + 1, rfl, by go_num, by omega, by omega, C5, g5'⟩
                  case measure => simp [intOf]; omega
            · go_wp2_with fail
              refine (below_any 3 p len cap a _ C7).mono ?_
              rintro e w8 ⟨y2, ⟨-, hy⟩, rfl, C8, g8⟩
              obtain ⟨yc, yd⟩ := hy (by omega)
              have g8' := grown_trans g7' g8
              clear hy C7 g7' g8
              go_wp2_with fail
              refine (long_int (1 + y2) (by omega) (by omega) 32 p len cap a _ C8).mono ?_
              rintro e w9 ⟨t, ht, rfl, CI, g9⟩
              have gI := grown_trans g8' g9
              have hs2 := size_two acc t
              have hzI : (acc ++ t).size ≤ 10 * k + 3 + 0 := by omega
              have hsum : acc.size + t.size ≤ 9223372036854775807 := by omega
              clear C8 g8' g9 hs2
              go_wp2_with fail
              go_loopw [5, 7] (fun s j wi => ∃ (acc2 : ByteArray) (m : Nat), s = .string acc2 ∧ j = .int .i64 m ∧ m ≤ 5 ∧ acc2.size ≤ 10 * k + 3 + m ∧ Cur wi p a len cap ∧ w0.grownBy wi (some p)) (fun _ j _ => 6 - (intOf j).toNat)
              case atStart => exact ⟨_, 0, rfl, rfl, by omega, hzI, CI, gI⟩
              case round =>
                clear CI gI hzI
                obtain ⟨acc2, m, rfl, rfl, hm, hz2, C2, g2⟩ := hrel
                go_wp2_with fail
                refine (below_any 5 p len cap a _ C2).mono ?_
                rintro e w5 ⟨y, ⟨-, hy⟩, rfl, C5, g5⟩
                obtain ⟨y0, y1⟩ := hy (by omega)
                have g5' := grown_trans g2 g5
                clear hy C2 g2 g5
                by_cases hmy : (m : Int) ≤ y
                · go_wp2_with fail
                  refine (below_any 94 p len cap a _ C5).mono ?_
                  rintro e w6 ⟨z, ⟨-, hz⟩, rfl, C6, g6⟩
                  obtain ⟨z0, z1⟩ := hz (by omega)
                  have g6' := grown_trans (grown_trans g5' g6) (World.grownBy_alloc w6 (.cells #[.int .u8 (33 + z)] 5) (some p))
                  have C6' := C6.alloc (.cells #[.int .u8 (33 + z)] 5)
                  have hconv := conv_own (P := Tryd.prog) (w6.alloc (.cells #[.int .u8 (33 + z)] 5)) 22 9 5 Tryd.underlying22 Tryd.underlying5 Tryd.underlying9 w6.heap.size 1 (.slice (some ⟨w6.heap.size, 0, none⟩) 1 1) [33 + z] (one_own2 w6 _ _)
                  have hs1 : (strOfNums [33 + z]).size ≤ 1 := by rw [strOfNums_size]; simp
                  have hs2 := size_two acc2 (strOfNums [33 + z])
                  have hs3 : (acc2 ++ strOfNums [33 + z]).size ≤ 10 * k + 3 + (m + 1) := by omega
                  clear hz C5 g5' g6 C6 hs2
                  go_wp2
                  go_roundw
                  case rel => exact ⟨_, m + 1, rfl, by go_num, by omega, hs3, C6', g6'⟩
                  case measure => simp [intOf]; omega
                · go_wp2
                  go_roundw
                  case rel => exact ⟨acc2, k + 1, rfl, by go_num, by omega, by omega, C5, g5'⟩
                  case measure => simp [intOf]; omega
      · go_wp2_with fail
        refine (below_any 12 p len cap a _ C).mono ?_
        rintro e w4 ⟨y, -, rfl, C4, g4⟩
        have g4' := grown_trans g g4
        clear C g g4
        by_cases hy0 : y = 0
        · subst hy0
          go_wp2_with fail
          refine (pick_any w4.heap.size 6 6 2 (by omega) (by omega) p len cap a _ (by have := C4.lt; omega) (by simp) (strCells_new w4 _ _ 6 2 (by decide) (by decide)) (C4.alloc _)).mono ?_
          rintro e w5 ⟨z, hz5, rfl, C5, g5⟩
          have hs2 := size_two acc z
          have hsum : acc.size + z.size ≤ 9223372036854775807 := by omega
          have hend := bel w5 (grown_trans g4' (grown_trans (World.grownBy_alloc w4 _ _) g5)) (acc ++ z) (by omega)
          clear bel g4' g5 C5 C4 hs2
          go_wp2_with fail
          go_ret
          exact hend
        · by_cases hy1 : y = 1
          · subst hy1
            have hs6 : (acc.size : Int) < 600 := by omega
            go_wp2_with fail
            refine (below_any 2 p len cap a _ C4).mono ?_
            rintro e w5 ⟨v, ⟨-, hv⟩, rfl, C5, g5⟩
            obtain ⟨v0, v1⟩ := hv (by omega)
            have g5' := grown_trans g4' g5
            clear hv C4 g4' g5
            go_wp2_with fail
            refine (long_int (600 - acc.size + v) (by omega) (by omega) 32 p len cap a _ C5).mono ?_
            rintro e w6 ⟨t, ht, rfl, C6, g6⟩
            have hs2 := size_two acc t
            have hsum : acc.size + t.size ≤ 9223372036854775807 := by omega
            have hend := bel w6 (grown_trans g5' g6) (acc ++ t) (by omega)
            clear bel g5' g6 C5 C6 hs2
            go_wp2_with fail
            go_ret
            exact hend
          · have hend := bel w4 g4' acc (by omega)
            clear bel g4' C4
            go_wp2_with fail
            go_ret
            exact hend
  · clear x0 x1
    go_wp2_with fail
    refine (below_any 2 p len cap a _ C2).mono ?_
    rintro e w3 ⟨y, ⟨-, hy⟩, rfl, C3, g3⟩
    obtain ⟨y0, y1⟩ := hy (by omega)
    have g3' := grown_trans g2' g3
    clear hy C2 g2' g3
    go_wp2_with fail
    generalize hn : 24 + y = x
    have x0 : 0 ≤ x := by omega
    have x2 : x ≤ 25 := by omega
    clear hn y0 y1
    go_loopw [5, 6, 7] (fun s i _ wr => ∃ (acc : ByteArray) (k : Nat), s = .string acc ∧ i = .int .i64 k ∧ k ≤ 25 ∧ acc.size ≤ 10 * k ∧ Cur wr p a len cap ∧ w0.grownBy wr (some p)) (fun _ i _ _ => 30 - (intOf i).toNat)
    case atStart => exact ⟨_, 0, rfl, rfl, by omega, by show 0 ≤ _; omega, C3, g3'⟩
    case round =>
      clear C3 g3'
      obtain ⟨acc, k, rfl, rfl, hk, hz, C, g⟩ := hrel
      by_cases hlt : (k : Int) < x
      · clear bel
        by_cases hk0 : (0 : Int) < k
        · go_wp2_with fail
          refine (below_any 2 p len cap a _ C).mono ?_
          rintro e w7 ⟨y1, ⟨-, hy⟩, rfl, C7, g7⟩
          obtain ⟨ya, yb⟩ := hy (by omega)
          have g7' := grown_trans g g7
          clear hy C g g7
          obtain rfl | rfl : y1 = 0 ∨ y1 = 1 := by omega
          · go_wp2_with fail
            refine (below_any 3 p len cap a _ C7).mono ?_
            rintro e w8 ⟨y2, ⟨-, hy⟩, rfl, C8, g8⟩
            obtain ⟨yc, yd⟩ := hy (by omega)
            have g8' := grown_trans g7' g8
            clear hy C7 g7' g8
            go_wp2_with fail
            refine (long_int (1) (by omega) (by omega) 32 p len cap a _ C8).mono ?_
            rintro e w9 ⟨t, ht, rfl, CI, g9⟩
            have gI := grown_trans g8' g9
            have hs2 := size_two acc t
            have hzI : (acc ++ t).size ≤ 10 * k + 3 + 0 := by omega
            have hsum : acc.size + t.size ≤ 9223372036854775807 := by omega
            clear C8 g8' g9 hs2
            go_wp2_with fail
            go_loopw [5, 7] (fun s j wi => ∃ (acc2 : ByteArray) (m : Nat), s = .string acc2 ∧ j = .int .i64 m ∧ m ≤ 5 ∧ acc2.size ≤ 10 * k + 3 + m ∧ Cur wi p a len cap ∧ w0.grownBy wi (some p)) (fun _ j _ => 6 - (intOf j).toNat)
            case atStart => exact ⟨_, 0, rfl, rfl, by omega, hzI, CI, gI⟩
            case round =>
              clear CI gI hzI
              obtain ⟨acc2, m, rfl, rfl, hm, hz2, C2, g2⟩ := hrel
              go_wp2_with fail
              refine (below_any 5 p len cap a _ C2).mono ?_
              rintro e w5 ⟨y, ⟨-, hy⟩, rfl, C5, g5⟩
              obtain ⟨y0, y1⟩ := hy (by omega)
              have g5' := grown_trans g2 g5
              clear hy C2 g2 g5
              by_cases hmy : (m : Int) ≤ y
              · go_wp2_with fail
                refine (below_any 94 p len cap a _ C5).mono ?_
                rintro e w6 ⟨z, ⟨-, hz⟩, rfl, C6, g6⟩
                obtain ⟨z0, z1⟩ := hz (by omega)
                have g6' := grown_trans (grown_trans g5' g6) (World.grownBy_alloc w6 (.cells #[.int .u8 (33 + z)] 5) (some p))
                have C6' := C6.alloc (.cells #[.int .u8 (33 + z)] 5)
                have hconv := conv_own (P := Tryd.prog) (w6.alloc (.cells #[.int .u8 (33 + z)] 5)) 22 9 5 Tryd.underlying22 Tryd.underlying5 Tryd.underlying9 w6.heap.size 1 (.slice (some ⟨w6.heap.size, 0, none⟩) 1 1) [33 + z] (one_own2 w6 _ _)
                have hs1 : (strOfNums [33 + z]).size ≤ 1 := by rw [strOfNums_size]; simp
                have hs2 := size_two acc2 (strOfNums [33 + z])
                have hs3 : (acc2 ++ strOfNums [33 + z]).size ≤ 10 * k + 3 + (m + 1) := by omega
                clear hz C5 g5' g6 C6 hs2
                go_wp2
                go_roundw
                case rel => exact ⟨_, m + 1, rfl, by go_num, by omega, hs3, C6', g6'⟩
                case measure => simp [intOf]; omega
              · go_wp2
                go_roundw
                case rel => exact ⟨acc2, k + 1, rfl, by go_num, by omega, by omega, C5, g5'⟩
                case measure => simp [intOf]; omega
          · go_wp2_with fail
            refine (below_any 3 p len cap a _ C7).mono ?_
            rintro e w8 ⟨y2, ⟨-, hy⟩, rfl, C8, g8⟩
            obtain ⟨yc, yd⟩ := hy (by omega)
            have g8' := grown_trans g7' g8
            clear hy C7 g7' g8
            go_wp2_with fail
            refine (long_int (1 + y2) (by omega) (by omega) 32 p len cap a _ C8).mono ?_
            rintro e w9 ⟨t, ht, rfl, CI, g9⟩
            have gI := grown_trans g8' g9
            have hs2 := size_two acc t
            have hzI : (acc ++ t).size ≤ 10 * k + 3 + 0 := by omega
            have hsum : acc.size + t.size ≤ 9223372036854775807 := by omega
            clear C8 g8' g9 hs2
            go_wp2_with fail
            go_loopw [5, 7] (fun s j wi => ∃ (acc2 : ByteArray) (m : Nat), s = .string acc2 ∧ j = .int .i64 m ∧ m ≤ 5 ∧ acc2.size ≤ 10 * k + 3 + m ∧ Cur wi p a len cap ∧ w0.grownBy wi (some p)) (fun _ j _ => 6 - (intOf j).toNat)
            case atStart => exact ⟨_, 0, rfl, rfl, by omega, hzI, CI, gI⟩
            case round =>
              clear CI gI hzI
              obtain ⟨acc2, m, rfl, rfl, hm, hz2, C2, g2⟩ := hrel
              go_wp2_with fail
              refine (below_any 5 p len cap a _ C2).mono ?_
              rintro e w5 ⟨y, ⟨-, hy⟩, rfl, C5, g5⟩
              obtain ⟨y0, y1⟩ := hy (by omega)
              have g5' := grown_trans g2 g5
              clear hy C2 g2 g5
              by_cases hmy : (m : Int) ≤ y
              · go_wp2_with fail
                refine (below_any 94 p len cap a _ C5).mono ?_
                rintro e w6 ⟨z, ⟨-, hz⟩, rfl, C6, g6⟩
                obtain ⟨z0, z1⟩ := hz (by omega)
                have g6' := grown_trans (grown_trans g5' g6) (World.grownBy_alloc w6 (.cells #[.int .u8 (33 + z)] 5) (some p))
                have C6' := C6.alloc (.cells #[.int .u8 (33 + z)] 5)
                have hconv := conv_own (P := Tryd.prog) (w6.alloc (.cells #[.int .u8 (33 + z)] 5)) 22 9 5 Tryd.underlying22 Tryd.underlying5 Tryd.underlying9 w6.heap.size 1 (.slice (some ⟨w6.heap.size, 0, none⟩) 1 1) [33 + z] (one_own2 w6 _ _)
                have hs1 : (strOfNums [33 + z]).size ≤ 1 := by rw [strOfNums_size]; simp
                have hs2 := size_two acc2 (strOfNums [33 + z])
                have hs3 : (acc2 ++ strOfNums [33 + z]).size ≤ 10 * k + 3 + (m + 1) := by omega
                clear hz C5 g5' g6 C6 hs2
                go_wp2
                go_roundw
                case rel => exact ⟨_, m + 1, rfl, by go_num, by omega, hs3, C6', g6'⟩
                case measure => simp [intOf]; omega
              · go_wp2
                go_roundw
                case rel => exact ⟨acc2, k + 1, rfl, by go_num, by omega, by omega, C5, g5'⟩
                case measure => simp [intOf]; omega
        · go_wp2_with fail
          refine (once_any 5 p len cap a _ C).mono ?_
          rintro e wa ⟨q, rfl, Ca, ga⟩
          have ga' := grown_trans g ga
          clear C g ga
          cases q
          · go_wp2_with fail
            have CI := Ca
            have gI := ga'
            have hzI : acc.size ≤ 10 * k + 3 + 0 := by omega
            clear Ca ga'
            go_loopw [5, 7] (fun s j wi => ∃ (acc2 : ByteArray) (m : Nat), s = .string acc2 ∧ j = .int .i64 m ∧ m ≤ 5 ∧ acc2.size ≤ 10 * k + 3 + m ∧ Cur wi p a len cap ∧ w0.grownBy wi (some p)) (fun _ j _ => 6 - (intOf j).toNat)
            case atStart => exact ⟨_, 0, rfl, rfl, by omega, hzI, CI, gI⟩
            case round =>
              clear CI gI hzI
              obtain ⟨acc2, m, rfl, rfl, hm, hz2, C2, g2⟩ := hrel
              go_wp2_with fail
              refine (below_any 5 p len cap a _ C2).mono ?_
              rintro e w5 ⟨y, ⟨-, hy⟩, rfl, C5, g5⟩
              obtain ⟨y0, y1⟩ := hy (by omega)
              have g5' := grown_trans g2 g5
              clear hy C2 g2 g5
              by_cases hmy : (m : Int) ≤ y
              · go_wp2_with fail
                refine (below_any 94 p len cap a _ C5).mono ?_
                rintro e w6 ⟨z, ⟨-, hz⟩, rfl, C6, g6⟩
                obtain ⟨z0, z1⟩ := hz (by omega)
                have g6' := grown_trans (grown_trans g5' g6) (World.grownBy_alloc w6 (.cells #[.int .u8 (33 + z)] 5) (some p))
                have C6' := C6.alloc (.cells #[.int .u8 (33 + z)] 5)
                have hconv := conv_own (P := Tryd.prog) (w6.alloc (.cells #[.int .u8 (33 + z)] 5)) 22 9 5 Tryd.underlying22 Tryd.underlying5 Tryd.underlying9 w6.heap.size 1 (.slice (some ⟨w6.heap.size, 0, none⟩) 1 1) [33 + z] (one_own2 w6 _ _)
                have hs1 : (strOfNums [33 + z]).size ≤ 1 := by rw [strOfNums_size]; simp
                have hs2 := size_two acc2 (strOfNums [33 + z])
                have hs3 : (acc2 ++ strOfNums [33 + z]).size ≤ 10 * k + 3 + (m + 1) := by omega
                clear hz C5 g5' g6 C6 hs2
                go_wp2
                go_roundw
                case rel => exact ⟨_, m + 1, rfl, by go_num, by omega, hs3, C6', g6'⟩
                case measure => simp [intOf]; omega
              · go_wp2
                go_roundw
                case rel => exact ⟨acc2, k + 1, rfl, by go_num, by omega, by omega, C5, g5'⟩
                case measure => simp [intOf]; omega
          · go_wp2_with fail
            have C := Ca
            have g := ga'
            clear Ca ga'
            refine (below_any 2 p len cap a _ C).mono ?_
            rintro e w7 ⟨y1, ⟨-, hy⟩, rfl, C7, g7⟩
            obtain ⟨ya, yb⟩ := hy (by omega)
            have g7' := grown_trans g g7
            clear hy C g g7
            obtain rfl | rfl : y1 = 0 ∨ y1 = 1 := by omega
            · go_wp2_with fail
              refine (below_any 3 p len cap a _ C7).mono ?_
              rintro e w8 ⟨y2, ⟨-, hy⟩, rfl, C8, g8⟩
              obtain ⟨yc, yd⟩ := hy (by omega)
              have g8' := grown_trans g7' g8
              clear hy C7 g7' g8
              go_wp2_with fail
              refine (long_int (1) (by omega) (by omega) 32 p len cap a _ C8).mono ?_
              rintro e w9 ⟨t, ht, rfl, CI, g9⟩
              have gI := grown_trans g8' g9
              have hs2 := size_two acc t
              have hzI : (acc ++ t).size ≤ 10 * k + 3 + 0 := by omega
              have hsum : acc.size + t.size ≤ 9223372036854775807 := by omega
              clear C8 g8' g9 hs2
              go_wp2_with fail
              go_loopw [5, 7] (fun s j wi => ∃ (acc2 : ByteArray) (m : Nat), s = .string acc2 ∧ j = .int .i64 m ∧ m ≤ 5 ∧ acc2.size ≤ 10 * k + 3 + m ∧ Cur wi p a len cap ∧ w0.grownBy wi (some p)) (fun _ j _ => 6 - (intOf j).toNat)
              case atStart => exact ⟨_, 0, rfl, rfl, by omega, hzI, CI, gI⟩
              case round =>
                clear CI gI hzI
                obtain ⟨acc2, m, rfl, rfl, hm, hz2, C2, g2⟩ := hrel
                go_wp2_with fail
                refine (below_any 5 p len cap a _ C2).mono ?_
                rintro e w5 ⟨y, ⟨-, hy⟩, rfl, C5, g5⟩
                obtain ⟨y0, y1⟩ := hy (by omega)
                have g5' := grown_trans g2 g5
                clear hy C2 g2 g5
                by_cases hmy : (m : Int) ≤ y
                · go_wp2_with fail
                  refine (below_any 94 p len cap a _ C5).mono ?_
                  rintro e w6 ⟨z, ⟨-, hz⟩, rfl, C6, g6⟩
                  obtain ⟨z0, z1⟩ := hz (by omega)
                  have g6' := grown_trans (grown_trans g5' g6) (World.grownBy_alloc w6 (.cells #[.int .u8 (33 + z)] 5) (some p))
                  have C6' := C6.alloc (.cells #[.int .u8 (33 + z)] 5)
                  have hconv := conv_own (P := Tryd.prog) (w6.alloc (.cells #[.int .u8 (33 + z)] 5)) 22 9 5 Tryd.underlying22 Tryd.underlying5 Tryd.underlying9 w6.heap.size 1 (.slice (some ⟨w6.heap.size, 0, none⟩) 1 1) [33 + z] (one_own2 w6 _ _)
                  have hs1 : (strOfNums [33 + z]).size ≤ 1 := by rw [strOfNums_size]; simp
                  have hs2 := size_two acc2 (strOfNums [33 + z])
                  have hs3 : (acc2 ++ strOfNums [33 + z]).size ≤ 10 * k + 3 + (m + 1) := by omega
                  clear hz C5 g5' g6 C6 hs2
                  go_wp2
                  go_roundw
                  case rel => exact ⟨_, m + 1, rfl, by go_num, by omega, hs3, C6', g6'⟩
                  case measure => simp [intOf]; omega
                · go_wp2
                  go_roundw
                  case rel => exact ⟨acc2, k + 1, rfl, by go_num, by omega, by omega, C5, g5'⟩
                  case measure => simp [intOf]; omega
            · go_wp2_with fail
              refine (below_any 3 p len cap a _ C7).mono ?_
              rintro e w8 ⟨y2, ⟨-, hy⟩, rfl, C8, g8⟩
              obtain ⟨yc, yd⟩ := hy (by omega)
              have g8' := grown_trans g7' g8
              clear hy C7 g7' g8
              go_wp2_with fail
              refine (long_int (1 + y2) (by omega) (by omega) 32 p len cap a _ C8).mono ?_
              rintro e w9 ⟨t, ht, rfl, CI, g9⟩
              have gI := grown_trans g8' g9
              have hs2 := size_two acc t
              have hzI : (acc ++ t).size ≤ 10 * k + 3 + 0 := by omega
              have hsum : acc.size + t.size ≤ 9223372036854775807 := by omega
              clear C8 g8' g9 hs2
              go_wp2_with fail
              go_loopw [5, 7] (fun s j wi => ∃ (acc2 : ByteArray) (m : Nat), s = .string acc2 ∧ j = .int .i64 m ∧ m ≤ 5 ∧ acc2.size ≤ 10 * k + 3 + m ∧ Cur wi p a len cap ∧ w0.grownBy wi (some p)) (fun _ j _ => 6 - (intOf j).toNat)
              case atStart => exact ⟨_, 0, rfl, rfl, by omega, hzI, CI, gI⟩
              case round =>
                clear CI gI hzI
                obtain ⟨acc2, m, rfl, rfl, hm, hz2, C2, g2⟩ := hrel
                go_wp2_with fail
                refine (below_any 5 p len cap a _ C2).mono ?_
                rintro e w5 ⟨y, ⟨-, hy⟩, rfl, C5, g5⟩
                obtain ⟨y0, y1⟩ := hy (by omega)
                have g5' := grown_trans g2 g5
                clear hy C2 g2 g5
                by_cases hmy : (m : Int) ≤ y
                · go_wp2_with fail
                  refine (below_any 94 p len cap a _ C5).mono ?_
                  rintro e w6 ⟨z, ⟨-, hz⟩, rfl, C6, g6⟩
                  obtain ⟨z0, z1⟩ := hz (by omega)
                  have g6' := grown_trans (grown_trans g5' g6) (World.grownBy_alloc w6 (.cells #[.int .u8 (33 + z)] 5) (some p))
                  have C6' := C6.alloc (.cells #[.int .u8 (33 + z)] 5)
                  have hconv := conv_own (P := Tryd.prog) (w6.alloc (.cells #[.int .u8 (33 + z)] 5)) 22 9 5 Tryd.underlying22 Tryd.underlying5 Tryd.underlying9 w6.heap.size 1 (.slice (some ⟨w6.heap.size, 0, none⟩) 1 1) [33 + z] (one_own2 w6 _ _)
                  have hs1 : (strOfNums [33 + z]).size ≤ 1 := by rw [strOfNums_size]; simp
                  have hs2 := size_two acc2 (strOfNums [33 + z])
                  have hs3 : (acc2 ++ strOfNums [33 + z]).size ≤ 10 * k + 3 + (m + 1) := by omega
                  clear hz C5 g5' g6 C6 hs2
                  go_wp2
                  go_roundw
                  case rel => exact ⟨_, m + 1, rfl, by go_num, by omega, hs3, C6', g6'⟩
                  case measure => simp [intOf]; omega
                · go_wp2
                  go_roundw
                  case rel => exact ⟨acc2, k + 1, rfl, by go_num, by omega, by omega, C5, g5'⟩
                  case measure => simp [intOf]; omega
      · go_wp2_with fail
        refine (below_any 12 p len cap a _ C).mono ?_
        rintro e w4 ⟨y, -, rfl, C4, g4⟩
        have g4' := grown_trans g g4
        clear C g g4
        by_cases hy0 : y = 0
        · subst hy0
          go_wp2_with fail
          refine (pick_any w4.heap.size 6 6 2 (by omega) (by omega) p len cap a _ (by have := C4.lt; omega) (by simp) (strCells_new w4 _ _ 6 2 (by decide) (by decide)) (C4.alloc _)).mono ?_
          rintro e w5 ⟨z, hz5, rfl, C5, g5⟩
          have hs2 := size_two acc z
          have hsum : acc.size + z.size ≤ 9223372036854775807 := by omega
          have hend := bel w5 (grown_trans g4' (grown_trans (World.grownBy_alloc w4 _ _) g5)) (acc ++ z) (by omega)
          clear bel g4' g5 C5 C4 hs2
          go_wp2_with fail
          go_ret
          exact hend
        · by_cases hy1 : y = 1
          · subst hy1
            have hs6 : (acc.size : Int) < 600 := by omega
            go_wp2_with fail
            refine (below_any 2 p len cap a _ C4).mono ?_
            rintro e w5 ⟨v, ⟨-, hv⟩, rfl, C5, g5⟩
            obtain ⟨v0, v1⟩ := hv (by omega)
            have g5' := grown_trans g4' g5
            clear hv C4 g4' g5
            go_wp2_with fail
            refine (long_int (600 - acc.size + v) (by omega) (by omega) 32 p len cap a _ C5).mono ?_
            rintro e w6 ⟨t, ht, rfl, C6, g6⟩
            have hs2 := size_two acc t
            have hsum : acc.size + t.size ≤ 9223372036854775807 := by omega
            have hend := bel w6 (grown_trans g5' g6) (acc ++ t) (by omega)
            clear bel g5' g6 C5 C6 hs2
            go_wp2_with fail
            go_ret
            exact hend
          · have hend := bel w4 g4' acc (by omega)
            clear bel g4' C4
            go_wp2_with fail
            go_ret
            exact hend
end Go.Proofs.YtepgficheibbfaaDoor
