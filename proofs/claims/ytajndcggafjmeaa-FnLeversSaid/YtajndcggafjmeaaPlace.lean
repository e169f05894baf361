/-
  The contracts of the program's and the model's place for a further weight, and center: a fraction and a bool. Only new memory is written.
-/
import Derived.Test.YtajndcggafjmeaaSpecBeam
import Derived.Test.YtajndcggafjmeaaMake
namespace Go.Proofs.Ytajndcggafjmeaa
open Go.ChangeShapes Go.WideShapes Go.ChangeAt Go.RowKit Go.PlainAid

theorem given_place (L : List Hg) {m : Int} (h : 1 ≤ m ∧ m ≤ 1000) : Given (-tq L) m := by
  have := tq_le L
  exact ⟨by omega, by omega, by omega⟩
theorem given_center {L : List Hg} (h : BOk L) (h0 : ld L ≠ 0) : Given (tq L) (ld L) := by
  have := tq_le L
  have := ld_le h
  exact ⟨h0, by omega, by omega⟩

set_option maxHeartbeats 1000000 in
theorem implPlace_no (A : Option Addr) (n c : Nat) (L : List Hg) (m : Int) (w : World) (hn : L.length = n) (r : HangRow w A L) (h : ¬ (BOk L ∧ 1 ≤ m ∧ m ≤ 1000)) : Calls Try.prog 14 #[.slice A n c, .int .i64 m] w (SaysF 0 0 false w) := by
  have hB := fun W (r : HangRow W A L) => implOk_beam A n c L W hn r
  have b0 : Below w.heap.size w (w.alloc (.cells #[.int .i64 0, .int .i64 0] 28)) := (Below.refl _ _).alloc (Nat.le_refl _) _
  have x0 := Box.new w 0 0 28
  have r0 := r.keep ((Below.refl w.heap.size w).alloc (Nat.le_refl _) (.cells #[.int .i64 0, .int .i64 0] 28))
  have s0 := b0.size
  by_cases hb : BOk L
  · rw [bok_yes hb] at hB
    by_cases h1 : m < 1
    · clear h hb
      go_enter Try.func14, Try.ntmps14
      go_wp2_with fail
      refine (hB _ r0).mono ?_
      rintro e w1 ⟨rfl, b⟩
      have x1 := x0.keep b x0.lt
      have r1 := r0.keep b
      have b1 := below_more b0 b0.size b
      clear b x0 r0 b0 hB
      clear r1
      obtain ⟨c0, c1, f0, f1⟩ := And.intro x1.c0 (And.intro x1.c1 (And.intro x1.free0 x1.free1))
      go_wp2_with fail
      (try simp only [Exit.inBlock, Exit.then])
      refine bodyPost_ret (v := .tuple #[.agg #[.int .i64 0, .int .i64 0], .bool false]) ?_ rfl ⟨rfl, ?_⟩
      · rw [results_cell_tmp rfl]
        go_simp
      · repeat' (first | exact b1 | refine Below.setCell ?_ (by simp <;> omega) _)
    · have h2 : 1000 < m := Int.not_le.1 fun g => h ⟨hb, by omega, g⟩
      clear h hb
      go_enter Try.func14, Try.ntmps14
      go_wp2_with fail
      refine (hB _ r0).mono ?_
      rintro e w1 ⟨rfl, b⟩
      have x1 := x0.keep b x0.lt
      have r1 := r0.keep b
      have b1 := below_more b0 b0.size b
      clear b x0 r0 b0 hB
      clear r1
      obtain ⟨c0, c1, f0, f1⟩ := And.intro x1.c0 (And.intro x1.c1 (And.intro x1.free0 x1.free1))
      go_wp2_with fail
      (try simp only [Exit.inBlock, Exit.then])
      refine bodyPost_ret (v := .tuple #[.agg #[.int .i64 0, .int .i64 0], .bool false]) ?_ rfl ⟨rfl, ?_⟩
      · rw [results_cell_tmp rfl]
        go_simp
      · repeat' (first | exact b1 | refine Below.setCell ?_ (by simp <;> omega) _)
  · rw [bok_no hb] at hB
    clear h hb
    go_enter Try.func14, Try.ntmps14
    go_wp2_with fail
    refine (hB _ r0).mono ?_
    rintro e w1 ⟨rfl, b⟩
    have x1 := x0.keep b x0.lt
    have r1 := r0.keep b
    have b1 := below_more b0 b0.size b
    clear b x0 r0 b0 hB
    clear r1
    obtain ⟨c0, c1, f0, f1⟩ := And.intro x1.c0 (And.intro x1.c1 (And.intro x1.free0 x1.free1))
    go_wp2_with fail
    (try simp only [Exit.inBlock, Exit.then])
    refine bodyPost_ret (v := .tuple #[.agg #[.int .i64 0, .int .i64 0], .bool false]) ?_ rfl ⟨rfl, ?_⟩
    · rw [results_cell_tmp rfl]
      go_simp
    · repeat' (first | exact b1 | refine Below.setCell ?_ (by simp <;> omega) _)

set_option maxHeartbeats 1000000 in
theorem implPlace_yes (A : Option Addr) (n c : Nat) (L : List Hg) (m : Int) (w : World) (hn : L.length = n) (r : HangRow w A L) (hb : BOk L) (h : 1 ≤ m ∧ m ≤ 1000) : Calls Try.prog 14 #[.slice A n c, .int .i64 m] w (SaysF (shT (-tq L) m) (shB (-tq L) m) (shO (-tq L) m) w) := by
  have hB := fun W (r : HangRow W A L) => implOk_beam A n c L W hn r
  have hT := fun W (r : HangRow W A L) => implTorq A n c L W hn r
  have hM := fun W => implMake_yes (-tq L) m W (given_place L h)
  have b0 : Below w.heap.size w (w.alloc (.cells #[.int .i64 0, .int .i64 0] 28)) := (Below.refl _ _).alloc (Nat.le_refl _) _
  have x0 := Box.new w 0 0 28
  have r0 := r.keep ((Below.refl w.heap.size w).alloc (Nat.le_refl _) (.cells #[.int .i64 0, .int .i64 0] 28))
  have s0 := b0.size
  have t0 := tq_le L
  rw [bok_yes hb] at hB
  have h1 : ¬ m < 1 := by omega
  have h2 : ¬ 1000 < m := by omega
  generalize shT (-tq L) m = q at hM ⊢
  generalize shB (-tq L) m = r' at hM ⊢
  generalize shO (-tq L) m = o at hM ⊢
  generalize tq L = t at hT hM t0
  clear hb h
  go_enter Try.func14, Try.ntmps14
  go_wp2_with fail
  refine (hB _ r0).mono ?_
  rintro e w1 ⟨rfl, b⟩
  have x1 := x0.keep b x0.lt
  have r1 := r0.keep b
  have b1 := below_more b0 b0.size b
  clear b x0 r0 b0 hB
  go_wp2_with fail
  refine (hT _ r1).mono ?_
  rintro e w2 ⟨rfl, b⟩
  have x2 := x1.keep b x1.lt
  have r2 := r1.keep b
  have b2 := below_more b1 b1.size b
  clear b x1 r1 b1 hT
  go_wp2_with fail
  refine (hM _).mono ?_
  rintro e w3 ⟨rfl, b⟩
  have x3 := x2.keep b x2.lt
  have r3 := r2.keep b
  have b3 := below_more b2 b2.size b
  clear b x2 r2 b2 hM
  clear r3
  obtain ⟨c0, c1, f0, f1⟩ := And.intro x3.c0 (And.intro x3.c1 (And.intro x3.free0 x3.free1))
  go_wp2_with fail
  (try simp only [Exit.inBlock, Exit.then])
  refine bodyPost_ret (v := .tuple #[.agg #[.int .i64 q, .int .i64 r'], .bool o]) ?_ rfl ⟨rfl, ?_⟩
  · rw [results_cell_tmp rfl]
    go_simp
  · repeat' (first | exact b3 | refine Below.setCell ?_ (by simp <;> omega) _)

set_option maxHeartbeats 1000000 in
theorem specPlace_no (A : Option Addr) (n c : Nat) (L : List Hg) (m : Int) (w : World) (hn : L.length = n) (hm : n ≤ 1048576) (r : HangRow w A L) (h : ¬ (BOk L ∧ 1 ≤ m ∧ m ≤ 1000)) : Calls Try.prog 27 #[.slice A n c, .int .i64 m] w (SaysF 0 0 false w) := by
  have hB := fun W (r : HangRow W A L) => specOk_beam A n c L W hn hm r
  have b0 : Below w.heap.size w (w.alloc (.cells #[.int .i64 0, .int .i64 0] 28)) := (Below.refl _ _).alloc (Nat.le_refl _) _
  have x0 := Box.new w 0 0 28
  have r0 := r.keep ((Below.refl w.heap.size w).alloc (Nat.le_refl _) (.cells #[.int .i64 0, .int .i64 0] 28))
  have s0 := b0.size
  by_cases hb : BOk L
  · rw [bok_yes hb] at hB
    have hI := fun W => in_to false m 1 1000 W (decide_eq_false (fun g => h ⟨hb, g⟩))
    clear h hb
    go_enter Try.func27, Try.ntmps27
    go_wp2_with fail
    refine (hB _ r0).mono ?_
    rintro e w1 ⟨rfl, b⟩
    have x1 := x0.keep b x0.lt
    have r1 := r0.keep b
    have b1 := below_more b0 b0.size b
    clear b x0 r0 b0 hB
    clear r1
    obtain ⟨c0, c1, f0, f1⟩ := And.intro x1.c0 (And.intro x1.c1 (And.intro x1.free0 x1.free1))
    go_wp2_with fail
    refine (hI _).mono ?_
    rintro e w2 ⟨rfl, rfl⟩
    clear hI
    go_wp2_with fail
    (try simp only [Exit.inBlock, Exit.then])
    refine bodyPost_ret (v := .tuple #[.agg #[.int .i64 0, .int .i64 0], .bool false]) ?_ rfl ⟨rfl, ?_⟩
    · rw [results_cell_tmp rfl]
      go_simp
    · repeat' (first | exact b1 | refine Below.setCell ?_ (by simp <;> omega) _)
  · rw [bok_no hb] at hB
    clear h hb
    go_enter Try.func27, Try.ntmps27
    go_wp2_with fail
    refine (hB _ r0).mono ?_
    rintro e w1 ⟨rfl, b⟩
    have x1 := x0.keep b x0.lt
    have r1 := r0.keep b
    have b1 := below_more b0 b0.size b
    clear b x0 r0 b0 hB
    clear r1
    obtain ⟨c0, c1, f0, f1⟩ := And.intro x1.c0 (And.intro x1.c1 (And.intro x1.free0 x1.free1))
    go_wp2_with fail
    (try simp only [Exit.inBlock, Exit.then])
    refine bodyPost_ret (v := .tuple #[.agg #[.int .i64 0, .int .i64 0], .bool false]) ?_ rfl ⟨rfl, ?_⟩
    · rw [results_cell_tmp rfl]
      go_simp
    · repeat' (first | exact b1 | refine Below.setCell ?_ (by simp <;> omega) _)

set_option maxHeartbeats 1000000 in
theorem specPlace_yes (A : Option Addr) (n c : Nat) (L : List Hg) (m : Int) (w : World) (hn : L.length = n) (hm : n ≤ 1048576) (r : HangRow w A L) (hb : BOk L) (h : 1 ≤ m ∧ m ≤ 1000) : Calls Try.prog 27 #[.slice A n c, .int .i64 m] w (SaysF (shT (-tq L) m) (shB (-tq L) m) (shO (-tq L) m) w) := by
  have hB := fun W (r : HangRow W A L) => specOk_beam A n c L W hn hm r
  have hT := fun W (r : HangRow W A L) => specTorq A n c L W hn hm r
  have hM := fun W => specMake_yes (-tq L) m W (given_place L h)
  have b0 : Below w.heap.size w (w.alloc (.cells #[.int .i64 0, .int .i64 0] 28)) := (Below.refl _ _).alloc (Nat.le_refl _) _
  have x0 := Box.new w 0 0 28
  have r0 := r.keep ((Below.refl w.heap.size w).alloc (Nat.le_refl _) (.cells #[.int .i64 0, .int .i64 0] 28))
  have s0 := b0.size
  have t0 := tq_le L
  rw [bok_yes hb] at hB
  have hI := fun W => in_to true m 1 1000 W (decide_eq_true h)
  generalize shT (-tq L) m = q at hM ⊢
  generalize shB (-tq L) m = r' at hM ⊢
  generalize shO (-tq L) m = o at hM ⊢
  generalize tq L = t at hT hM t0
  clear hb h
  go_enter Try.func27, Try.ntmps27
  go_wp2_with fail
  refine (hB _ r0).mono ?_
  rintro e w1 ⟨rfl, b⟩
  have x1 := x0.keep b x0.lt
  have r1 := r0.keep b
  have b1 := below_more b0 b0.size b
  clear b x0 r0 b0 hB
  go_wp2_with fail
  refine (hI _).mono ?_
  rintro e w2 ⟨rfl, rfl⟩
  clear hI
  go_wp2_with fail
  refine (hT _ r1).mono ?_
  rintro e w2 ⟨rfl, b⟩
  have x2 := x1.keep b x1.lt
  have r2 := r1.keep b
  have b2 := below_more b1 b1.size b
  clear b x1 r1 b1 hT
  go_wp2_with fail
  refine (hM _).mono ?_
  rintro e w3 ⟨rfl, b⟩
  have x3 := x2.keep b x2.lt
  have r3 := r2.keep b
  have b3 := below_more b2 b2.size b
  clear b x2 r2 b2 hM
  clear r3
  obtain ⟨c0, c1, f0, f1⟩ := And.intro x3.c0 (And.intro x3.c1 (And.intro x3.free0 x3.free1))
  go_wp2_with fail
  (try simp only [Exit.inBlock, Exit.then])
  refine bodyPost_ret (v := .tuple #[.agg #[.int .i64 q, .int .i64 r'], .bool o]) ?_ rfl ⟨rfl, ?_⟩
  · rw [results_cell_tmp rfl]
    go_simp
  · repeat' (first | exact b3 | refine Below.setCell ?_ (by simp <;> omega) _)

set_option maxHeartbeats 1000000 in
theorem implCenter_no (A : Option Addr) (n c : Nat) (L : List Hg) (w : World) (hn : L.length = n) (r : HangRow w A L) (hb : ¬ BOk L) : Calls Try.prog 18 #[.slice A n c] w (SaysF 0 0 false w) := by
  have hB := fun W (r : HangRow W A L) => implOk_beam A n c L W hn r
  have b0 : Below w.heap.size w (w.alloc (.cells #[.int .i64 0, .int .i64 0] 28)) := (Below.refl _ _).alloc (Nat.le_refl _) _
  have x0 := Box.new w 0 0 28
  have r0 := r.keep ((Below.refl w.heap.size w).alloc (Nat.le_refl _) (.cells #[.int .i64 0, .int .i64 0] 28))
  have s0 := b0.size
  rw [bok_no hb] at hB
  clear hb
  go_enter Try.func18, Try.ntmps18
  go_wp2_with fail
  refine (hB _ r0).mono ?_
  rintro e w1 ⟨rfl, b⟩
  have x1 := x0.keep b x0.lt
  have r1 := r0.keep b
  have b1 := below_more b0 b0.size b
  clear b x0 r0 b0 hB
  clear r1
  obtain ⟨c0, c1, f0, f1⟩ := And.intro x1.c0 (And.intro x1.c1 (And.intro x1.free0 x1.free1))
  go_wp2_with fail
  (try simp only [Exit.inBlock, Exit.then])
  refine bodyPost_ret (v := .tuple #[.agg #[.int .i64 0, .int .i64 0], .bool false]) ?_ rfl ⟨rfl, ?_⟩
  · rw [results_cell_tmp rfl]
    go_simp
  · repeat' (first | exact b1 | refine Below.setCell ?_ (by simp <;> omega) _)

set_option maxHeartbeats 1000000 in
theorem implCenter_mk (A : Option Addr) (n c : Nat) (L : List Hg) (q r' : Int) (o : Bool) (w : World) (hn : L.length = n) (r : HangRow w A L) (hb : BOk L) (hM : ∀ W, Calls Try.prog 36 #[.int .i64 (tq L), .int .i64 (ld L)] W (SaysF q r' o W)) : Calls Try.prog 18 #[.slice A n c] w (SaysF q r' o w) := by
  have hB := fun W (r : HangRow W A L) => implOk_beam A n c L W hn r
  have hT := fun W (r : HangRow W A L) => implTorq A n c L W hn r
  have b0 : Below w.heap.size w (w.alloc (.cells #[.int .i64 0, .int .i64 0] 28)) := (Below.refl _ _).alloc (Nat.le_refl _) _
  have x0 := Box.new w 0 0 28
  have r0 := r.keep ((Below.refl w.heap.size w).alloc (Nat.le_refl _) (.cells #[.int .i64 0, .int .i64 0] 28))
  have s0 := b0.size
  have h12 : n ≤ 12 := by have := hb.1; omega
  have hl : ld L = load L n := by unfold ld; rw [hn]
  rw [hl] at hM
  rw [bok_yes hb] at hB
  generalize tq L = t at hT hM
  clear hl
  go_enter Try.func18, Try.ntmps18
  go_wp2_with fail
  refine (hB _ r0).mono ?_
  rintro e w1 ⟨rfl, b⟩
  have x1 := x0.keep b x0.lt
  have r1 := r0.keep b
  have b1 := below_more b0 b0.size b
  clear b x0 r0 b0 hB
  go_wp2_with fail
  go_loopw [13, 4] (fun i t wr => ∃ k : Nat, k ≤ n ∧ i = .int .i64 k ∧ t = .int .i64 (load L k) ∧ Box wr w.heap.size 0 0 28 ∧ HangRow wr A L ∧ Below w.heap.size w wr) (fun i _ _ => n - (intOf i).toNat)
  case atStart => exact ⟨0, by omega, rfl, rfl, x1, r1, b1⟩
  case round =>
    clear x1 r1 b1
    obtain ⟨k, hk, rfl, rfl, x, r, b⟩ := hrel
    by_cases hlt : k < n
    · obtain ⟨y, rfl, hy, hc0, hc, hc2⟩ := r.at (j := k) (by omega)
      have t0 := load_le (L := L) (k := k) fun j hj => hb.2 j (by omega)
      have t1 := (hb.2 k (by omega)).2
      have e : load L (k + 1) = load L k + (hget L k).2 := rfl
      obtain ⟨X, Y, hXY⟩ : ∃ X Y, hget L k = (X, Y) := ⟨_, _, rfl⟩
      rw [hXY] at hc0 hc hc2 t1 e
      dsimp only at hc0 hc hc2 t1 e
      have bs := b.size
      have ba := (Below.refl wr.heap.size wr).alloc (Nat.le_refl _) (.cells #[.int .i64 X, .int .i64 Y] 34)
      have x2 := x.keep ba x.lt
      have r2 := r.keep ba
      have b2 := below_more b b.size ba
      generalize load L k = T at t0 e ⊢
      clear hXY r x b ba hb hn hT hM
      go_wp2_with fail
      go_roundw
      case rel => exact ⟨k + 1, by omega, by go_num, by rw [e], x2, r2, b2⟩
      case measure => simp [intOf]; omega
    · obtain rfl : k = n := by omega
      have l0 := load_le (L := L) (k := k) fun j hj => hb.2 j (by omega)
      generalize load L k = l at hM l0 ⊢
      have x1 := x
      have r1 := r
      have b1 := b
      clear x r b hb hn
      go_wp2_with fail
      refine (hT _ r1).mono ?_
      rintro e w2 ⟨rfl, b⟩
      have x2 := x1.keep b x1.lt
      have r2 := r1.keep b
      have b2 := below_more b1 b1.size b
      clear b x1 r1 b1 hT
      go_wp2_with fail
      refine (hM _).mono ?_
      rintro e w3 ⟨rfl, b⟩
      have x3 := x2.keep b x2.lt
      have r3 := r2.keep b
      have b3 := below_more b2 b2.size b
      clear b x2 r2 b2 hM
      clear r3
      obtain ⟨c0, c1, f0, f1⟩ := And.intro x3.c0 (And.intro x3.c1 (And.intro x3.free0 x3.free1))
      go_wp2_with fail
      (try simp only [Exit.inBlock, Exit.then])
      refine bodyPost_ret (v := .tuple #[.agg #[.int .i64 q, .int .i64 r'], .bool o]) ?_ rfl ⟨rfl, ?_⟩
      · rw [results_cell_tmp rfl]
        go_simp
      · repeat' (first | exact b3 | refine Below.setCell ?_ (by simp <;> omega) _)

theorem implCenter_yes (A : Option Addr) (n c : Nat) (L : List Hg) (w : World) (hn : L.length = n) (r : HangRow w A L) (hb : BOk L) (h0 : ld L ≠ 0) : Calls Try.prog 18 #[.slice A n c] w (SaysF (shT (tq L) (ld L)) (shB (tq L) (ld L)) (shO (tq L) (ld L)) w) :=
  implCenter_mk A n c L _ _ _ w hn r hb fun W => implMake_yes _ _ W (given_center hb h0)
theorem implCenter_nil (A : Option Addr) (n c : Nat) (L : List Hg) (w : World) (hn : L.length = n) (r : HangRow w A L) (hb : BOk L) (h0 : ld L = 0) : Calls Try.prog 18 #[.slice A n c] w (SaysF 0 0 false w) :=
  implCenter_mk A n c L _ _ _ w hn r hb fun W => implMake_no _ _ W (fun h => h.1 h0)

set_option maxHeartbeats 1000000 in
theorem specCenter_no (A : Option Addr) (n c : Nat) (L : List Hg) (w : World) (hn : L.length = n) (hm : n ≤ 1048576) (r : HangRow w A L) (hb : ¬ BOk L) : Calls Try.prog 29 #[.slice A n c] w (SaysF 0 0 false w) := by
  have hB := fun W (r : HangRow W A L) => specOk_beam A n c L W hn hm r
  have b0 : Below w.heap.size w (w.alloc (.cells #[.int .i64 0, .int .i64 0] 28)) := (Below.refl _ _).alloc (Nat.le_refl _) _
  have x0 := Box.new w 0 0 28
  have r0 := r.keep ((Below.refl w.heap.size w).alloc (Nat.le_refl _) (.cells #[.int .i64 0, .int .i64 0] 28))
  have s0 := b0.size
  rw [bok_no hb] at hB
  clear hb
  go_enter Try.func29, Try.ntmps29
  go_wp2_with fail
  refine (hB _ r0).mono ?_
  rintro e w1 ⟨rfl, b⟩
  have x1 := x0.keep b x0.lt
  have r1 := r0.keep b
  have b1 := below_more b0 b0.size b
  clear b x0 r0 b0 hB
  clear r1
  obtain ⟨c0, c1, f0, f1⟩ := And.intro x1.c0 (And.intro x1.c1 (And.intro x1.free0 x1.free1))
  go_wp2_with fail
  (try simp only [Exit.inBlock, Exit.then])
  refine bodyPost_ret (v := .tuple #[.agg #[.int .i64 0, .int .i64 0], .bool false]) ?_ rfl ⟨rfl, ?_⟩
  · rw [results_cell_tmp rfl]
    go_simp
  · repeat' (first | exact b1 | refine Below.setCell ?_ (by simp <;> omega) _)

set_option maxHeartbeats 1000000 in
theorem specCenter_nil (A : Option Addr) (n c : Nat) (L : List Hg) (w : World) (hn : L.length = n) (hm : n ≤ 1048576) (r : HangRow w A L) (hb : BOk L) (h0 : ld L = 0) : Calls Try.prog 29 #[.slice A n c] w (SaysF 0 0 false w) := by
  have hB := fun W (r : HangRow W A L) => specOk_beam A n c L W hn hm r
  have hD := fun W (r : HangRow W A L) => specLoad A n c L W hn hb r
  have b0 : Below w.heap.size w (w.alloc (.cells #[.int .i64 0, .int .i64 0] 28)) := (Below.refl _ _).alloc (Nat.le_refl _) _
  have x0 := Box.new w 0 0 28
  have r0 := r.keep ((Below.refl w.heap.size w).alloc (Nat.le_refl _) (.cells #[.int .i64 0, .int .i64 0] 28))
  have s0 := b0.size
  rw [bok_yes hb] at hB
  rw [h0] at hD
  clear hb h0
  go_enter Try.func29, Try.ntmps29
  go_wp2_with fail
  refine (hB _ r0).mono ?_
  rintro e w1 ⟨rfl, b⟩
  have x1 := x0.keep b x0.lt
  have r1 := r0.keep b
  have b1 := below_more b0 b0.size b
  clear b x0 r0 b0 hB
  go_wp2_with fail
  refine (hD _ r1).mono ?_
  rintro e w2 ⟨rfl, b⟩
  have x2 := x1.keep b x1.lt
  have r2 := r1.keep b
  have b2 := below_more b1 b1.size b
  clear b x1 r1 b1 hD
  clear r2
  obtain ⟨c0, c1, f0, f1⟩ := And.intro x2.c0 (And.intro x2.c1 (And.intro x2.free0 x2.free1))
  go_wp2_with fail
  (try simp only [Exit.inBlock, Exit.then])
  refine bodyPost_ret (v := .tuple #[.agg #[.int .i64 0, .int .i64 0], .bool false]) ?_ rfl ⟨rfl, ?_⟩
  · rw [results_cell_tmp rfl]
    go_simp
  · repeat' (first | exact b2 | refine Below.setCell ?_ (by simp <;> omega) _)

set_option maxHeartbeats 1000000 in
theorem specCenter_yes (A : Option Addr) (n c : Nat) (L : List Hg) (w : World) (hn : L.length = n) (hm : n ≤ 1048576) (r : HangRow w A L) (hb : BOk L) (h0 : ld L ≠ 0) : Calls Try.prog 29 #[.slice A n c] w (SaysF (shT (tq L) (ld L)) (shB (tq L) (ld L)) (shO (tq L) (ld L)) w) := by
  have hB := fun W (r : HangRow W A L) => specOk_beam A n c L W hn hm r
  have hD := fun W (r : HangRow W A L) => specLoad A n c L W hn hb r
  have hE := hD
  have hT := fun W (r : HangRow W A L) => specTorq A n c L W hn hm r
  have hM := fun W => specMake_yes (tq L) (ld L) W (given_center hb h0)
  have b0 : Below w.heap.size w (w.alloc (.cells #[.int .i64 0, .int .i64 0] 28)) := (Below.refl _ _).alloc (Nat.le_refl _) _
  have x0 := Box.new w 0 0 28
  have r0 := r.keep ((Below.refl w.heap.size w).alloc (Nat.le_refl _) (.cells #[.int .i64 0, .int .i64 0] 28))
  have s0 := b0.size
  rw [bok_yes hb] at hB
  generalize shT (tq L) (ld L) = q at hM ⊢
  generalize shB (tq L) (ld L) = r' at hM ⊢
  generalize shO (tq L) (ld L) = o at hM ⊢
  generalize tq L = t at hT hM
  generalize ld L = l at hD hE hM h0
  clear hb
  go_enter Try.func29, Try.ntmps29
  go_wp2_with fail
  refine (hB _ r0).mono ?_
  rintro e w1 ⟨rfl, b⟩
  have x1 := x0.keep b x0.lt
  have r1 := r0.keep b
  have b1 := below_more b0 b0.size b
  clear b x0 r0 b0 hB
  go_wp2_with fail
  refine (hD _ r1).mono ?_
  rintro e w2 ⟨rfl, b⟩
  have x2 := x1.keep b x1.lt
  have r2 := r1.keep b
  have b2 := below_more b1 b1.size b
  clear b x1 r1 b1 hD
  go_wp2_with fail
  refine (hT _ r2).mono ?_
  rintro e w3 ⟨rfl, b⟩
  have x3 := x2.keep b x2.lt
  have r3 := r2.keep b
  have b3 := below_more b2 b2.size b
  clear b x2 r2 b2 hT
  go_wp2_with fail
  refine (hE _ r3).mono ?_
  rintro e w4 ⟨rfl, b⟩
  have x4 := x3.keep b x3.lt
  have r4 := r3.keep b
  have b4 := below_more b3 b3.size b
  clear b x3 r3 b3 hE
  go_wp2_with fail
  refine (hM _).mono ?_
  rintro e w5 ⟨rfl, b⟩
  have x5 := x4.keep b x4.lt
  have r5 := r4.keep b
  have b5 := below_more b4 b4.size b
  clear b x4 r4 b4 hM
  clear r5
  obtain ⟨c0, c1, f0, f1⟩ := And.intro x5.c0 (And.intro x5.c1 (And.intro x5.free0 x5.free1))
  go_wp2_with fail
  (try simp only [Exit.inBlock, Exit.then])
  refine bodyPost_ret (v := .tuple #[.agg #[.int .i64 q, .int .i64 r'], .bool o]) ?_ rfl ⟨rfl, ?_⟩
  · rw [results_cell_tmp rfl]
    go_simp
  · repeat' (first | exact b5 | refine Below.setCell ?_ (by simp <;> omega) _)
end Go.Proofs.Ytajndcggafjmeaa
