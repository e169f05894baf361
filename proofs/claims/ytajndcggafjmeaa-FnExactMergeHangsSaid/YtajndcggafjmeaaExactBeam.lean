/-
  The laws that the program's functions on beams answer as the model does, leave their arguments, and own what they answer: for all beams. No condition but that the slice is short; longer ones are passed over by the laws themselves.
-/
import Derived.Test.YtajndcggafjmeaaPlace
import Derived.Test.YtajndcggafjmeaaSpecMerge
import Derived.Test.YtajndcggafjmeaaImplMerge
namespace Go.Proofs.Ytajndcggafjmeaa
open Go.ChangeShapes Go.WideShapes Go.ChangeAt Go.RowKit Go.PlainAid

/-- The law's own comparison says true of a fraction and itself. -/
theorem same_frac (t b : Int) (w : World) : Calls Try.prog 28 #[.agg #[.int .i64 t, .int .i64 b], .agg #[.int .i64 t, .int .i64 b]] w (SaysB true w) := by
  go_enter Try.func28, Try.ntmps28
  go_wp2_with fail
  go_ret
  refine ⟨rfl, ?_⟩
  repeat' (first | exact Below.refl _ _ | refine Below.setCell ?_ (by simp <;> omega) _ | refine Below.alloc ?_ (by simp <;> omega) _)

theorem exactBeam_walk (A : Option Addr) (c : Nat) (L : List Hg) (z : Bool) (w : World) (hm : L.length ≤ 1048576) (r : HangRow w A L)
    (hS : ∀ (A : Option Addr) (c : Nat) (W : World), (A = none → L.length = 0 ∧ c = 0) → HangRow W A L → Calls Try.prog 21 #[.slice A L.length c] W (SaysB z W))
    (hI : ∀ (A : Option Addr) (c : Nat) (W : World), (A = none → L.length = 0 ∧ c = 0) → HangRow W A L → Calls Try.prog 23 #[.slice A L.length c] W (SaysB z W))
    : Calls Try.prog 4 #[.slice A L.length c] w fun e w' => e = .returned (.bool true) ∧ Below w.heap.size w w' := by
  have hZ := fun W => szHang_in A L.length c W hm
  have hz : ¬ ((1048576 : Int) - L.length < 0) := by omega
  have hT := fun W (r : HangRow W A L) => toHangs_any A c _ L W rfl hm r
  have hE := fun (B B' : Option Addr) (d d' : Nat) W (r : HangRow W B L) (r' : HangRow W B' L) => eqHangs_same B B' _ d d' L W rfl (by omega) r r'
  have kb := Below.refl w.heap.size w
  clear hm
  go_enter Try.func4, Try.ntmps4
  go_wp2_with fail
  refine (hZ _).mono ?_
  rintro e w' ⟨rfl, rfl⟩
  clear hZ
  go_wp2_with fail
  refine (hT _ r).mono ?_
  rintro e w1 ⟨B1, d1, rfl, o1, b⟩
  replace r := r.keep b
  replace kb := below_more kb kb.size b
  have x1 := hangRow_own o1
  have n1 := nil_cap o1
  clear o1 b
  go_wp2_with fail
  refine (hS B1 d1 _ n1 x1).mono ?_
  rintro e w2 ⟨rfl, b⟩
  replace r := r.keep b
  replace kb := below_more kb kb.size b
  clear hS x1 n1 b
  go_wp2_with fail
  refine (hT _ r).mono ?_
  rintro e w3 ⟨B3, d3, rfl, o3, b⟩
  replace r := r.keep b
  replace kb := below_more kb kb.size b
  have x3 := hangRow_own o3
  have n3 := nil_cap o3
  clear o3 b
  go_wp2_with fail
  refine (hI B3 d3 _ n3 x3).mono ?_
  rintro e w4 ⟨rfl, b⟩
  replace r := r.keep b
  replace kb := below_more kb kb.size b
  replace x3 := x3.keep b
  clear hI n3 b
  go_wp2_with fail
  refine (hT _ r).mono ?_
  rintro e w6 ⟨B6, d6, rfl, o6, b⟩
  replace kb := below_more kb kb.size b
  have x6 := hangRow_own o6
  replace x3 := x3.keep b
  clear o6 b r hT
  go_wp2_with fail
  refine (hE B3 B6 _ _ _ x3 x6).mono ?_
  rintro e w7 ⟨rfl, b⟩
  replace kb := below_more kb kb.size b
  clear hE b x3 x6
  go_wp2_with fail
  go_ret
  exact ⟨rfl, kb⟩

theorem exactBeam_big (A : Option Addr) (c n : Nat) (w : World) (h : 1048576 < n) (hm : n ≤ 9223372036854775807) : Calls Try.prog 4 #[.slice A n c] w fun e w' => e = .returned (.bool true) ∧ Below w.heap.size w w' := by
  have hZ := fun W => szHang_out A n c W h hm
  go_enter Try.func4, Try.ntmps4
  go_wp2_with fail
  refine (hZ _).mono ?_
  rintro e w' ⟨rfl, rfl⟩
  clear hZ
  go_wp2_with fail
  go_ret
  exact ⟨rfl, Below.refl _ _⟩

theorem exactTorque_walk (A : Option Addr) (c : Nat) (L : List Hg) (x : Int) (w : World) (hm : L.length ≤ 1048576) (r : HangRow w A L)
    (hS : ∀ (A : Option Addr) (c : Nat) (W : World), (A = none → L.length = 0 ∧ c = 0) → HangRow W A L → Calls Try.prog 25 #[.slice A L.length c] W (SaysI x W))
    (hI : ∀ (A : Option Addr) (c : Nat) (W : World), (A = none → L.length = 0 ∧ c = 0) → HangRow W A L → Calls Try.prog 16 #[.slice A L.length c] W (SaysI x W))
    : Calls Try.prog 5 #[.slice A L.length c] w fun e w' => e = .returned (.bool true) ∧ Below w.heap.size w w' := by
  have hZ := fun W => szHang_in A L.length c W hm
  have hz : ¬ ((1048576 : Int) - L.length < 0) := by omega
  have hT := fun W (r : HangRow W A L) => toHangs_any A c _ L W rfl hm r
  have hE := fun (B B' : Option Addr) (d d' : Nat) W (r : HangRow W B L) (r' : HangRow W B' L) => eqHangs_same B B' _ d d' L W rfl (by omega) r r'
  have kb := Below.refl w.heap.size w
  clear hm
  go_enter Try.func5, Try.ntmps5
  go_wp2_with fail
  refine (hZ _).mono ?_
  rintro e w' ⟨rfl, rfl⟩
  clear hZ
  go_wp2_with fail
  refine (hT _ r).mono ?_
  rintro e w1 ⟨B1, d1, rfl, o1, b⟩
  replace r := r.keep b
  replace kb := below_more kb kb.size b
  have x1 := hangRow_own o1
  have n1 := nil_cap o1
  clear o1 b
  go_wp2_with fail
  refine (hS B1 d1 _ n1 x1).mono ?_
  rintro e w2 ⟨rfl, b⟩
  replace r := r.keep b
  replace kb := below_more kb kb.size b
  clear hS x1 n1 b
  go_wp2_with fail
  refine (hT _ r).mono ?_
  rintro e w3 ⟨B3, d3, rfl, o3, b⟩
  replace r := r.keep b
  replace kb := below_more kb kb.size b
  have x3 := hangRow_own o3
  have n3 := nil_cap o3
  clear o3 b
  go_wp2_with fail
  refine (hI B3 d3 _ n3 x3).mono ?_
  rintro e w4 ⟨rfl, b⟩
  replace r := r.keep b
  replace kb := below_more kb kb.size b
  replace x3 := x3.keep b
  clear hI n3 b
  go_wp2_with fail
  refine (hT _ r).mono ?_
  rintro e w6 ⟨B6, d6, rfl, o6, b⟩
  replace kb := below_more kb kb.size b
  have x6 := hangRow_own o6
  replace x3 := x3.keep b
  clear o6 b r hT
  go_wp2_with fail
  refine (hE B3 B6 _ _ _ x3 x6).mono ?_
  rintro e w7 ⟨rfl, b⟩
  replace kb := below_more kb kb.size b
  clear hE b x3 x6
  go_wp2_with fail
  go_ret
  exact ⟨rfl, kb⟩

theorem exactTorque_big (A : Option Addr) (c n : Nat) (w : World) (h : 1048576 < n) (hm : n ≤ 9223372036854775807) : Calls Try.prog 5 #[.slice A n c] w fun e w' => e = .returned (.bool true) ∧ Below w.heap.size w w' := by
  have hZ := fun W => szHang_out A n c W h hm
  go_enter Try.func5, Try.ntmps5
  go_wp2_with fail
  refine (hZ _).mono ?_
  rintro e w' ⟨rfl, rfl⟩
  clear hZ
  go_wp2_with fail
  go_ret
  exact ⟨rfl, Below.refl _ _⟩

theorem exactLevel_walk (A : Option Addr) (c : Nat) (L : List Hg) (z : Bool) (w : World) (hm : L.length ≤ 1048576) (r : HangRow w A L)
    (hS : ∀ (A : Option Addr) (c : Nat) (W : World), (A = none → L.length = 0 ∧ c = 0) → HangRow W A L → Calls Try.prog 26 #[.slice A L.length c] W (SaysB z W))
    (hI : ∀ (A : Option Addr) (c : Nat) (W : World), (A = none → L.length = 0 ∧ c = 0) → HangRow W A L → Calls Try.prog 19 #[.slice A L.length c] W (SaysB z W))
    : Calls Try.prog 6 #[.slice A L.length c] w fun e w' => e = .returned (.bool true) ∧ Below w.heap.size w w' := by
  have hZ := fun W => szHang_in A L.length c W hm
  have hz : ¬ ((1048576 : Int) - L.length < 0) := by omega
  have hT := fun W (r : HangRow W A L) => toHangs_any A c _ L W rfl hm r
  have hE := fun (B B' : Option Addr) (d d' : Nat) W (r : HangRow W B L) (r' : HangRow W B' L) => eqHangs_same B B' _ d d' L W rfl (by omega) r r'
  have kb := Below.refl w.heap.size w
  clear hm
  go_enter Try.func6, Try.ntmps6
  go_wp2_with fail
  refine (hZ _).mono ?_
  rintro e w' ⟨rfl, rfl⟩
  clear hZ
  go_wp2_with fail
  refine (hT _ r).mono ?_
  rintro e w1 ⟨B1, d1, rfl, o1, b⟩
  replace r := r.keep b
  replace kb := below_more kb kb.size b
  have x1 := hangRow_own o1
  have n1 := nil_cap o1
  clear o1 b
  go_wp2_with fail
  refine (hS B1 d1 _ n1 x1).mono ?_
  rintro e w2 ⟨rfl, b⟩
  replace r := r.keep b
  replace kb := below_more kb kb.size b
  clear hS x1 n1 b
  go_wp2_with fail
  refine (hT _ r).mono ?_
  rintro e w3 ⟨B3, d3, rfl, o3, b⟩
  replace r := r.keep b
  replace kb := below_more kb kb.size b
  have x3 := hangRow_own o3
  have n3 := nil_cap o3
  clear o3 b
  go_wp2_with fail
  refine (hI B3 d3 _ n3 x3).mono ?_
  rintro e w4 ⟨rfl, b⟩
  replace r := r.keep b
  replace kb := below_more kb kb.size b
  replace x3 := x3.keep b
  clear hI n3 b
  go_wp2_with fail
  refine (hT _ r).mono ?_
  rintro e w6 ⟨B6, d6, rfl, o6, b⟩
  replace kb := below_more kb kb.size b
  have x6 := hangRow_own o6
  replace x3 := x3.keep b
  clear o6 b r hT
  go_wp2_with fail
  refine (hE B3 B6 _ _ _ x3 x6).mono ?_
  rintro e w7 ⟨rfl, b⟩
  replace kb := below_more kb kb.size b
  clear hE b x3 x6
  go_wp2_with fail
  go_ret
  exact ⟨rfl, kb⟩

theorem exactLevel_big (A : Option Addr) (c n : Nat) (w : World) (h : 1048576 < n) (hm : n ≤ 9223372036854775807) : Calls Try.prog 6 #[.slice A n c] w fun e w' => e = .returned (.bool true) ∧ Below w.heap.size w w' := by
  have hZ := fun W => szHang_out A n c W h hm
  go_enter Try.func6, Try.ntmps6
  go_wp2_with fail
  refine (hZ _).mono ?_
  rintro e w' ⟨rfl, rfl⟩
  clear hZ
  go_wp2_with fail
  go_ret
  exact ⟨rfl, Below.refl _ _⟩

theorem exactPlace_walk (A : Option Addr) (c : Nat) (L : List Hg) (m0 : Int) (T B : Int) (z : Bool) (w : World) (hm : L.length ≤ 1048576) (r : HangRow w A L)
    (hS : ∀ (A : Option Addr) (c : Nat) (W : World), (A = none → L.length = 0 ∧ c = 0) → HangRow W A L → Calls Try.prog 27 #[.slice A L.length c, .int .i64 m0] W (SaysF T B z W))
    (hI : ∀ (A : Option Addr) (c : Nat) (W : World), (A = none → L.length = 0 ∧ c = 0) → HangRow W A L → Calls Try.prog 14 #[.slice A L.length c, .int .i64 m0] W (SaysF T B z W))
    : Calls Try.prog 7 #[.slice A L.length c, .int .i64 m0] w fun e w' => e = .returned (.bool true) ∧ Below w.heap.size w w' := by
  have hZ := fun W => szHang_in A L.length c W hm
  have hz : ¬ ((1048576 : Int) - L.length < 0) := by omega
  have hT := fun W (r : HangRow W A L) => toHangs_any A c _ L W rfl hm r
  have hE := fun (B B' : Option Addr) (d d' : Nat) W (r : HangRow W B L) (r' : HangRow W B' L) => eqHangs_same B B' _ d d' L W rfl (by omega) r r'
  have hF := fun W => same_frac T B W
  have kb := Below.refl w.heap.size w
  clear hm
  go_enter Try.func7, Try.ntmps7
  go_wp2_with fail
  refine (hZ _).mono ?_
  rintro e w' ⟨rfl, rfl⟩
  clear hZ
  go_wp2_with fail
  refine (hT _ r).mono ?_
  rintro e w1 ⟨B1, d1, rfl, o1, b⟩
  replace r := r.keep b
  replace kb := below_more kb kb.size b
  have x1 := hangRow_own o1
  have n1 := nil_cap o1
  clear o1 b
  go_wp2_with fail
  refine (hS B1 d1 _ n1 x1).mono ?_
  rintro e w2 ⟨rfl, b⟩
  replace r := r.keep b
  replace kb := below_more kb kb.size b
  clear hS x1 n1 b
  have s0 := Box.new w2 T B 28
  have b := (Below.refl w2.heap.size w2).alloc (Nat.le_refl _) (.cells #[.int .i64 T, .int .i64 B] 28)
  replace r := r.keep b
  replace kb := below_more kb kb.size b
  clear b
  go_wp2_with fail
  refine (hT _ r).mono ?_
  rintro e w3 ⟨B3, d3, rfl, o3, b⟩
  replace r := r.keep b
  replace kb := below_more kb kb.size b
  have x3 := hangRow_own o3
  have n3 := nil_cap o3
  replace s0 := s0.keep b s0.lt
  clear o3 b
  go_wp2_with fail
  refine (hI B3 d3 _ n3 x3).mono ?_
  rintro e w4 ⟨rfl, b⟩
  replace r := r.keep b
  replace kb := below_more kb kb.size b
  replace x3 := x3.keep b
  replace s0 := s0.keep b s0.lt
  clear hI n3 b
  have s1 := Box.new w4 T B 28
  replace s0 := s0.alloc (.cells #[.int .i64 T, .int .i64 B] 28)
  have b := (Below.refl w4.heap.size w4).alloc (Nat.le_refl _) (.cells #[.int .i64 T, .int .i64 B] 28)
  replace r := r.keep b
  replace kb := below_more kb kb.size b
  replace x3 := x3.keep b
  clear b
  have c0 := s0.c0
  have c1 := s0.c1
  clear s0 s1
  go_wp2_with fail
  refine (hF _).mono ?_
  rintro e w5 ⟨rfl, b⟩
  replace r := r.keep b
  replace kb := below_more kb kb.size b
  replace x3 := x3.keep b
  clear hF b c0 c1
  go_wp2_with fail
  refine (hT _ r).mono ?_
  rintro e w6 ⟨B6, d6, rfl, o6, b⟩
  replace kb := below_more kb kb.size b
  have x6 := hangRow_own o6
  replace x3 := x3.keep b
  clear o6 b r hT
  go_wp2_with fail
  refine (hE B3 B6 _ _ _ x3 x6).mono ?_
  rintro e w7 ⟨rfl, b⟩
  replace kb := below_more kb kb.size b
  clear hE b x3 x6
  go_wp2_with fail
  go_ret
  exact ⟨rfl, kb⟩

theorem exactPlace_big (A : Option Addr) (c n : Nat) (m0 : Int) (w : World) (h : 1048576 < n) (hm : n ≤ 9223372036854775807) : Calls Try.prog 7 #[.slice A n c, .int .i64 m0] w fun e w' => e = .returned (.bool true) ∧ Below w.heap.size w w' := by
  have hZ := fun W => szHang_out A n c W h hm
  go_enter Try.func7, Try.ntmps7
  go_wp2_with fail
  refine (hZ _).mono ?_
  rintro e w' ⟨rfl, rfl⟩
  clear hZ
  go_wp2_with fail
  go_ret
  exact ⟨rfl, Below.refl _ _⟩

theorem exactCenter_walk (A : Option Addr) (c : Nat) (L : List Hg) (T B : Int) (z : Bool) (w : World) (hm : L.length ≤ 1048576) (r : HangRow w A L)
    (hS : ∀ (A : Option Addr) (c : Nat) (W : World), (A = none → L.length = 0 ∧ c = 0) → HangRow W A L → Calls Try.prog 29 #[.slice A L.length c] W (SaysF T B z W))
    (hI : ∀ (A : Option Addr) (c : Nat) (W : World), (A = none → L.length = 0 ∧ c = 0) → HangRow W A L → Calls Try.prog 18 #[.slice A L.length c] W (SaysF T B z W))
    : Calls Try.prog 8 #[.slice A L.length c] w fun e w' => e = .returned (.bool true) ∧ Below w.heap.size w w' := by
  have hZ := fun W => szHang_in A L.length c W hm
  have hz : ¬ ((1048576 : Int) - L.length < 0) := by omega
  have hT := fun W (r : HangRow W A L) => toHangs_any A c _ L W rfl hm r
  have hE := fun (B B' : Option Addr) (d d' : Nat) W (r : HangRow W B L) (r' : HangRow W B' L) => eqHangs_same B B' _ d d' L W rfl (by omega) r r'
  have hF := fun W => same_frac T B W
  have kb := Below.refl w.heap.size w
  clear hm
  go_enter Try.func8, Try.ntmps8
  go_wp2_with fail
  refine (hZ _).mono ?_
  rintro e w' ⟨rfl, rfl⟩
  clear hZ
  go_wp2_with fail
  refine (hT _ r).mono ?_
  rintro e w1 ⟨B1, d1, rfl, o1, b⟩
  replace r := r.keep b
  replace kb := below_more kb kb.size b
  have x1 := hangRow_own o1
  have n1 := nil_cap o1
  clear o1 b
  go_wp2_with fail
  refine (hS B1 d1 _ n1 x1).mono ?_
  rintro e w2 ⟨rfl, b⟩
  replace r := r.keep b
  replace kb := below_more kb kb.size b
  clear hS x1 n1 b
  have s0 := Box.new w2 T B 28
  have b := (Below.refl w2.heap.size w2).alloc (Nat.le_refl _) (.cells #[.int .i64 T, .int .i64 B] 28)
  replace r := r.keep b
  replace kb := below_more kb kb.size b
  clear b
  go_wp2_with fail
  refine (hT _ r).mono ?_
  rintro e w3 ⟨B3, d3, rfl, o3, b⟩
  replace r := r.keep b
  replace kb := below_more kb kb.size b
  have x3 := hangRow_own o3
  have n3 := nil_cap o3
  replace s0 := s0.keep b s0.lt
  clear o3 b
  go_wp2_with fail
  refine (hI B3 d3 _ n3 x3).mono ?_
  rintro e w4 ⟨rfl, b⟩
  replace r := r.keep b
  replace kb := below_more kb kb.size b
  replace x3 := x3.keep b
  replace s0 := s0.keep b s0.lt
  clear hI n3 b
  have s1 := Box.new w4 T B 28
  replace s0 := s0.alloc (.cells #[.int .i64 T, .int .i64 B] 28)
  have b := (Below.refl w4.heap.size w4).alloc (Nat.le_refl _) (.cells #[.int .i64 T, .int .i64 B] 28)
  replace r := r.keep b
  replace kb := below_more kb kb.size b
  replace x3 := x3.keep b
  clear b
  have c0 := s0.c0
  have c1 := s0.c1
  clear s0 s1
  go_wp2_with fail
  refine (hF _).mono ?_
  rintro e w5 ⟨rfl, b⟩
  replace r := r.keep b
  replace kb := below_more kb kb.size b
  replace x3 := x3.keep b
  clear hF b c0 c1
  go_wp2_with fail
  refine (hT _ r).mono ?_
  rintro e w6 ⟨B6, d6, rfl, o6, b⟩
  replace kb := below_more kb kb.size b
  have x6 := hangRow_own o6
  replace x3 := x3.keep b
  clear o6 b r hT
  go_wp2_with fail
  refine (hE B3 B6 _ _ _ x3 x6).mono ?_
  rintro e w7 ⟨rfl, b⟩
  replace kb := below_more kb kb.size b
  clear hE b x3 x6
  go_wp2_with fail
  go_ret
  exact ⟨rfl, kb⟩

theorem exactCenter_big (A : Option Addr) (c n : Nat) (w : World) (h : 1048576 < n) (hm : n ≤ 9223372036854775807) : Calls Try.prog 8 #[.slice A n c] w fun e w' => e = .returned (.bool true) ∧ Below w.heap.size w w' := by
  have hZ := fun W => szHang_out A n c W h hm
  go_enter Try.func8, Try.ntmps8
  go_wp2_with fail
  refine (hZ _).mono ?_
  rintro e w' ⟨rfl, rfl⟩
  clear hZ
  go_wp2_with fail
  go_ret
  exact ⟨rfl, Below.refl _ _⟩

set_option maxHeartbeats 1000000 in
theorem exactShift_walk (A : Option Addr) (c : Nat) (L : List Hg) (m0 : Int) (X : List Hg) (z : Bool) (w : World) (hm : L.length ≤ 1048576) (r : HangRow w A L) (hX : X.length ≤ 1048576)
    (hS : ∀ (A : Option Addr) (c : Nat) (W : World), (A = none → L.length = 0 ∧ c = 0) → HangRow W A L → Calls Try.prog 30 #[.slice A L.length c, .int .i64 m0] W (GivesHB X z W))
    (hI : ∀ (A : Option Addr) (c : Nat) (W : World), (A = none → L.length = 0 ∧ c = 0) → HangRow W A L → Calls Try.prog 15 #[.slice A L.length c, .int .i64 m0] W (GivesHB X z W))
    : Calls Try.prog 9 #[.slice A L.length c, .int .i64 m0] w fun e w' => e = .returned (.bool true) ∧ Below w.heap.size w w' := by
  have hZ := fun W => szHang_in A L.length c W hm
  have hz : ¬ ((1048576 : Int) - L.length < 0) := by omega
  have hT := fun W (r : HangRow W A L) => toHangs_any A c _ L W rfl hm r
  have hE := fun (B B' : Option Addr) (d d' : Nat) W (r : HangRow W B L) (r' : HangRow W B' L) => eqHangs_same B B' _ d d' L W rfl (by omega) r r'
  have hM := fun (w0 : World) (R : List Rw) (A : Option Addr) (c : Nat) W (o : Own w0 W (hrow (.slice A L.length c) L :: R)) => hmark_any w0 R 1 L.length c A L W rfl (by omega) (by omega) (by omega) o
  have hx1 : (X.length : Int) ≤ 1048576 := by omega
  have hl1 : (L.length : Int) ≤ 1048576 := by omega
  have EX := fun (B B' : Option Addr) (d d' : Nat) W (r : HangRow W B X) (r' : HangRow W B' X) => eqHangs_same B B' _ d d' X W rfl (by omega) r r'
  have MX := fun (w0 : World) (R : List Rw) (A : Option Addr) (c : Nat) W (o : Own w0 W (hrow (.slice A X.length c) X :: R)) => hmark_any w0 R 1 X.length c A X W rfl (by omega) (by omega) (by omega) o
  have HX := fun (A : Option Addr) (c : Nat) W (r : HangRow W A (hmarks 1 X.length)) => hheld_any 1 X.length c A W (by omega) (by omega) (by omega) r
  have kb := Below.refl w.heap.size w
  clear hm hX
  go_enter Try.func9, Try.ntmps9
  go_wp2_with fail
  refine (hZ _).mono ?_
  rintro e w' ⟨rfl, rfl⟩
  clear hZ
  go_wp2_with fail
  refine (hT _ r).mono ?_
  rintro e w1 ⟨B1, d1, rfl, o1, b⟩
  replace r := r.keep b
  replace kb := below_more kb kb.size b
  have x1 := hangRow_own o1
  have n1 := nil_cap o1
  clear o1 b
  go_wp2_with fail
  refine (hS B1 d1 _ n1 x1).mono ?_
  rintro e w2 ⟨Y, dY, rfl, O⟩
  have b := O.bel
  replace r := r.keep b
  replace kb := below_more kb kb.size b
  have y : HangRow w2 Y X := O.hangs List.mem_cons_self rfl rfl
  clear O hS x1 n1 b
  have H := Own.none w2
  go_wp2_with fail
  refine (hT _ (r.keep H.bel)).mono ?_
  rintro e w3 ⟨B3, d3, rfl, o, b⟩
  have n3 := nil_cap o
  replace H := H.hcopy o b
  clear o b
  replace H : Own w2 w3 [hrow (.slice B3 L.length d3) L] := H
  have x3 : HangRow w3 B3 L := H.hangs List.mem_cons_self rfl rfl
  go_wp2_with fail
  refine (hI B3 d3 _ n3 x3).mono ?_
  rintro e w4 ⟨G, dG, rfl, O⟩
  clear x3 n3
  replace H := H.join O
  clear O
  replace H : Own w2 w4 [hrow (.slice G X.length dG) X, hrow (.slice B3 L.length d3) L] := H
  go_wp2_with fail
  refine (EX G Y _ _ _ (H.hangs (List.mem_cons_self) rfl rfl) (y.keep H.bel)).mono ?_
  rintro e w5 ⟨rfl, b⟩
  replace H := H.keep b
  clear b
  go_wp2_with fail
  refine (hT _ (r.keep H.bel)).mono ?_
  rintro e w6 ⟨C, dC, rfl, o, b⟩
  have cr := hangRow_own o
  replace H := H.keep b
  clear o b
  go_wp2_with fail
  refine (hE B3 C _ _ _ (H.hangs (List.mem_cons_of_mem _ (List.mem_cons_self)) rfl rfl) cr).mono ?_
  rintro e w7 ⟨rfl, b⟩
  replace H := H.keep b
  clear b cr
  replace H := H.swap
  go_wp2_with fail
  refine (hM _ _ B3 d3 _ H).mono ?_
  rintro e w8 ⟨rfl, H2⟩
  replace H := H2.swap
  clear H2
  replace H : Own w2 w8 [hrow (.slice G X.length dG) X, hrow (.slice B3 L.length d3) (hmarks 1 L.length)] := H
  go_wp2_with fail
  refine (EX G Y _ _ _ (H.hangs (List.mem_cons_self) rfl rfl) (y.keep H.bel)).mono ?_
  rintro e w9 ⟨rfl, b⟩
  replace H := H.keep b
  clear b
  go_wp2_with fail
  refine (MX _ _ G dG _ H).mono ?_
  rintro e w10 ⟨rfl, H2⟩
  replace H := H2
  clear H2
  replace H : Own w2 w10 [hrow (.slice G X.length dG) (hmarks 1 X.length), hrow (.slice B3 L.length d3) (hmarks 1 L.length)] := H
  go_wp2_with fail
  refine (HX G _ _ (H.hangs (List.mem_cons_self) rfl (hmarks_length _ _).symm)).mono ?_
  rintro e w11 ⟨rfl, rfl⟩
  go_wp2_with fail
  refine (hT _ (r.keep H.bel)).mono ?_
  rintro e w12 ⟨B12, d12, rfl, o, b⟩
  have n12 := nil_cap o
  replace H := H.hcopy o b
  clear o b
  replace H : Own w2 w12 [hrow (.slice B12 L.length d12) L, hrow (.slice G X.length dG) (hmarks 1 X.length), hrow (.slice B3 L.length d3) (hmarks 1 L.length)] := H
  have x12 : HangRow w12 B12 L := H.hangs List.mem_cons_self rfl rfl
  go_wp2_with fail
  refine (hI B12 d12 _ n12 x12).mono ?_
  rintro e w13 ⟨N, dN, rfl, O⟩
  clear x12 n12
  replace H := H.join O
  clear O
  replace H : Own w2 w13 [hrow (.slice N X.length dN) X, hrow (.slice B12 L.length d12) L, hrow (.slice G X.length dG) (hmarks 1 X.length), hrow (.slice B3 L.length d3) (hmarks 1 L.length)] := H
  go_wp2_with fail
  refine (EX N Y _ _ _ (H.hangs (List.mem_cons_self) rfl rfl) (y.keep H.bel)).mono ?_
  rintro e w14 ⟨rfl, b⟩
  replace H := H.keep b
  clear b
  go_wp2_with fail
  refine (HX G _ _ (H.hangs (List.mem_cons_of_mem _ (List.mem_cons_of_mem _ (List.mem_cons_self))) rfl (hmarks_length _ _).symm)).mono ?_
  rintro e w15 ⟨rfl, rfl⟩
  replace kb := below_more kb kb.size H.bel
  clear H hI r hT hE hM y EX MX HX
  go_wp2_with fail
  go_ret
  exact ⟨rfl, kb⟩

theorem exactShift_big (A : Option Addr) (c n : Nat) (m0 : Int) (w : World) (h : 1048576 < n) (hm : n ≤ 9223372036854775807) : Calls Try.prog 9 #[.slice A n c, .int .i64 m0] w fun e w' => e = .returned (.bool true) ∧ Below w.heap.size w w' := by
  have hZ := fun W => szHang_out A n c W h hm
  go_enter Try.func9, Try.ntmps9
  go_wp2_with fail
  refine (hZ _).mono ?_
  rintro e w' ⟨rfl, rfl⟩
  clear hZ
  go_wp2_with fail
  go_ret
  exact ⟨rfl, Below.refl _ _⟩

set_option maxHeartbeats 1000000 in
theorem exactMerge_walk (A : Option Addr) (c : Nat) (L : List Hg) (X : List Hg) (w : World) (hm : L.length ≤ 1048576) (r : HangRow w A L) (hX : X.length ≤ 1048576)
    (hS : ∀ (A : Option Addr) (c : Nat) (W : World), (A = none → L.length = 0 ∧ c = 0) → HangRow W A L → Calls Try.prog 33 #[.slice A L.length c] W (HCopied X W))
    (hI : ∀ (A : Option Addr) (c : Nat) (W : World), (A = none → L.length = 0 ∧ c = 0) → HangRow W A L → Calls Try.prog 17 #[.slice A L.length c] W (HCopied X W))
    : Calls Try.prog 10 #[.slice A L.length c] w fun e w' => e = .returned (.bool true) ∧ Below w.heap.size w w' := by
  have hZ := fun W => szHang_in A L.length c W hm
  have hz : ¬ ((1048576 : Int) - L.length < 0) := by omega
  have hT := fun W (r : HangRow W A L) => toHangs_any A c _ L W rfl hm r
  have hE := fun (B B' : Option Addr) (d d' : Nat) W (r : HangRow W B L) (r' : HangRow W B' L) => eqHangs_same B B' _ d d' L W rfl (by omega) r r'
  have hM := fun (w0 : World) (R : List Rw) (A : Option Addr) (c : Nat) W (o : Own w0 W (hrow (.slice A L.length c) L :: R)) => hmark_any w0 R 1 L.length c A L W rfl (by omega) (by omega) (by omega) o
  have hx1 : (X.length : Int) ≤ 1048576 := by omega
  have hl1 : (L.length : Int) ≤ 1048576 := by omega
  have EX := fun (B B' : Option Addr) (d d' : Nat) W (r : HangRow W B X) (r' : HangRow W B' X) => eqHangs_same B B' _ d d' X W rfl (by omega) r r'
  have MX := fun (w0 : World) (R : List Rw) (A : Option Addr) (c : Nat) W (o : Own w0 W (hrow (.slice A X.length c) X :: R)) => hmark_any w0 R 1 X.length c A X W rfl (by omega) (by omega) (by omega) o
  have HX := fun (A : Option Addr) (c : Nat) W (r : HangRow W A (hmarks 1 X.length)) => hheld_any 1 X.length c A W (by omega) (by omega) (by omega) r
  have kb := Below.refl w.heap.size w
  clear hm hX
  go_enter Try.func10, Try.ntmps10
  go_wp2_with fail
  refine (hZ _).mono ?_
  rintro e w' ⟨rfl, rfl⟩
  clear hZ
  go_wp2_with fail
  refine (hT _ r).mono ?_
  rintro e w1 ⟨B1, d1, rfl, o1, b⟩
  replace r := r.keep b
  replace kb := below_more kb kb.size b
  have x1 := hangRow_own o1
  have n1 := nil_cap o1
  clear o1 b
  go_wp2_with fail
  refine (hS B1 d1 _ n1 x1).mono ?_
  rintro e w2 ⟨Y, dY, rfl, o, b⟩
  have O : Own _ w2 [hrow (.slice Y X.length dY) X] := (Own.none _).hcopy o b
  clear o b
  have b := O.bel
  replace r := r.keep b
  replace kb := below_more kb kb.size b
  have y : HangRow w2 Y X := O.hangs List.mem_cons_self rfl rfl
  clear O hS x1 n1 b
  have H := Own.none w2
  go_wp2_with fail
  refine (hT _ (r.keep H.bel)).mono ?_
  rintro e w3 ⟨B3, d3, rfl, o, b⟩
  have n3 := nil_cap o
  replace H := H.hcopy o b
  clear o b
  replace H : Own w2 w3 [hrow (.slice B3 L.length d3) L] := H
  have x3 : HangRow w3 B3 L := H.hangs List.mem_cons_self rfl rfl
  go_wp2_with fail
  refine (hI B3 d3 _ n3 x3).mono ?_
  rintro e w4 ⟨G, dG, rfl, o, b⟩
  have O : Own _ w4 [hrow (.slice G X.length dG) X] := (Own.none _).hcopy o b
  clear o b
  clear x3 n3
  replace H := H.join O
  clear O
  replace H : Own w2 w4 [hrow (.slice G X.length dG) X, hrow (.slice B3 L.length d3) L] := H
  go_wp2_with fail
  refine (EX G Y _ _ _ (H.hangs (List.mem_cons_self) rfl rfl) (y.keep H.bel)).mono ?_
  rintro e w5 ⟨rfl, b⟩
  replace H := H.keep b
  clear b
  go_wp2_with fail
  refine (hT _ (r.keep H.bel)).mono ?_
  rintro e w6 ⟨C, dC, rfl, o, b⟩
  have cr := hangRow_own o
  replace H := H.keep b
  clear o b
  go_wp2_with fail
  refine (hE B3 C _ _ _ (H.hangs (List.mem_cons_of_mem _ (List.mem_cons_self)) rfl rfl) cr).mono ?_
  rintro e w7 ⟨rfl, b⟩
  replace H := H.keep b
  clear b cr
  replace H := H.swap
  go_wp2_with fail
  refine (hM _ _ B3 d3 _ H).mono ?_
  rintro e w8 ⟨rfl, H2⟩
  replace H := H2.swap
  clear H2
  replace H : Own w2 w8 [hrow (.slice G X.length dG) X, hrow (.slice B3 L.length d3) (hmarks 1 L.length)] := H
  go_wp2_with fail
  refine (EX G Y _ _ _ (H.hangs (List.mem_cons_self) rfl rfl) (y.keep H.bel)).mono ?_
  rintro e w9 ⟨rfl, b⟩
  replace H := H.keep b
  clear b
  go_wp2_with fail
  refine (MX _ _ G dG _ H).mono ?_
  rintro e w10 ⟨rfl, H2⟩
  replace H := H2
  clear H2
  replace H : Own w2 w10 [hrow (.slice G X.length dG) (hmarks 1 X.length), hrow (.slice B3 L.length d3) (hmarks 1 L.length)] := H
  go_wp2_with fail
  refine (HX G _ _ (H.hangs (List.mem_cons_self) rfl (hmarks_length _ _).symm)).mono ?_
  rintro e w11 ⟨rfl, rfl⟩
  go_wp2_with fail
  refine (hT _ (r.keep H.bel)).mono ?_
  rintro e w12 ⟨B12, d12, rfl, o, b⟩
  have n12 := nil_cap o
  replace H := H.hcopy o b
  clear o b
  replace H : Own w2 w12 [hrow (.slice B12 L.length d12) L, hrow (.slice G X.length dG) (hmarks 1 X.length), hrow (.slice B3 L.length d3) (hmarks 1 L.length)] := H
  have x12 : HangRow w12 B12 L := H.hangs List.mem_cons_self rfl rfl
  go_wp2_with fail
  refine (hI B12 d12 _ n12 x12).mono ?_
  rintro e w13 ⟨N, dN, rfl, o, b⟩
  have O : Own _ w13 [hrow (.slice N X.length dN) X] := (Own.none _).hcopy o b
  clear o b
  clear x12 n12
  replace H := H.join O
  clear O
  replace H : Own w2 w13 [hrow (.slice N X.length dN) X, hrow (.slice B12 L.length d12) L, hrow (.slice G X.length dG) (hmarks 1 X.length), hrow (.slice B3 L.length d3) (hmarks 1 L.length)] := H
  go_wp2_with fail
  refine (EX N Y _ _ _ (H.hangs (List.mem_cons_self) rfl rfl) (y.keep H.bel)).mono ?_
  rintro e w14 ⟨rfl, b⟩
  replace H := H.keep b
  clear b
  go_wp2_with fail
  refine (HX G _ _ (H.hangs (List.mem_cons_of_mem _ (List.mem_cons_of_mem _ (List.mem_cons_self))) rfl (hmarks_length _ _).symm)).mono ?_
  rintro e w15 ⟨rfl, rfl⟩
  replace kb := below_more kb kb.size H.bel
  clear H hI r hT hE hM y EX MX HX
  go_wp2_with fail
  go_ret
  exact ⟨rfl, kb⟩

theorem exactMerge_big (A : Option Addr) (c n : Nat) (w : World) (h : 1048576 < n) (hm : n ≤ 9223372036854775807) : Calls Try.prog 10 #[.slice A n c] w fun e w' => e = .returned (.bool true) ∧ Below w.heap.size w w' := by
  have hZ := fun W => szHang_out A n c W h hm
  go_enter Try.func10, Try.ntmps10
  go_wp2_with fail
  refine (hZ _).mono ?_
  rintro e w' ⟨rfl, rfl⟩
  clear hZ
  go_wp2_with fail
  go_ret
  exact ⟨rfl, Below.refl _ _⟩

theorem exactBeam_any (A : Option Addr) (c : Nat) (L : List Hg) (w : World) (hm : L.length ≤ 1048576) (r : HangRow w A L) : Calls Try.prog 4 #[.slice A L.length c] w fun e w' => e = .returned (.bool true) ∧ Below w.heap.size w w' := by
  exact exactBeam_walk A c L _ w hm r (fun A c W _ r => specOk_beam A _ c L W rfl hm r) (fun A c W _ r => implOk_beam A _ c L W rfl r)
theorem exactTorque_any (A : Option Addr) (c : Nat) (L : List Hg) (w : World) (hm : L.length ≤ 1048576) (r : HangRow w A L) : Calls Try.prog 5 #[.slice A L.length c] w fun e w' => e = .returned (.bool true) ∧ Below w.heap.size w w' := by
  exact exactTorque_walk A c L _ w hm r (fun A c W _ r => specTorq A _ c L W rfl hm r) (fun A c W _ r => implTorq A _ c L W rfl r)
theorem exactLevel_any (A : Option Addr) (c : Nat) (L : List Hg) (w : World) (hm : L.length ≤ 1048576) (r : HangRow w A L) : Calls Try.prog 6 #[.slice A L.length c] w fun e w' => e = .returned (.bool true) ∧ Below w.heap.size w w' := by
  exact exactLevel_walk A c L _ w hm r (fun A c W _ r => specLevel A _ c L W rfl hm r) (fun A c W _ r => implLevel A _ c L W rfl r)
theorem exactPlace_any (A : Option Addr) (c : Nat) (L : List Hg) (m0 : Int) (w : World) (hm : L.length ≤ 1048576) (r : HangRow w A L) : Calls Try.prog 7 #[.slice A L.length c, .int .i64 m0] w fun e w' => e = .returned (.bool true) ∧ Below w.heap.size w w' := by
  by_cases h : BOk L ∧ 1 ≤ m0 ∧ m0 ≤ 1000
  · exact exactPlace_walk A c L m0 _ _ _ w hm r (fun A c W _ r => specPlace_yes A _ c L m0 W rfl hm r h.1 h.2) (fun A c W _ r => implPlace_yes A _ c L m0 W rfl r h.1 h.2)
  · exact exactPlace_walk A c L m0 _ _ _ w hm r (fun A c W _ r => specPlace_no A _ c L m0 W rfl hm r h) (fun A c W _ r => implPlace_no A _ c L m0 W rfl r h)
theorem exactCenter_any (A : Option Addr) (c : Nat) (L : List Hg) (w : World) (hm : L.length ≤ 1048576) (r : HangRow w A L) : Calls Try.prog 8 #[.slice A L.length c] w fun e w' => e = .returned (.bool true) ∧ Below w.heap.size w w' := by
  by_cases h : BOk L
  · by_cases h0 : ld L = 0
    · exact exactCenter_walk A c L _ _ _ w hm r (fun A c W _ r => specCenter_nil A _ c L W rfl hm r h h0) (fun A c W _ r => implCenter_nil A _ c L W rfl r h h0)
    · exact exactCenter_walk A c L _ _ _ w hm r (fun A c W _ r => specCenter_yes A _ c L W rfl hm r h h0) (fun A c W _ r => implCenter_yes A _ c L W rfl r h h0)
  · exact exactCenter_walk A c L _ _ _ w hm r (fun A c W _ r => specCenter_no A _ c L W rfl hm r h) (fun A c W _ r => implCenter_no A _ c L W rfl r h)
theorem exactShift_any (A : Option Addr) (c : Nat) (L : List Hg) (m0 : Int) (w : World) (hm : L.length ≤ 1048576) (r : HangRow w A L) : Calls Try.prog 9 #[.slice A L.length c, .int .i64 m0] w fun e w' => e = .returned (.bool true) ∧ Below w.heap.size w w' := by
  by_cases h : BOk L ∧ -200 ≤ m0 ∧ m0 ≤ 200
  · have hl : (shA L m0).length ≤ 1048576 := by
      unfold shA
      split
      · rw [shift_length]; exact hm
      · exact hm
    exact exactShift_walk A c L m0 _ _ w hm r hl (fun A c W a r => specShift_yes A _ c L m0 W rfl a r h.1 h.2) (fun A c W a r => implShift_yes A _ c L m0 W rfl a r h.1 h.2)
  · exact exactShift_walk A c L m0 _ _ w hm r hm (fun A c W a r => specShift_no A _ c L m0 W rfl hm a r h) (fun A c W a r => implShift_no A _ c L m0 W rfl hm a r h)
theorem exactMerge_any (A : Option Addr) (c : Nat) (L : List Hg) (w : World) (hm : L.length ≤ 1048576) (r : HangRow w A L) : Calls Try.prog 10 #[.slice A L.length c] w fun e w' => e = .returned (.bool true) ∧ Below w.heap.size w w' := by
  have hl : (mg L).length ≤ 1048576 := by
    unfold mg
    split
    · have := mto_len L 201
      omega
    · exact Nat.zero_le _
  exact exactMerge_walk A c L _ w hm r hl (fun A c W _ r => specMerge A _ c L W rfl hm r) (fun A c W a r => implMerge A _ c L W rfl a r)
end Go.Proofs.Ytajndcggafjmeaa
