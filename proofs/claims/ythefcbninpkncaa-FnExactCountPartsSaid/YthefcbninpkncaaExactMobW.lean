/-
  The walks of the laws that the program's functions on mobiles answer as the model does, leave their arguments, and own what they answer.
-/
import Derived.Test.YthefcbninpkncaaPartExact
import Derived.Test.YthefcbninpkncaaSpecMore
namespace Go.Proofs.Ythefcbninpkncaa
open Go.ChangeShapes Go.WideShapes Go.ChangeAt Go.RowKit Go.PlainAid

theorem exactMok_walk (A : Option Addr) (c : Nat) (L : List PartT) (z : Bool) (w : World) (hm : L.length ≤ 1048576) (r : PartRow w A L)
    (hS : ∀ (A : Option Addr) (c : Nat) (W : World), (A = none → L.length = 0 ∧ c = 0) → PartRow W A L → Calls Try.prog 18 #[.slice A L.length c] W (SaysB z W))
    (hI : ∀ (A : Option Addr) (c : Nat) (W : World), (A = none → L.length = 0 ∧ c = 0) → PartRow W A L → Calls Try.prog 20 #[.slice A L.length c] W (SaysB z W))
    : Calls Try.prog 4 #[.slice A L.length c] w fun e w' => e = .returned (.bool true) ∧ Below w.heap.size w w' := by
  have hZ := fun W => szPart_in A L.length c W hm
  have hz : ¬ ((1048576 : Int) - L.length < 0) := by omega
  have hT := fun W (r : PartRow W A L) => toParts_any A c _ L W rfl hm r
  have hE := fun (B B' : Option Addr) (d d' : Nat) W (r : PartRow W B L) (r' : PartRow W B' L) => eqParts_same B B' _ d d' L W rfl (by omega) r r'
  have kb := Below.refl w.heap.size w
  clear hm
  go_enter Try.func4, Try.ntmps4
  go_wp2_with fail
  refine (hZ _).mono ?_
  rintro e w' ⟨rfl, rfl⟩
  clear hZ
  go_wp2_with fail
  refine (hT _ r).mono ?_
  rintro e w1 ⟨B1, d1, rfl, o1, b⟩
  replace r := r.keep b
  replace kb := below_more kb kb.size b
  have x1 := ptRow_own o1
  have n1 := ptnil_cap o1
  clear o1 b
  go_wp2_with fail
  refine (hS B1 d1 _ n1 x1).mono ?_
  rintro e w2 ⟨rfl, b⟩
  replace r := r.keep b
  replace kb := below_more kb kb.size b
  clear hS x1 n1 b
  go_wp2_with fail
  refine (hT _ r).mono ?_
  rintro e w3 ⟨B3, d3, rfl, o3, b⟩
  replace r := r.keep b
  replace kb := below_more kb kb.size b
  have x3 := ptRow_own o3
  have n3 := ptnil_cap o3
  clear o3 b
  go_wp2_with fail
  refine (hI B3 d3 _ n3 x3).mono ?_
  rintro e w4 ⟨rfl, b⟩
  replace r := r.keep b
  replace kb := below_more kb kb.size b
  replace x3 := x3.keep b
  clear hI n3 b
  go_wp2_with fail
  refine (hT _ r).mono ?_
  rintro e w6 ⟨B6, d6, rfl, o6, b⟩
  replace kb := below_more kb kb.size b
  have x6 := ptRow_own o6
  replace x3 := x3.keep b
  clear o6 b r hT
  go_wp2_with fail
  refine (hE B3 B6 _ _ _ x3 x6).mono ?_
  rintro e w7 ⟨rfl, b⟩
  replace kb := below_more kb kb.size b
  clear hE b x3 x6
  go_wp2_with fail
  go_ret
  exact ⟨rfl, kb⟩

theorem exactMok_big (A : Option Addr) (c n : Nat) (w : World) (h : 1048576 < n) (hm : n ≤ 9223372036854775807) : Calls Try.prog 4 #[.slice A n c] w fun e w' => e = .returned (.bool true) ∧ Below w.heap.size w w' := by
  have hZ := fun W => szPart_out A n c W h hm
  go_enter Try.func4, Try.ntmps4
  go_wp2_with fail
  refine (hZ _).mono ?_
  rintro e w' ⟨rfl, rfl⟩
  clear hZ
  go_wp2_with fail
  go_ret
  exact ⟨rfl, Below.refl _ _⟩

theorem exactWof_walk (A : Option Addr) (c : Nat) (L : List PartT) (m0 : Int) (x : Int) (w : World) (hm : L.length ≤ 1048576) (r : PartRow w A L)
    (hS : ∀ (A : Option Addr) (c : Nat) (W : World), (A = none → L.length = 0 ∧ c = 0) → PartRow W A L → Calls Try.prog 22 #[.slice A L.length c, .int .i64 m0] W (SaysI x W))
    (hI : ∀ (A : Option Addr) (c : Nat) (W : World), (A = none → L.length = 0 ∧ c = 0) → PartRow W A L → Calls Try.prog 16 #[.slice A L.length c, .int .i64 m0] W (SaysI x W))
    : Calls Try.prog 5 #[.slice A L.length c, .int .i64 m0] w fun e w' => e = .returned (.bool true) ∧ Below w.heap.size w w' := by
  have hZ := fun W => szPart_in A L.length c W hm
  have hz : ¬ ((1048576 : Int) - L.length < 0) := by omega
  have hT := fun W (r : PartRow W A L) => toParts_any A c _ L W rfl hm r
  have hE := fun (B B' : Option Addr) (d d' : Nat) W (r : PartRow W B L) (r' : PartRow W B' L) => eqParts_same B B' _ d d' L W rfl (by omega) r r'
  have kb := Below.refl w.heap.size w
  clear hm
  go_enter Try.func5, Try.ntmps5
  go_wp2_with fail
  refine (hZ _).mono ?_
  rintro e w' ⟨rfl, rfl⟩
  clear hZ
  go_wp2_with fail
  refine (hT _ r).mono ?_
  rintro e w1 ⟨B1, d1, rfl, o1, b⟩
  replace r := r.keep b
  replace kb := below_more kb kb.size b
  have x1 := ptRow_own o1
  have n1 := ptnil_cap o1
  clear o1 b
  go_wp2_with fail
  refine (hS B1 d1 _ n1 x1).mono ?_
  rintro e w2 ⟨rfl, b⟩
  replace r := r.keep b
  replace kb := below_more kb kb.size b
  clear hS x1 n1 b
  go_wp2_with fail
  refine (hT _ r).mono ?_
  rintro e w3 ⟨B3, d3, rfl, o3, b⟩
  replace r := r.keep b
  replace kb := below_more kb kb.size b
  have x3 := ptRow_own o3
  have n3 := ptnil_cap o3
  clear o3 b
  go_wp2_with fail
  refine (hI B3 d3 _ n3 x3).mono ?_
  rintro e w4 ⟨rfl, b⟩
  replace r := r.keep b
  replace kb := below_more kb kb.size b
  replace x3 := x3.keep b
  clear hI n3 b
  go_wp2_with fail
  refine (hT _ r).mono ?_
  rintro e w6 ⟨B6, d6, rfl, o6, b⟩
  replace kb := below_more kb kb.size b
  have x6 := ptRow_own o6
  replace x3 := x3.keep b
  clear o6 b r hT
  go_wp2_with fail
  refine (hE B3 B6 _ _ _ x3 x6).mono ?_
  rintro e w7 ⟨rfl, b⟩
  replace kb := below_more kb kb.size b
  clear hE b x3 x6
  go_wp2_with fail
  go_ret
  exact ⟨rfl, kb⟩

theorem exactWof_big (A : Option Addr) (c n : Nat) (m0 : Int) (w : World) (h : 1048576 < n) (hm : n ≤ 9223372036854775807) : Calls Try.prog 5 #[.slice A n c, .int .i64 m0] w fun e w' => e = .returned (.bool true) ∧ Below w.heap.size w w' := by
  have hZ := fun W => szPart_out A n c W h hm
  go_enter Try.func5, Try.ntmps5
  go_wp2_with fail
  refine (hZ _).mono ?_
  rintro e w' ⟨rfl, rfl⟩
  clear hZ
  go_wp2_with fail
  go_ret
  exact ⟨rfl, Below.refl _ _⟩

theorem exactBal_walk (A : Option Addr) (c : Nat) (L : List PartT) (z : Bool) (w : World) (hm : L.length ≤ 1048576) (r : PartRow w A L)
    (hS : ∀ (A : Option Addr) (c : Nat) (W : World), (A = none → L.length = 0 ∧ c = 0) → PartRow W A L → Calls Try.prog 23 #[.slice A L.length c] W (SaysB z W))
    (hI : ∀ (A : Option Addr) (c : Nat) (W : World), (A = none → L.length = 0 ∧ c = 0) → PartRow W A L → Calls Try.prog 14 #[.slice A L.length c] W (SaysB z W))
    : Calls Try.prog 6 #[.slice A L.length c] w fun e w' => e = .returned (.bool true) ∧ Below w.heap.size w w' := by
  have hZ := fun W => szPart_in A L.length c W hm
  have hz : ¬ ((1048576 : Int) - L.length < 0) := by omega
  have hT := fun W (r : PartRow W A L) => toParts_any A c _ L W rfl hm r
  have hE := fun (B B' : Option Addr) (d d' : Nat) W (r : PartRow W B L) (r' : PartRow W B' L) => eqParts_same B B' _ d d' L W rfl (by omega) r r'
  have kb := Below.refl w.heap.size w
  clear hm
  go_enter Try.func6, Try.ntmps6
  go_wp2_with fail
  refine (hZ _).mono ?_
  rintro e w' ⟨rfl, rfl⟩
  clear hZ
  go_wp2_with fail
  refine (hT _ r).mono ?_
  rintro e w1 ⟨B1, d1, rfl, o1, b⟩
  replace r := r.keep b
  replace kb := below_more kb kb.size b
  have x1 := ptRow_own o1
  have n1 := ptnil_cap o1
  clear o1 b
  go_wp2_with fail
  refine (hS B1 d1 _ n1 x1).mono ?_
  rintro e w2 ⟨rfl, b⟩
  replace r := r.keep b
  replace kb := below_more kb kb.size b
  clear hS x1 n1 b
  go_wp2_with fail
  refine (hT _ r).mono ?_
  rintro e w3 ⟨B3, d3, rfl, o3, b⟩
  replace r := r.keep b
  replace kb := below_more kb kb.size b
  have x3 := ptRow_own o3
  have n3 := ptnil_cap o3
  clear o3 b
  go_wp2_with fail
  refine (hI B3 d3 _ n3 x3).mono ?_
  rintro e w4 ⟨rfl, b⟩
  replace r := r.keep b
  replace kb := below_more kb kb.size b
  replace x3 := x3.keep b
  clear hI n3 b
  go_wp2_with fail
  refine (hT _ r).mono ?_
  rintro e w6 ⟨B6, d6, rfl, o6, b⟩
  replace kb := below_more kb kb.size b
  have x6 := ptRow_own o6
  replace x3 := x3.keep b
  clear o6 b r hT
  go_wp2_with fail
  refine (hE B3 B6 _ _ _ x3 x6).mono ?_
  rintro e w7 ⟨rfl, b⟩
  replace kb := below_more kb kb.size b
  clear hE b x3 x6
  go_wp2_with fail
  go_ret
  exact ⟨rfl, kb⟩

theorem exactBal_big (A : Option Addr) (c n : Nat) (w : World) (h : 1048576 < n) (hm : n ≤ 9223372036854775807) : Calls Try.prog 6 #[.slice A n c] w fun e w' => e = .returned (.bool true) ∧ Below w.heap.size w w' := by
  have hZ := fun W => szPart_out A n c W h hm
  go_enter Try.func6, Try.ntmps6
  go_wp2_with fail
  refine (hZ _).mono ?_
  rintro e w' ⟨rfl, rfl⟩
  clear hZ
  go_wp2_with fail
  go_ret
  exact ⟨rfl, Below.refl _ _⟩

theorem exactTilt_walk (A : Option Addr) (c : Nat) (L : List PartT) (x : Int) (w : World) (hm : L.length ≤ 1048576) (r : PartRow w A L)
    (hS : ∀ (A : Option Addr) (c : Nat) (W : World), (A = none → L.length = 0 ∧ c = 0) → PartRow W A L → Calls Try.prog 24 #[.slice A L.length c] W (SaysI x W))
    (hI : ∀ (A : Option Addr) (c : Nat) (W : World), (A = none → L.length = 0 ∧ c = 0) → PartRow W A L → Calls Try.prog 15 #[.slice A L.length c] W (SaysI x W))
    : Calls Try.prog 7 #[.slice A L.length c] w fun e w' => e = .returned (.bool true) ∧ Below w.heap.size w w' := by
  have hZ := fun W => szPart_in A L.length c W hm
  have hz : ¬ ((1048576 : Int) - L.length < 0) := by omega
  have hT := fun W (r : PartRow W A L) => toParts_any A c _ L W rfl hm r
  have hE := fun (B B' : Option Addr) (d d' : Nat) W (r : PartRow W B L) (r' : PartRow W B' L) => eqParts_same B B' _ d d' L W rfl (by omega) r r'
  have kb := Below.refl w.heap.size w
  clear hm
  go_enter Try.func7, Try.ntmps7
  go_wp2_with fail
  refine (hZ _).mono ?_
  rintro e w' ⟨rfl, rfl⟩
  clear hZ
  go_wp2_with fail
  refine (hT _ r).mono ?_
  rintro e w1 ⟨B1, d1, rfl, o1, b⟩
  replace r := r.keep b
  replace kb := below_more kb kb.size b
  have x1 := ptRow_own o1
  have n1 := ptnil_cap o1
  clear o1 b
  go_wp2_with fail
  refine (hS B1 d1 _ n1 x1).mono ?_
  rintro e w2 ⟨rfl, b⟩
  replace r := r.keep b
  replace kb := below_more kb kb.size b
  clear hS x1 n1 b
  go_wp2_with fail
  refine (hT _ r).mono ?_
  rintro e w3 ⟨B3, d3, rfl, o3, b⟩
  replace r := r.keep b
  replace kb := below_more kb kb.size b
  have x3 := ptRow_own o3
  have n3 := ptnil_cap o3
  clear o3 b
  go_wp2_with fail
  refine (hI B3 d3 _ n3 x3).mono ?_
  rintro e w4 ⟨rfl, b⟩
  replace r := r.keep b
  replace kb := below_more kb kb.size b
  replace x3 := x3.keep b
  clear hI n3 b
  go_wp2_with fail
  refine (hT _ r).mono ?_
  rintro e w6 ⟨B6, d6, rfl, o6, b⟩
  replace kb := below_more kb kb.size b
  have x6 := ptRow_own o6
  replace x3 := x3.keep b
  clear o6 b r hT
  go_wp2_with fail
  refine (hE B3 B6 _ _ _ x3 x6).mono ?_
  rintro e w7 ⟨rfl, b⟩
  replace kb := below_more kb kb.size b
  clear hE b x3 x6
  go_wp2_with fail
  go_ret
  exact ⟨rfl, kb⟩

theorem exactTilt_big (A : Option Addr) (c n : Nat) (w : World) (h : 1048576 < n) (hm : n ≤ 9223372036854775807) : Calls Try.prog 7 #[.slice A n c] w fun e w' => e = .returned (.bool true) ∧ Below w.heap.size w w' := by
  have hZ := fun W => szPart_out A n c W h hm
  go_enter Try.func7, Try.ntmps7
  go_wp2_with fail
  refine (hZ _).mono ?_
  rintro e w' ⟨rfl, rfl⟩
  clear hZ
  go_wp2_with fail
  go_ret
  exact ⟨rfl, Below.refl _ _⟩

set_option maxHeartbeats 1000000 in
theorem exactLeast_walk (A : Option Addr) (c : Nat) (L : List PartT) (X : List PartT) (z : Bool) (w : World) (hm : L.length ≤ 1048576) (r : PartRow w A L) (hX : X.length ≤ 1048576)
    (hS : ∀ (A : Option Addr) (c : Nat) (W : World), (A = none → L.length = 0 ∧ c = 0) → PartRow W A L → Calls Try.prog 25 #[.slice A L.length c] W (GivesPartB X z W))
    (hI : ∀ (A : Option Addr) (c : Nat) (W : World), (A = none → L.length = 0 ∧ c = 0) → PartRow W A L → Calls Try.prog 12 #[.slice A L.length c] W (GivesPartB X z W))
    : Calls Try.prog 8 #[.slice A L.length c] w fun e w' => e = .returned (.bool true) ∧ Below w.heap.size w w' := by
  have hZ := fun W => szPart_in A L.length c W hm
  have hz : ¬ ((1048576 : Int) - L.length < 0) := by omega
  have hT := fun W (r : PartRow W A L) => toParts_any A c _ L W rfl hm r
  have hE := fun (B B' : Option Addr) (d d' : Nat) W (r : PartRow W B L) (r' : PartRow W B' L) => eqParts_same B B' _ d d' L W rfl (by omega) r r'
  have hM := fun (w0 : World) (R : List Rw) (A : Option Addr) (c : Nat) W (o : Own w0 W (ptrow (.slice A L.length c) L :: R)) => markPart_any w0 R 1 L.length c A L W rfl (by omega) (by omega) (by omega) o
  have hx1 : (X.length : Int) ≤ 1048576 := by omega
  have hl1 : (L.length : Int) ≤ 1048576 := by omega
  have EX := fun (B B' : Option Addr) (d d' : Nat) W (r : PartRow W B X) (r' : PartRow W B' X) => eqParts_same B B' _ d d' X W rfl (by omega) r r'
  have MX := fun (w0 : World) (R : List Rw) (A : Option Addr) (c : Nat) W (o : Own w0 W (ptrow (.slice A X.length c) X :: R)) => markPart_any w0 R 1 X.length c A X W rfl (by omega) (by omega) (by omega) o
  have HX := fun (A : Option Addr) (c : Nat) W (r : PartRow W A (ptmarks 1 X.length)) => heldPart_any 1 X.length c A W (by omega) (by omega) (by omega) r
  have kb := Below.refl w.heap.size w
  clear hm hX
  go_enter Try.func8, Try.ntmps8
  go_wp2_with fail
  refine (hZ _).mono ?_
  rintro e w' ⟨rfl, rfl⟩
  clear hZ
  go_wp2_with fail
  refine (hT _ r).mono ?_
  rintro e w1 ⟨B1, d1, rfl, o1, b⟩
  replace r := r.keep b
  replace kb := below_more kb kb.size b
  have x1 := ptRow_own o1
  have n1 := ptnil_cap o1
  clear o1 b
  go_wp2_with fail
  refine (hS B1 d1 _ n1 x1).mono ?_
  rintro e w2 ⟨Y, dY, rfl, O⟩
  have b := O.bel
  replace r := r.keep b
  replace kb := below_more kb kb.size b
  have y : PartRow w2 Y X := ptrow_reads O List.mem_cons_self rfl rfl
  clear O hS x1 n1 b
  have H := Own.none w2
  go_wp2_with fail
  refine (hT _ (r.keep H.bel)).mono ?_
  rintro e w3 ⟨B3, d3, rfl, o, b⟩
  have n3 := ptnil_cap o
  replace H := ptrow_copy H o b
  clear o b
  replace H : Own w2 w3 [ptrow (.slice B3 L.length d3) L] := H
  have x3 : PartRow w3 B3 L := ptrow_reads H List.mem_cons_self rfl rfl
  go_wp2_with fail
  refine (hI B3 d3 _ n3 x3).mono ?_
  rintro e w4 ⟨G, dG, rfl, O⟩
  clear x3 n3
  replace H := H.join O
  clear O
  replace H : Own w2 w4 [ptrow (.slice G X.length dG) X, ptrow (.slice B3 L.length d3) L] := H
  go_wp2_with fail
  refine (EX G Y _ _ _ (ptrow_reads H (List.mem_cons_self) rfl rfl) (y.keep H.bel)).mono ?_
  rintro e w5 ⟨rfl, b⟩
  replace H := H.keep b
  clear b
  go_wp2_with fail
  refine (hT _ (r.keep H.bel)).mono ?_
  rintro e w6 ⟨C, dC, rfl, o, b⟩
  have cr := ptRow_own o
  replace H := H.keep b
  clear o b
  go_wp2_with fail
  refine (hE B3 C _ _ _ (ptrow_reads H (List.mem_cons_of_mem _ (List.mem_cons_self)) rfl rfl) cr).mono ?_
  rintro e w7 ⟨rfl, b⟩
  replace H := H.keep b
  clear b cr
  replace H := H.swap
  go_wp2_with fail
  refine (hM _ _ B3 d3 _ H).mono ?_
  rintro e w8 ⟨rfl, H2⟩
  replace H := H2.swap
  clear H2
  replace H : Own w2 w8 [ptrow (.slice G X.length dG) X, ptrow (.slice B3 L.length d3) (ptmarks 1 L.length)] := H
  go_wp2_with fail
  refine (EX G Y _ _ _ (ptrow_reads H (List.mem_cons_self) rfl rfl) (y.keep H.bel)).mono ?_
  rintro e w9 ⟨rfl, b⟩
  replace H := H.keep b
  clear b
  go_wp2_with fail
  refine (MX _ _ G dG _ H).mono ?_
  rintro e w10 ⟨rfl, H2⟩
  replace H := H2
  clear H2
  replace H : Own w2 w10 [ptrow (.slice G X.length dG) (ptmarks 1 X.length), ptrow (.slice B3 L.length d3) (ptmarks 1 L.length)] := H
  go_wp2_with fail
  refine (HX G _ _ (ptrow_reads H (List.mem_cons_self) rfl (ptmarks_length _ _).symm)).mono ?_
  rintro e w11 ⟨rfl, rfl⟩
  go_wp2_with fail
  refine (hT _ (r.keep H.bel)).mono ?_
  rintro e w12 ⟨B12, d12, rfl, o, b⟩
  have n12 := ptnil_cap o
  replace H := ptrow_copy H o b
  clear o b
  replace H : Own w2 w12 [ptrow (.slice B12 L.length d12) L, ptrow (.slice G X.length dG) (ptmarks 1 X.length), ptrow (.slice B3 L.length d3) (ptmarks 1 L.length)] := H
  have x12 : PartRow w12 B12 L := ptrow_reads H List.mem_cons_self rfl rfl
  go_wp2_with fail
  refine (hI B12 d12 _ n12 x12).mono ?_
  rintro e w13 ⟨N, dN, rfl, O⟩
  clear x12 n12
  replace H := H.join O
  clear O
  replace H : Own w2 w13 [ptrow (.slice N X.length dN) X, ptrow (.slice B12 L.length d12) L, ptrow (.slice G X.length dG) (ptmarks 1 X.length), ptrow (.slice B3 L.length d3) (ptmarks 1 L.length)] := H
  go_wp2_with fail
  refine (EX N Y _ _ _ (ptrow_reads H (List.mem_cons_self) rfl rfl) (y.keep H.bel)).mono ?_
  rintro e w14 ⟨rfl, b⟩
  replace H := H.keep b
  clear b
  go_wp2_with fail
  refine (HX G _ _ (ptrow_reads H (List.mem_cons_of_mem _ (List.mem_cons_of_mem _ (List.mem_cons_self))) rfl (ptmarks_length _ _).symm)).mono ?_
  rintro e w15 ⟨rfl, rfl⟩
  replace kb := below_more kb kb.size H.bel
  clear H hI r hT hE hM y EX MX HX
  go_wp2_with fail
  go_ret
  exact ⟨rfl, kb⟩

theorem exactLeast_big (A : Option Addr) (c n : Nat) (w : World) (h : 1048576 < n) (hm : n ≤ 9223372036854775807) : Calls Try.prog 8 #[.slice A n c] w fun e w' => e = .returned (.bool true) ∧ Below w.heap.size w w' := by
  have hZ := fun W => szPart_out A n c W h hm
  go_enter Try.func8, Try.ntmps8
  go_wp2_with fail
  refine (hZ _).mono ?_
  rintro e w' ⟨rfl, rfl⟩
  clear hZ
  go_wp2_with fail
  go_ret
  exact ⟨rfl, Below.refl _ _⟩

theorem exactCount_walk (A : Option Addr) (c : Nat) (L : List PartT) (x y : Int) (w : World) (hm : L.length ≤ 1048576) (r : PartRow w A L)
    (hS : ∀ (A : Option Addr) (c : Nat) (W : World), (A = none → L.length = 0 ∧ c = 0) → PartRow W A L → Calls Try.prog 28 #[.slice A L.length c] W (SaysTwo x y W))
    (hI : ∀ (A : Option Addr) (c : Nat) (W : World), (A = none → L.length = 0 ∧ c = 0) → PartRow W A L → Calls Try.prog 13 #[.slice A L.length c] W (SaysTwo x y W))
    : Calls Try.prog 9 #[.slice A L.length c] w fun e w' => e = .returned (.bool true) ∧ Below w.heap.size w w' := by
  have hZ := fun W => szPart_in A L.length c W hm
  have hz : ¬ ((1048576 : Int) - L.length < 0) := by omega
  have hT := fun W (r : PartRow W A L) => toParts_any A c _ L W rfl hm r
  have hE := fun (B B' : Option Addr) (d d' : Nat) W (r : PartRow W B L) (r' : PartRow W B' L) => eqParts_same B B' _ d d' L W rfl (by omega) r r'
  have kb := Below.refl w.heap.size w
  clear hm
  go_enter Try.func9, Try.ntmps9
  go_wp2_with fail
  refine (hZ _).mono ?_
  rintro e w' ⟨rfl, rfl⟩
  clear hZ
  go_wp2_with fail
  refine (hT _ r).mono ?_
  rintro e w1 ⟨B1, d1, rfl, o1, b⟩
  replace r := r.keep b
  replace kb := below_more kb kb.size b
  have x1 := ptRow_own o1
  have n1 := ptnil_cap o1
  clear o1 b
  go_wp2_with fail
  refine (hS B1 d1 _ n1 x1).mono ?_
  rintro e w2 ⟨rfl, b⟩
  replace r := r.keep b
  replace kb := below_more kb kb.size b
  clear hS x1 n1 b
  go_wp2_with fail
  refine (hT _ r).mono ?_
  rintro e w3 ⟨B3, d3, rfl, o3, b⟩
  replace r := r.keep b
  replace kb := below_more kb kb.size b
  have x3 := ptRow_own o3
  have n3 := ptnil_cap o3
  clear o3 b
  go_wp2_with fail
  refine (hI B3 d3 _ n3 x3).mono ?_
  rintro e w4 ⟨rfl, b⟩
  replace r := r.keep b
  replace kb := below_more kb kb.size b
  replace x3 := x3.keep b
  clear hI n3 b
  go_wp2_with fail
  refine (hT _ r).mono ?_
  rintro e w6 ⟨B6, d6, rfl, o6, b⟩
  replace kb := below_more kb kb.size b
  have x6 := ptRow_own o6
  replace x3 := x3.keep b
  clear o6 b r hT
  go_wp2_with fail
  refine (hE B3 B6 _ _ _ x3 x6).mono ?_
  rintro e w7 ⟨rfl, b⟩
  replace kb := below_more kb kb.size b
  clear hE b x3 x6
  go_wp2_with fail
  go_ret
  exact ⟨rfl, kb⟩

theorem exactCount_big (A : Option Addr) (c n : Nat) (w : World) (h : 1048576 < n) (hm : n ≤ 9223372036854775807) : Calls Try.prog 9 #[.slice A n c] w fun e w' => e = .returned (.bool true) ∧ Below w.heap.size w w' := by
  have hZ := fun W => szPart_out A n c W h hm
  go_enter Try.func9, Try.ntmps9
  go_wp2_with fail
  refine (hZ _).mono ?_
  rintro e w' ⟨rfl, rfl⟩
  clear hZ
  go_wp2_with fail
  go_ret
  exact ⟨rfl, Below.refl _ _⟩

end Go.Proofs.Ythefcbninpkncaa
