/-
  The contract of the model's table of distances. Only new memory is written.
-/
import Derived.Test.YtmoncfplcmdpcaaSpecPour
import Derived.Test.YtmoncfplcmdpcaaPourAll
import Derived.Test.YtmoncfplcmdpcaaJugTab
import Derived.Test.YtmoncfplcmdpcaaOwnMore
namespace Go.Proofs.Ytmoncfplcmdpcaa
open Go.ChangeShapes Go.WideShapes Go.ChangeAt Go.RowKit Go.PlainAid

/-- The table in round n, the cells below k done. -/
def rnd (a b : Nat) (g : Int) (n k : Nat) : List Int := tab (mix (cellF a b (dd a b g (n + 1))) (cellF a b (dd a b g n)) k)
/-- Has a cell below k changed? -/
def Chg (a b : Nat) (g : Int) (n k : Nat) (c : Bool) : Prop := c = true ↔ ∃ j, j < k ∧ cellF a b (dd a b g (n + 1)) j ≠ cellF a b (dd a b g n) j
section
variable {a b n : Nat} {g : Int}
theorem chg_on {k k' : Nat} {c : Bool} (h : Chg a b g n k c) (hk : k ≤ k') (e : ∀ j, k ≤ j → j < k' → cellF a b (dd a b g (n + 1)) j = cellF a b (dd a b g n) j) : Chg a b g n k' c := by
  unfold Chg at h ⊢
  rw [h]
  constructor
  · rintro ⟨j, h1, h2⟩
    exact ⟨j, by omega, h2⟩
  · rintro ⟨j, h1, h2⟩
    exact ⟨j, Decidable.byContradiction fun h3 => h2 (e j (by omega) h1), h2⟩
theorem chg_new {k : Nat} (h : cellF a b (dd a b g (n + 1)) k ≠ cellF a b (dd a b g n) k) : Chg a b g n (k + 1) true := ⟨fun _ => ⟨k, by omega, h⟩, fun _ => rfl⟩
theorem rnd_on {k k' : Nat} (hk : k ≤ k') (e : ∀ j, k ≤ j → j < k' → cellF a b (dd a b g (n + 1)) j = cellF a b (dd a b g n) j) : rnd a b g n k = rnd a b g n k' := mix_on hk e
theorem rnd_length (k : Nat) : (rnd a b g n k).length = 441 := tab_length _

/-- A state's acts below act were tried. -/
def Seek (a b : Nat) (g : Int) (n x y act : Nat) (c : Bool) (f : List Int) : Prop :=
  (f = rnd a b g n (x * 21 + y + 1) ∧ 0 ≤ dd a b g (n + 1) ((x : Int), (y : Int)) ∧ Chg a b g n (x * 21 + y + 1) c) ∨
  (f = rnd a b g n (x * 21 + y) ∧ dd a b g n ((x : Int), (y : Int)) < 0 ∧ (∀ z : Int, 1 ≤ z → z < act → toward a b (dd a b g n) n ((x : Int), (y : Int)) z = false) ∧ Chg a b g n (x * 21 + y) c)
variable {x y : Nat}
theorem seek_start (hx : x ≤ a) (hy : y ≤ b) (hb : b ≤ 20) {c : Bool} (h : Chg a b g n (x * 21 + y) c) : Seek a b g n x y 1 c (rnd a b g n (x * 21 + y)) := by
  by_cases h0 : 0 ≤ dd a b g n ((x : Int), (y : Int))
  · have e : ∀ j, x * 21 + y ≤ j → j < x * 21 + y + 1 → cellF a b (dd a b g (n + 1)) j = cellF a b (dd a b g n) j := fun j h1 h2 => by
      obtain rfl : j = x * 21 + y := by omega
      exact cellF_pos (by rw [cellF_at _ hx hy hb]; exact h0)
    exact .inl ⟨rnd_on (by omega) e, by rw [dd_old h0]; exact h0, chg_on h (by omega) e⟩
  · exact .inr ⟨rfl, by omega, fun z h1 h2 => by omega, h⟩
theorem seek_end (hx : x ≤ a) (hy : y ≤ b) (hb : b ≤ 20) {c : Bool} {f : List Int} (h : Seek a b g n x y 7 c f) : f = rnd a b g n (x * 21 + y + 1) ∧ Chg a b g n (x * 21 + y + 1) c := by
  rcases h with ⟨h1, -, h2⟩ | ⟨h1, h2, h3, h4⟩
  · exact ⟨h1, h2⟩
  · have e : ∀ j, x * 21 + y ≤ j → j < x * 21 + y + 1 → cellF a b (dd a b g (n + 1)) j = cellF a b (dd a b g n) j := fun j g1 g2 => by
      obtain rfl : j = x * 21 + y := by omega
      rw [cellF_at _ hx hy hb, cellF_at _ hx hy hb]
      have hno : acts6.any (toward a b (dd a b g n) n ((x : Int), (y : Int))) = false := by
        rw [Bool.eq_false_iff]
        intro e
        obtain ⟨z, hz, ht⟩ := List.any_eq_true.1 e
        have := mem_acts6.1 hz
        rw [h3 z this.1 (by omega)] at ht
        cases ht
      rw [dd_not (by omega) hno, dd_neg (by omega)]
    exact ⟨h1.trans (rnd_on (by omega) e), chg_on h4 (by omega) e⟩
/-- What the table tells of the state itself. -/
theorem seek_here (hx : x ≤ a) (hy : y ≤ b) (hb : b ≤ 20) (ha : a ≤ 20) {act : Nat} {c : Bool} {f : List Int} (h : Seek a b g n x y act c f) :
    (0 ≤ f.getD (x * 21 + y) 0 ∧ f = rnd a b g n (x * 21 + y + 1) ∧ Chg a b g n (x * 21 + y + 1) c) ∨ (f.getD (x * 21 + y) 0 < 0 ∧ f = rnd a b g n (x * 21 + y) ∧ dd a b g n ((x : Int), (y : Int)) < 0 ∧ (∀ z : Int, 1 ≤ z → z < act → toward a b (dd a b g n) n ((x : Int), (y : Int)) z = false) ∧ Chg a b g n (x * 21 + y) c) := by
  rcases h with ⟨h1, h2, h3⟩ | ⟨h1, h2, h3, h4⟩
  · refine .inl ⟨?_, h1, h3⟩
    rw [h1]
    unfold rnd
    rw [tab_get (by omega), mix_lo (by omega), cellF_at _ hx hy hb]
    exact h2
  · refine .inr ⟨?_, h1, h2, h3, h4⟩
    rw [h1]
    unfold rnd
    rw [tab_get (by omega), mix_hi (by omega), cellF_at _ hx hy hb]
    exact h2
theorem seek_no {act : Nat} {c : Bool} (h2 : dd a b g n ((x : Int), (y : Int)) < 0) (h3 : ∀ z : Int, 1 ≤ z → z < act → toward a b (dd a b g n) n ((x : Int), (y : Int)) z = false) (h4 : Chg a b g n (x * 21 + y) c)
    (ht : toward a b (dd a b g n) n ((x : Int), (y : Int)) act = false) : Seek a b g n x y (act + 1) c (rnd a b g n (x * 21 + y)) := by
  refine .inr ⟨rfl, h2, fun z h5 h6 => ?_, h4⟩
  by_cases e : z = act
  · rw [e]; exact ht
  · exact h3 z h5 (by omega)
theorem seek_yes (hx : x ≤ a) (hy : y ≤ b) (hb : b ≤ 20) {act : Nat} (h1 : 1 ≤ act ∧ act ≤ 6) (h2 : dd a b g n ((x : Int), (y : Int)) < 0) (ht : toward a b (dd a b g n) n ((x : Int), (y : Int)) act = true) :
    (n : Int) + 1 = cellF a b (dd a b g (n + 1)) (x * 21 + y) ∧ Seek a b g n x y (act + 1) true (rnd a b g n (x * 21 + y + 1)) := by
  have hany : acts6.any (toward a b (dd a b g n) n ((x : Int), (y : Int))) = true := List.any_eq_true.2 ⟨act, mem_acts6.2 (by omega), ht⟩
  have e := dd_new (by omega) hany
  have e1 : cellF a b (dd a b g (n + 1)) (x * 21 + y) = n + 1 := by rw [cellF_at _ hx hy hb, e]
  refine ⟨e1.symm, .inl ⟨rfl, by rw [e]; omega, chg_new ?_⟩⟩
  rw [e1, cellF_at _ hx hy hb]
  omega
/-- What the table tells of another state. -/
theorem rnd_tells {k j : Nat} (hj : j < 441) : (rnd a b g n k).getD j 0 = (n : Int) ↔ cellF a b (dd a b g n) j = (n : Int) := by
  unfold rnd
  rw [tab_get hj]
  exact mix_tells
end

/-- The table is answered. -/
def DistR (a b : Nat) (g : Int) (w : World) (e : Ending) (w' : World) : Prop :=
  ∃ F p, Dists a b g F ∧ (∀ s, F s ≤ 442) ∧ e = .returned (.slice (some ⟨p, 0, none⟩) 441 441) ∧ Own w w' [irow (.slice (some ⟨p, 0, none⟩) 441 441) (tab (cellF a b F))]

theorem key_at (a b : Int) (x y j : Nat) (w : World) (hx : x ≤ 20) (hy : y ≤ 20) (hj : x * 21 + y = j) : Calls Try.prog 32 #[jagg a b x y] w (SaysI (j : Int) w) := by
  have e : (x : Int) * 21 + (y : Int) = (j : Int) := by omega
  rw [← e]
  exact key_any a b x y w (by omega) (by omega)

set_option maxRecDepth 100000 in
set_option maxHeartbeats 4000000 in
theorem specDist_any (a b : Nat) (g : Int) (w : World) (ha : 1 ≤ a ∧ a ≤ 20) (hb : 1 ≤ b ∧ b ≤ 20) : Calls Try.prog 31 #[.int .i64 a, .int .i64 b, .int .i64 g] w (DistR a b g w) := by
  obtain ⟨i0, hi, hz0, hz1, hz2⟩ := info_parts Try.infoIntT
  go_enter Try.func31, Try.ntmps31
  go_wp2_with (at_make; refine wpList_make_full _ rfl _ _ 25 rfl w.heap.size 3 i0 (.int .i64 0) 1 Try.underlying25 hi hz0 hz1 .i64 .i64 _ _ 441 rfl rfl rfl rfl (by rw [hz2]; omega) (by unfold maxLen; omega) (Nat.le_refl _) ?_; intro w0 hown0 hgrow0; have M1 := (Own.none w).made hown0 hgrow0; clear hown0 hgrow0)
  rw [← tab_zero, ← mix_none (fun _ => -1) (fun _ => 0)] at M1
  clear hi hz0 hz1 hz2
  obtain ⟨p, hp⟩ : ∃ p, w.heap.size = p := ⟨_, rfl⟩
  rw [hp] at M1 ⊢
  replace hp := Lib.hid hp
  go_loopw [8] (fun i wr => ∃ k : Nat, k ≤ 441 ∧ i = .int .i64 k ∧ Own w wr [irow (.slice (some ⟨p, 0, none⟩) 441 441) (tab (mix (fun _ => -1) (fun _ => 0) k))]) (fun i _ => 441 - (intOf i).toNat)
  case atStart => exact ⟨0, by omega, rfl, M1⟩
  case round =>
    clear M1
    obtain ⟨k, hk, rfl, O⟩ := hrel
    by_cases hlt : k < 441
    · obtain ⟨⟨u, hu⟩, hf, O2⟩ := O.store (tab_length _) hlt (-1)
      rw [mix_set rfl] at O2
      have hki : (k : Int) < 441 := by omega
      clear O
      go_wp2_with fail
      go_roundw
      case rel => exact ⟨k + 1, by omega, by go_num, O2⟩
      case measure => simp [intOf]; omega
    · obtain rfl : k = 441 := by omega
      rw [mix_all, ← mix_none (cellF a b (dd a b g 0)) (fun _ => -1)] at O
      go_wp2_with fail
      go_loopw [9] (fun i wr => ∃ x : Nat, x ≤ a + 1 ∧ i = .int .i64 x ∧ Own w wr [irow (.slice (some ⟨p, 0, none⟩) 441 441) (tab (mix (cellF a b (dd a b g 0)) (fun _ => -1) (x * 21)))]) (fun i _ => a + 1 - (intOf i).toNat)
      case atStart => exact ⟨0, by omega, rfl, by rw [Nat.zero_mul]; exact O⟩
      case round =>
        clear O
        obtain ⟨x, hx, rfl, O⟩ := hrel
        by_cases hxa : x ≤ a
        · have hxi : (x : Int) ≤ a := by omega
          go_wp2_with fail
          go_loopw [10] (fun i wr => ∃ y : Nat, y ≤ b + 1 ∧ i = .int .i64 y ∧ Own w wr [irow (.slice (some ⟨p, 0, none⟩) 441 441) (tab (mix (cellF a b (dd a b g 0)) (fun _ => -1) (x * 21 + y)))]) (fun i _ => b + 1 - (intOf i).toNat)
          case atStart => exact ⟨0, by omega, rfl, O⟩
          case round =>
            clear O
            obtain ⟨y, hy, rfl, O⟩ := hrel
            by_cases hyb : y ≤ b
            · have hyi : (y : Int) ≤ b := by omega
              have hP := cellF_at (dd a b g 0) hxa hyb hb.2
              by_cases hg : (x : Int) = g ∨ (y : Int) = g
              · obtain ⟨⟨u, hu⟩, hf, O2⟩ := O.store (tab_length _) (show x * 21 + y < 441 by omega) 0
                rw [mix_set (by rw [hP, dd, if_pos (gl_iff.2 hg)])] at O2
                obtain ⟨j, hj⟩ : ∃ j, x * 21 + y = j := ⟨_, rfl⟩
                have hji : (x : Int) * 21 + (y : Int) = (j : Int) := by omega
                have hjl : (j : Int) < 441 := by omega
                rw [hj] at hu hf O2
                replace hj := Lib.hid hj
                clear O hP
                by_cases g1 : (x : Int) = g
                · have e1 : ((x : Int) == g) = true := by simp [g1]
                  clear g1 hg
                  go_wp2_with fail
                  go_roundw
                  case rel => exact ⟨y + 1, by omega, by go_num, by rw [← Nat.add_assoc, hj.out]; exact O2⟩
                  case measure => simp [intOf]; omega
                · have e1 : ((x : Int) == g) = false := by simp [g1]
                  have e2 : ((y : Int) == g) = true := by simp [hg.resolve_left g1]
                  clear g1 hg
                  go_wp2_with fail
                  go_roundw
                  case rel => exact ⟨y + 1, by omega, by go_num, by rw [← Nat.add_assoc, hj.out]; exact O2⟩
                  case measure => simp [intOf]; omega
              · have n1 : ¬ (x : Int) = g := fun e => hg (.inl e)
                have n2 : ¬ (y : Int) = g := fun e => hg (.inr e)
                have e1 : ((x : Int) == g) = false := by simp [n1]
                have e2 : ((y : Int) == g) = false := by simp [n2]
                have hs := mix_on (P := cellF a b (dd a b g 0)) (Q := fun _ => -1) (show x * 21 + y ≤ x * 21 + (y + 1) by omega) fun j h1 h2 => by
                  obtain rfl : j = x * 21 + y := by omega
                  rw [hP, dd, if_neg fun e => hg (gl_iff.1 e)]
                rw [hs] at O
                clear hs hg hP n1 n2
                go_wp2_with fail
                go_roundw
                case rel => exact ⟨y + 1, by omega, by go_num, O⟩
                case measure => simp [intOf]; omega
            · obtain rfl : y = b + 1 := by omega
              have hs := mix_on (P := cellF a b (dd a b g 0)) (Q := fun _ => -1) (show x * 21 + (b + 1) ≤ (x + 1) * 21 by omega) fun j h1 h2 => by
                rw [cellF_out]
                omega
              rw [hs] at O
              have hyi : ¬ ((b + 1 : Nat) : Int) ≤ b := by omega
              clear hs
              go_wp2_with fail
              go_roundw
              case rel => exact ⟨x + 1, by omega, by go_num, O⟩
              case measure => simp [intOf]; omega
        · obtain rfl : x = a + 1 := by omega
          have hs := mix_on (P := cellF a b (dd a b g 0)) (Q := fun _ => -1) (show (a + 1) * 21 ≤ 441 by omega) fun j h1 h2 => by
            rw [cellF_out]
            omega
          rw [hs, mix_all] at O
          have hxi : ¬ ((a + 1 : Nat) : Int) ≤ a := by omega
          clear hs
          go_wp2_with fail
          go_loopw [11, 12] (fun ch i wr => ∃ (n : Nat) (c : Bool), ch = .bool c ∧ i = .int .i64 n ∧ n ≤ 442 ∧ (c = true → n + cnt a b g n ≤ 441) ∧ (c = false → Dists a b g (dd a b g n)) ∧ Own w wr [irow (.slice (some ⟨p, 0, none⟩) 441 441) (tab (cellF a b (dd a b g n)))]) (fun _ i _ => 500 - (intOf i).toNat)
          case atStart => exact ⟨0, true, rfl, rfl, by omega, fun _ => by have := cnt_le (a := a) (b := b) (g := g) 0; omega, fun e => (by cases e), O⟩
          case round =>
            clear O
            obtain ⟨n, c, rfl, rfl, hn, hc1, hc2, O⟩ := hrel
            rcases c with _ | _
            · have hD := hc2 rfl
              have hend : DistR a b g w (.returned (.slice (some ⟨p, 0, none⟩) 441 441)) wr := ⟨_, _, hD, fun s => (by have := dd_range (a := a) (b := b) (g := g) n s; omega), rfl, O⟩
              clear O hD hc1 hc2
              go_wp2_with fail
              go_ret
              exact hend
            · have hcn := Lib.hid (hc1 rfl)
              have O2 : Own w wr [irow (.slice (some ⟨p, 0, none⟩) 441 441) (rnd a b g n 0)] := by unfold rnd; rw [mix_none]; exact O
              clear O hc1 hc2
              have hni : (n : Int) ≤ 442 := by omega
              go_wp2_with fail
              go_loopw [11, 13] (fun ch i wr => ∃ (x : Nat) (c : Bool), x ≤ a + 1 ∧ ch = .bool c ∧ i = .int .i64 x ∧ Chg a b g n (x * 21) c ∧ Own w wr [irow (.slice (some ⟨p, 0, none⟩) 441 441) (rnd a b g n (x * 21))]) (fun _ i _ => a + 1 - (intOf i).toNat)
              case atStart => exact ⟨0, false, by omega, rfl, rfl, ⟨fun e => (by cases e), fun ⟨j, h, _⟩ => by omega⟩, by rw [Nat.zero_mul]; exact O2⟩
              case round =>
                clear O2
                obtain ⟨x, c, hx, rfl, rfl, hch, O⟩ := hrel
                by_cases hxa : x ≤ a
                · have hxi : (x : Int) ≤ a := by omega
                  go_wp2_with fail
                  go_loopw [11, 14] (fun ch i wr => ∃ (y : Nat) (c : Bool), y ≤ b + 1 ∧ ch = .bool c ∧ i = .int .i64 y ∧ Chg a b g n (x * 21 + y) c ∧ Own w wr [irow (.slice (some ⟨p, 0, none⟩) 441 441) (rnd a b g n (x * 21 + y))]) (fun _ i _ => b + 1 - (intOf i).toNat)
                  case atStart => exact ⟨0, c, by omega, rfl, rfl, hch, O⟩
                  case round =>
                    clear O hch
                    obtain ⟨y, c, hy, rfl, rfl, hch, O⟩ := hrel
                    by_cases hyb : y ≤ b
                    · have hyi : (y : Int) ≤ b := by omega
                      have hs0 := Lib.hid (seek_start hxa hyb hb.2 hch)
                      have hpq : p < wr.heap.size := (O.hd.lt p rfl).2
                      have p0 := JBox.new wr a b x y
                      replace O := O.keep ((Below.refl wr.heap.size wr).alloc (Nat.le_refl _) (jobj a b x y 30))
                      clear hch
                      go_wp2_with fail
                      generalize hq : wr.heap.size = q at hpq p0 ⊢
                      generalize wr.alloc (jobj a b x y 30) = w5 at p0 O ⊢
                      clear hq
                      go_loopw [11, 16] (fun ch i wr => ∃ (act : Nat) (c : Bool) (f : List Int), (1 ≤ act ∧ act ≤ 7) ∧ ch = .bool c ∧ i = .int .i64 act ∧ Seek a b g n x y act c f ∧ f.length = 441 ∧ Own w wr [irow (.slice (some ⟨p, 0, none⟩) 441 441) f] ∧ JBox wr q a b x y) (fun _ i _ => 7 - (intOf i).toNat)
                      case atStart => exact ⟨1, c, _, by omega, rfl, rfl, hs0.out, rnd_length _, O, p0⟩
                      case round =>
                        clear O p0 hs0
                        obtain ⟨act, c, f, hact, rfl, rfl, hs, hfl, O, pq⟩ := hrel
                        by_cases h6 : act ≤ 6
                        · have hai : (act : Int) ≤ 6 := by omega
                          obtain ⟨j, hj⟩ : ∃ j, x * 21 + y = j := ⟨_, rfl⟩
                          have hK := fun W => key_at a b x y j W (by omega) (by omega) hj
                          have hjl : (j : Int) < 441 := by omega
                          have hjn : j < 441 := by omega
                          have hh := seek_here hxa hyb hb.2 ha.2 hs
                          rw [hj] at hh
                          replace hj := Lib.hid hj
                          obtain ⟨c0, c1, c2, c3⟩ := pq.cells
                          replace hh := Lib.hid hh
                          clear hs
                          go_wp2_with fail
                          refine (hK _).mono ?_
                          clear c0 c1 c2 c3
                          rintro e w1 ⟨rfl, b1⟩
                          replace O := O.keep b1
                          replace pq := pq.keep b1 pq.lt
                          clear b1
                          have hcell := O.cell hfl hjn
                          rcases hh.out with ⟨h1, h2, h3⟩ | ⟨h1, h2, h3, h4, h5⟩
                          · generalize f.getD j 0 = v at hcell h1
                            have hv : decide (v < 0) = false := decide_eq_false (by omega)
                            clear hh hK pq
                            rw [h2] at O
                            replace h3 := Lib.hid h3
                            clear h1 h2
                            go_wp2_with fail
                            go_roundw
                            case rel => exact ⟨y + 1, c, by omega, rfl, by go_num, by rw [← Nat.add_assoc, hj.out]; exact h3.out, by rw [← Nat.add_assoc, hj.out]; exact O⟩
                            case measure => simp [intOf]; omega
                          · generalize f.getD j 0 = v at hcell h1
                            have hv : decide (v < 0) = true := decide_eq_true h1
                            subst h2
                            replace h3 := Lib.hid h3
                            replace h4 := Lib.hid h4
                            replace h5 := Lib.hid h5
                            have hPo := fun W => specPour_any a b x y act W
                            clear hh h1
                            obtain ⟨c0, c1, c2, c3⟩ := pq.cells
                            have hpo : ∃ X Y o, pS a b x y act = (X, Y) ∧ pO a b x y act = o := ⟨_, _, _, rfl, rfl⟩
                            obtain ⟨X, Y, o, hpS, hpO⟩ := hpo
                            rw [hpS, hpO] at hPo
                            replace hpS := Lib.hid hpS
                            replace hpO := Lib.hid hpO
                            go_wp2_with fail
                            refine (hPo _).mono ?_
                            clear c0 c1 c2 c3 hPo hcell hv
                            rintro e w2 ⟨rfl, b2⟩
                            replace O := O.keep b2
                            replace pq := pq.keep b2 pq.lt
                            clear b2
                            have pg := JBox.new w2 a b X Y
                            have hpq2 : p < w2.heap.size := (O.hd.lt p rfl).2
                            have hqq := pq.lt
                            replace O := O.keep ((Below.refl w2.heap.size w2).alloc (Nat.le_refl _) (jobj a b X Y 30))
                            replace pq := pq.alloc (jobj a b X Y 30)
                            go_upto_region 30 with fail
                            generalize hq2 : w2.heap.size = g2 at hpq2 hqq pg ⊢
                            generalize w2.alloc (jobj a b X Y 30) = w3 at pg pq O ⊢
                            clear hq2
                            rcases o with _ | _
                            · have hno : toward a b (dd a b g n) n ((x : Int), (y : Int)) act = false := by unfold toward; rw [hpO.out]; rfl
                              replace hno := Lib.hid hno
                              clear pg hK
                              go_wp2_with fail
                              go_roundw
                              case rel => exact ⟨act + 1, c, _, by omega, rfl, by go_num, seek_no h3.out h4.out (by rw [hj.out]; exact h5.out) hno.out, rnd_length _, by rw [hj.out]; exact O, pq⟩
                              case measure => simp [intOf]; omega
                            · have hst : stp a b ((x : Int), (y : Int)) act = some (X, Y) := by
                                have := pour_stp (a := a) (b := b) (s := ((x : Int), (y : Int))) (act := act)
                                dsimp only at this
                                rw [hpS.out, hpO.out] at this
                                rcases this with ⟨-, e⟩ | ⟨e, -⟩
                                · exact e
                                · cases e
                              have hin := okJ_iff.1 (stp_in hst)
                              dsimp only at hin
                              obtain ⟨X', rfl⟩ := Int.eq_ofNat_of_zero_le hin.2.2.1.1
                              obtain ⟨Y', rfl⟩ := Int.eq_ofNat_of_zero_le hin.2.2.2.1
                              obtain ⟨j1, hj1⟩ : ∃ j1, X' * 21 + Y' = j1 := ⟨_, rfl⟩
                              have hK1 := fun W => key_at a b X' Y' j1 W (by omega) (by omega) hj1
                              have hjl1 : (j1 : Int) < 441 := by omega
                              have hjn1 : j1 < 441 := by omega
                              have ht : toward a b (dd a b g n) n ((x : Int), (y : Int)) act = true ↔ (rnd a b g n j).getD j1 0 = (n : Int) := by
                                rw [rnd_tells hjn1, ← hj1, cellF_at _ (by omega) (by omega) hb.2, toward_iff]
                                constructor
                                · rintro ⟨t, e1, e2⟩
                                  rw [hst] at e1
                                  injection e1 with e1
                                  rw [e1]; exact e2
                                · exact fun e => ⟨_, hst, e⟩
                              replace hj1 := Lib.hid hj1
                              replace hst := Lib.hid hst
                              clear hin
                              obtain ⟨c0, c1, c2, c3⟩ := pg.cells
                              go_wp2_with fail
                              refine (hK1 _).mono ?_
                              clear c0 c1 c2 c3 hK1 pg
                              rintro e w4 ⟨rfl, b4⟩
                              replace O := O.keep b4
                              replace pq := pq.keep b4 pq.lt
                              clear b4
                              have hcell := O.cell (rnd_length _) hjn1
                              generalize (rnd a b g n j).getD j1 0 = v at ht hcell
                              by_cases hvn : v = n
                              · have hy1 := Lib.hid (seek_yes hxa hyb hb.2 ⟨hact.1, h6⟩ h3.out (ht.2 hvn))
                                rw [hj.out] at hy1
                                subst hvn
                                obtain ⟨c0, c1, c2, c3⟩ := pq.cells
                                have e1 : ((n : Int) == (n : Int)) = true := by simp
                                clear ht
                                go_wp2_with fail
                                refine (hK _).mono ?_
                                clear c0 c1 c2 c3 hK hcell
                                rintro e w5 ⟨rfl, b5⟩
                                replace O := O.keep b5
                                replace pq := pq.keep b5 pq.lt
                                clear b5
                                obtain ⟨⟨u, hu⟩, hf, O2⟩ := O.store (rnd_length _) hjn ((n : Int) + 1)
                                have O3 : Own w (w5.setCell ⟨p, j, none⟩ (.int .i64 ((n : Int) + 1))) [irow (.slice (some ⟨p, 0, none⟩) 441 441) (rnd a b g n (j + 1))] := by
                                  have := mix_set (P := cellF a b (dd a b g (n + 1))) (Q := cellF a b (dd a b g n)) (k := j) (z := (n : Int) + 1) hy1.out.1
                                  unfold rnd at O2 ⊢
                                  rw [this] at O2
                                  exact O2
                                have pq2 : JBox (w5.setCell ⟨p, j, none⟩ (.int .i64 ((n : Int) + 1))) q a b x y := (Below.heap_setCell _ _ _ _ (by show q ≠ p; omega)).trans pq
                                clear O O2 pq
                                go_wp2_with fail
                                go_roundw
                                case rel => exact ⟨act + 1, true, _, by omega, rfl, by go_num, hy1.out.2, rnd_length _, O3, pq2⟩
                                case measure => simp [intOf]; omega
                              · have hno : toward a b (dd a b g n) n ((x : Int), (y : Int)) act = false := by
                                  rw [Bool.eq_false_iff]
                                  exact fun e => hvn (ht.1 e)
                                replace hno := Lib.hid hno
                                have e1 : (v == (n : Int)) = false := by simp [hvn]
                                clear ht hK
                                go_wp2_with fail
                                go_roundw
                                case rel => exact ⟨act + 1, c, _, by omega, rfl, by go_num, seek_no h3.out h4.out (by rw [hj.out]; exact h5.out) hno.out, rnd_length _, by rw [hj.out]; exact O, pq⟩
                                case measure => simp [intOf]; omega
                        · obtain rfl : act = 7 := by omega
                          obtain ⟨h1, h2⟩ := seek_end hxa hyb hb.2 hs
                          rw [h1] at O
                          replace h2 := Lib.hid h2
                          clear hs h1 pq
                          go_wp2_with fail
                          go_roundw
                          case rel => exact ⟨y + 1, c, by omega, rfl, by go_num, h2.out, O⟩
                          case measure => simp [intOf]; omega
                    · obtain rfl : y = b + 1 := by omega
                      have hrow : ∀ j, x * 21 + (b + 1) ≤ j → j < (x + 1) * 21 → cellF a b (dd a b g (n + 1)) j = cellF a b (dd a b g n) j := cellF_row _ _ hb.2
                      rw [rnd_on (by omega) hrow] at O
                      replace hch := Lib.hid (chg_on hch (by omega) hrow)
                      have hyi : ¬ ((b + 1 : Nat) : Int) ≤ b := by omega
                      clear hrow
                      go_wp2_with fail
                      go_roundw
                      case rel => exact ⟨x + 1, c, by omega, rfl, by go_num, hch.out, O⟩
                      case measure => simp [intOf]; omega
                · obtain rfl : x = a + 1 := by omega
                  have hrow : ∀ j, (a + 1) * 21 ≤ j → j < 441 → cellF a b (dd a b g (n + 1)) j = cellF a b (dd a b g n) j := fun j h1 _ => cellF_end _ _ j h1
                  rw [rnd_on (by omega) hrow] at O
                  unfold rnd at O
                  rw [mix_all] at O
                  replace hch := Lib.hid (chg_on hch (by omega) hrow)
                  have hxi : ¬ ((a + 1 : Nat) : Int) ≤ a := by omega
                  clear hrow
                  go_wp2_with fail
                  go_roundw
                  case rel =>
                    refine ⟨n + 1, c, rfl, by go_num, ?_, fun e => ?_, fun e => ?_, O⟩
                    · have := hcn.out; omega
                    · obtain ⟨j, h1, h2⟩ := hch.out.1 e
                      have := cnt_lt h1 h2
                      have := hcn.out
                      omega
                    · refine dists_of_same ha.2 hb.2 fun j hj => Decidable.byContradiction fun h2 => ?_
                      have := hch.out.2 ⟨j, hj, h2⟩
                      rw [e] at this
                      cases this
                  case measure => simp [intOf]; omega
end Go.Proofs.Ytmoncfplcmdpcaa
