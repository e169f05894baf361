/-
  The contract of the model's lists of factors: in memory of the call's own.
-/
import Derived.Test.YtdnjpekclmiliaaFacs
import Derived.Test.YtdnjpekclmiliaaFacStep
import Derived.Test.YtdnjpekclmiliaaRange
import Derived.OwnWalk
import Derived.Deep.RegionLaw
import Derived.Deep.CutBlock
import Derived.Deep.CutRange
namespace Go.Proofs.Ytdnjpekclmiliaa
open Go.ChangeShapes Go.WideShapes Go.ChangeAt Go.RowKit Go.PlainAid

/-- The cells of a slice that was just built of one value. -/
theorem new_row (W : World) (u : Value) : ∀ j v, [u][j]? = some v → (W.alloc (.cells #[u] 3)).cell? ((⟨W.heap.size, 0, none⟩ : Addr).add j) = some v := news_new W [u] 3
theorem Try.infoRowT : (Try.prog.info? 27).map (fun i => (i.zero, i.size, i.bytes)) = some (some (.slice none 0 0), 1, 24) := by kernel_rfl

/-- Slices of ints of the call's own are answered, not nil. -/
def GivesRows (LL : List (List Int)) (w : World) (e : Ending) (w' : World) : Prop := ∃ (x : Addr) (c : Nat), e = .returned (.slice (some x) LL.length c) ∧ OwnSS w w' (.slice (some x) LL.length c) LL []

set_option maxRecDepth 100000 in
set_option maxHeartbeats 4000000 in
theorem specFacs_any : ∀ (d n : Nat) (H : List Int) (x : Addr) (c m : Nat) (w : World), H.length = m → d < 8 → n < 101 → 1 ≤ n → n < 2 ^ d → m + d ≤ 100 → IntRow w (some x) H →
    Calls Try.prog 39 #[.int .i64 n, .slice (some x) m c] w (GivesRows (facs d n H) w)
  | 0, n, H, x, c, m, w, hm, hd, hn, h1, hlt, hml, r => by
    rw [Nat.pow_zero] at hlt
    omega
  | d + 1, n, H, x, c, m, w, hm, hd, hn, h1, hlt, hml, r => by
    have ih := specFacs_any d
    obtain ⟨i0, hi, hz0, hz1, hz2⟩ := info_parts Try.infoIntT
    obtain ⟨i1, hi1, hq0, hq1, hq2⟩ := info_parts Try.infoRowT
    by_cases hone : n = 1
    · subst hone
      rw [facs_one]
      have hE := World.ownsRow_made (e := 3) (size := 1) (base := w.heap.size) w #[] 0 (Nat.le_refl _) (by decide) rfl
      have hN := (r.alloc (.cells #[] 3)).news
      clear ih
      go_enter Try.func39, Try.ntmps39
      go_wp2_with (at_builtin; refine wpList_append_own_at _ rfl (.tmp 9) (.tmp 10) 27 rfl w.heap.size 3 i0 (.int .i64 0) 1 8 Try.underlying27 hi hz0 hz1 hz2 rfl (by decide) (.slice (some ⟨w.heap.size, 0, none⟩) 0 0) 0 [] rfl hE x m c (ints H) rfl (by rw [ints_length, hm, Nat.mul_one]) hN (ints_one _) (by unfold maxLen; omega) (by omega) (by simp) ?_; intro v1 w1 o1 g1 _ _; have O1 := (Own.none w).spread hm o1 g1; obtain ⟨B, d1, hv⟩ := own_slice O1.hd; replace hv : v1 = .slice B m d1 := (by rw [← hm]; exact hv); subst hv; have G := OwnSS.one O1; clear o1 g1 O1)
      go_ret
      exact ⟨_, _, rfl, G⟩
    · rw [facs_more hone]
      have hni : ¬ (n : Int) = 1 := by omega
      have hnb : ((n : Int) == 1) = false := by simp [hni]
      go_enter Try.func39, Try.ntmps39
      go_wp2_with fail
      go_loopw [5, 6] (fun v i wr => ∃ y : Nat, 2 ≤ y ∧ y ≤ n + 1 ∧ i = .int .i64 y ∧ Hid (v ≠ .slice none 0 0) ∧ OwnSS w wr v (facsTo d n H (y - 2)) []) (fun _ i _ => (n + 1) - (intOf i).toNat)
      case atStart => exact ⟨2, by omega, by omega, rfl, (by simp : (Value.slice _ _ _) ≠ _), OwnSS.empty (Own.none w)⟩
      case round =>
        obtain ⟨y, hy1, hy2, rfl, hnn, O⟩ := hrel
        by_cases hle : y ≤ n
        · have hs := facsTo_succ d n H (y - 2)
          rw [show y - 2 + 1 = y + 1 - 2 by omega, show y - 2 + 2 = y by omega] at hs
          by_cases hmod : n % y = 0
          · rw [if_pos hmod] at hs
            have hyz : ¬ y = 0 := by omega
            obtain ⟨k, hk⟩ : ∃ k, n / y = k := ⟨_, rfl⟩
            have hq : IntKind.i64.wrap ((n : Int) / (y : Int)) = (k : Int) := by
              have h5 : k ≤ n := by rw [← hk]; exact Nat.div_le_self _ _
              have h6 : ((n : Int) / (y : Int)) = (k : Int) := by rw [← hk]; exact (Int.natCast_ediv n y).symm
              rw [h6, IntKind.wrap_i64]
              omega
            rw [hk] at hs
            go_wp2_with fail
            have rr := r.keep O.bel
            have hbw := O.bel.size
            have hk1 : 1 ≤ k := by rw [← hk]; exact Nat.div_pos hle (by omega)
            have hk2 : k < 2 ^ d := by
              rw [← hk]
              refine Nat.div_lt_of_lt_mul ?_
              have e : 2 ^ (d + 1) = 2 ^ d * 2 := Nat.pow_succ ..
              have : 2 ^ d * 2 ≤ y * 2 ^ d := by rw [Nat.mul_comm]; exact Nat.mul_le_mul_right _ (by omega)
              omega
            have hk3 : k < 101 := by have := Nat.div_le_self n y; omega
            have hlen1 := facsTo_le (d := d) (n := n) (j := y - 2) (by omega) hn hone (by omega) H
            have hlen2 : (facs d k (H ++ [(y : Int)])).length ≤ 200 := by rw [facs_length]; exact cntF_le d (by omega) k hk3
            generalize facsTo d n H (y - 2) = LL at O hs hlen1
            have ihk := fun (x : Addr) (c : Nat) W (h : IntRow W (some x) (H ++ [(y : Int)])) => ih k (H ++ [(y : Int)]) x c (m + 1) W (by rw [List.length_append, hm]; rfl) (by omega) hk3 hk1 hk2 (by omega) h
            generalize facs d k (H ++ [(y : Int)]) = MM at hs hlen2 ihk
            clear ih hk hk1 hk2 hk3 hlt
            go_region_law (first
              | (refine step_append_at _ rfl (.tmp 27) (.tmp 28) 27 rfl wr.heap.size 3 i0 (.int .i64 0) 1 8 Try.underlying27 hi hz0 hz1 hz2 rfl (by decide) (.slice (some ⟨_, 0, none⟩) 0 0) 0 [] rfl (by first | exact (start_i rr).own | exact (start_ii rr _).own | exact (start_iii rr _).own) x m c (ints H) rfl (by rw [ints_length, hm, Nat.mul_one]) (by first | exact (start_i rr).row.news | exact (start_ii rr _).row.news | exact (start_iii rr _).row.news) (ints_one _) (by unfold maxLen; omega) (by omega) (by first | exact (start_i rr).bel.size | exact (start_ii rr _).bel.size | exact (start_iii rr _).bel.size) ?_; intro v1 w1 o1 g1 n1 a1; have b1 : Below wr.heap.size wr w1 := (by first | exact (start_i rr).next g1 | exact (start_ii rr _).next g1 | exact (start_iii rr _).next g1))
              | (refine step_append_at _ rfl (.tmp 29) (.tmp 31) 27 rfl wr.heap.size 3 i0 (.int .i64 0) 1 8 Try.underlying27 hi hz0 hz1 hz2 rfl (by decide) v1 (0 + m) ([] ++ ints H) rfl (by first | exact o1 | exact o1.alloc _) ⟨_, 0, none⟩ 1 1 [.int .i64 y] rfl rfl (by first | exact new_row _ _ | exact news_ii g1 | exact news_iii g1) (by intro u hu; rw [List.mem_singleton.1 hu]; rfl) (by unfold maxLen; omega) (by omega) (by have := b1.size; first | omega | (simp; omega)) ?_; intro v2 w2 o2 g2 n2 a2; have b2 : Below wr.heap.size wr w2 := (by first | exact b1.grown g2 b1.size (fun k e => (o1.lt k e).1) | exact (b1.alloc b1.size _).grown g2 (by have := b1.size; simp; omega) (fun k e => (o1.lt k e).1)); obtain ⟨gg, cc, rfl, -, -⟩ := o2.form (by omega); rw [List.nil_append, ← ints_append, Nat.zero_add] at o2; have r2 : IntRow w2 (some ⟨gg, 0, none⟩) (H ++ [(y : Int)]) := intRow_own o2)
              | (go_simp; go_at_call 39; (with_reducible refine (ihk ⟨gg, 0, none⟩ cc _ r2).mono ?_); rintro e w3 ⟨x3, c3, rfl, O3⟩; replace O3 := O3.from b2)
              | (obtain ⟨xs4, news4, p1, p2, p3, p4, p5⟩ := O.append O3; refine step_append_at _ rfl (.tmp 23) (.tmp 33) 25 rfl w.heap.size 27 i1 (.slice none 0 0) 1 24 Try.underlying25 hi1 hq0 hq1 hq2 rfl (by decide) u5 LL.length xs4 rfl p1 x3 MM.length c3 news4 rfl (by rw [p2, Nat.mul_one]) p3 p4 (by unfold maxLen; omega) (by omega) (by have := O3.bel.size; omega) ?_; intro v4 w4 o4 g4 n4 a4; have O4 := p5 v4 w4 o4 g4 a4))
            all_goals
              have hn4 : Hid (v4 ≠ .slice none 0 0) := fun e => hnn.out (n4.1 e).1
              rw [← hs] at O4
              clear o1 g1 n1 a1 b1 o2 g2 n2 a2 b2 r2 O3 p1 p2 p3 p4 p5 o4 g4 n4 a4 O rr r hs ihk hq
              go_wp2
              go_roundw
              case rel => exact ⟨y + 1, by omega, by omega, by go_num, hn4, O4⟩
              case measure => simp [intOf]; omega
          · rw [if_neg hmod, List.append_nil] at hs
            rw [← hs] at O
            have hyz : ¬ y = 0 := by omega
            clear hs ih r
            go_wp2
            go_roundw
            case rel => exact ⟨y + 1, by omega, by omega, by go_num, hnn, O⟩
            case measure => simp [intOf]; omega
        · obtain rfl : y = n + 1 := by omega
          rw [show n + 1 - 2 = n - 1 by omega] at O
          obtain ⟨A, cc, hv⟩ := O.slice
          have hg : ∃ g, A = some g := by
            cases A with
            | none =>
              exfalso
              obtain ⟨vs, hl, O2⟩ := O
              have oo : wr.ownsRow w.heap.size 27 1 u5 vs.length vs := O2.hd
              obtain ⟨g, c2, he, -, -⟩ := own_some oo hnn.out
              rw [hv] at he
              injection he with he
              cases he
            | some g => exact ⟨g, rfl⟩
          obtain ⟨g, rfl⟩ := hg
          subst hv
          have G : GivesRows (facsTo d n H (n - 1)) w (.returned (.slice (some g) (facsTo d n H (n - 1)).length cc)) wr := ⟨g, cc, rfl, O⟩
          generalize (facsTo d n H (n - 1)).length = z at G ⊢
          clear O hnn ih r
          go_wp2
          go_ret
          exact G
end Go.Proofs.Ytdnjpekclmiliaa
