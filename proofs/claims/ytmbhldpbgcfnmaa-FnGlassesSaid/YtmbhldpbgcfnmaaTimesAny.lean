/-
  The contracts of TimesWith and CanTime at every argument, the model's and the program's. Only new memory is written.
-/
import Derived.Test.YtmbhldpbgcfnmaaImplTimes
import Derived.Test.YtmbhldpbgcfnmaaSpecTimes
namespace Go.Proofs.Ytmbhldpbgcfnmaa
open Go.ChangeShapes Go.WideShapes Go.ChangeAt Go.RowKit Go.PlainAid

theorem timA_no {a b m : Int} (h : ¬ (1 ≤ a ∧ a ≤ 12 ∧ 1 ≤ b ∧ b ≤ 12 ∧ 1 ≤ m ∧ m ≤ 60)) : timA a b m = [] := if_neg h
theorem can_tim (a b m : Int) : canA a b m = decide (0 < (timA a b m).length ∧ (timA a b m).getD ((timA a b m).length - 1) 0 = m) := by
  by_cases h : 1 ≤ a ∧ a ≤ 12 ∧ 1 ≤ b ∧ b ≤ 12 ∧ 1 ≤ m ∧ m ≤ 60
  · obtain ⟨a, rfl⟩ : ∃ n : Nat, a = n := ⟨a.toNat, by omega⟩
    obtain ⟨b, rfl⟩ : ∃ n : Nat, b = n := ⟨b.toNat, by omega⟩
    obtain ⟨m, rfl⟩ : ∃ n : Nat, m = n := ⟨m.toNat, by omega⟩
    rw [timA_yes (by omega) (by omega) (by omega), canA_yes (by omega) (by omega) (by omega)]
    have := last_tms (a := a) (b := b) (m := m) (by omega)
    rcases hA : At a b m with _ | _
    · rw [hA] at this
      exact (decide_eq_false fun g => by have := this.1 g; cases this).symm
    · exact (decide_eq_true (this.2 hA)).symm
  · rw [timA_no h]
    unfold canA
    rw [decide_eq_false h]
    simp

set_option maxHeartbeats 1000000 in
theorem specTimes_any (a b m : Int) (w : World) : Calls Try.prog 23 #[.int .i64 a, .int .i64 b, .int .i64 m] w (Copied (timA a b m) w) := by
  by_cases h : 1 ≤ a ∧ a ≤ 12 ∧ 1 ≤ b ∧ b ≤ 12 ∧ 1 ≤ m ∧ m ≤ 60
  · obtain ⟨a, rfl⟩ : ∃ n : Nat, a = n := ⟨a.toNat, by omega⟩
    obtain ⟨b, rfl⟩ : ∃ n : Nat, b = n := ⟨b.toNat, by omega⟩
    obtain ⟨m, rfl⟩ : ∃ n : Nat, m = n := ⟨m.toNat, by omega⟩
    rw [timA_yes (by omega) (by omega) (by omega)]
    exact specTimes_nat a b m w (by omega) (by omega) (by omega)
  · rw [timA_no h]
    have hO := fun W => specGlassesOk_any a b 0 0 W
    have E0 := (Own.none w).empty
    rcases hk : okG a b 0 0 with _ | _
    · rw [hk] at hO
      clear h hk
      go_enter Try.func23, Try.ntmps23
      go_wp2_with fail
      refine (hO _).mono ?_
      clear hO
      rintro e w2 ⟨rfl, b2⟩
      have hend := (E0.keep b2).copied
      clear E0 b2
      go_wp2_with fail
      go_ret
      exact hend
    · rw [hk] at hO
      rw [okG_iff] at hk
      have hI := fun W => in_any m 1 60 W
      rw [show decide (1 ≤ m ∧ m ≤ 60) = false from decide_eq_false (by omega)] at hI
      clear h hk
      go_enter Try.func23, Try.ntmps23
      go_wp2_with fail
      refine (hO _).mono ?_
      clear hO
      rintro e w2 ⟨rfl, b2⟩
      have hend := (E0.keep b2).copied
      clear E0 b2
      go_wp2_with fail
      refine (hI _).mono ?_
      clear hI
      rintro e w3 ⟨rfl, rfl⟩
      go_wp2_with fail
      go_ret
      exact hend

set_option maxHeartbeats 1000000 in
theorem implTimes_any (a b m : Int) (w : World) : Calls Try.prog 13 #[.int .i64 a, .int .i64 b, .int .i64 m] w (Copied (timA a b m) w) := by
  by_cases h : 1 ≤ a ∧ a ≤ 12 ∧ 1 ≤ b ∧ b ≤ 12 ∧ 1 ≤ m ∧ m ≤ 60
  · obtain ⟨a, rfl⟩ : ∃ n : Nat, a = n := ⟨a.toNat, by omega⟩
    obtain ⟨b, rfl⟩ : ∃ n : Nat, b = n := ⟨b.toNat, by omega⟩
    obtain ⟨m, rfl⟩ : ∃ n : Nat, m = n := ⟨m.toNat, by omega⟩
    rw [timA_yes (by omega) (by omega) (by omega)]
    exact implTimes_nat a b m w (by omega) (by omega) (by omega)
  · rw [timA_no h]
    have hO := fun W => implGlassesOk_any a b 0 0 W
    have O := (Own.none w).jug a b 0 0
    rcases hk : okG a b 0 0 with _ | _
    · rw [hk] at hO
      clear h hk
      go_enter Try.func13, Try.ntmps13
      go_upto_region 2 with fail
      generalize w.alloc (jobj a b 0 0 25) = w1 at O ⊢
      obtain ⟨p, hp⟩ : ∃ p, w.heap.size = p := ⟨_, rfl⟩
      rw [hp] at O ⊢
      obtain ⟨c0, c1, c2, c3⟩ := (O.jbox (q := p) List.mem_cons_self).cells
      replace hp := Lib.hid hp
      go_wp2_with fail
      refine (hO _).mono ?_
      clear hO c0 c1 c2 c3
      rintro e w2 ⟨rfl, b2⟩
      have hend := nil_copied (O.keep b2).bel
      clear O b2
      go_wp2_with fail
      go_ret
      exact hend
    · rw [hk] at hO
      rw [okG_iff] at hk
      by_cases hm : m < 1
      · clear h hk
        go_enter Try.func13, Try.ntmps13
        go_upto_region 2 with fail
        generalize w.alloc (jobj a b 0 0 25) = w1 at O ⊢
        obtain ⟨p, hp⟩ : ∃ p, w.heap.size = p := ⟨_, rfl⟩
        rw [hp] at O ⊢
        obtain ⟨c0, c1, c2, c3⟩ := (O.jbox (q := p) List.mem_cons_self).cells
        replace hp := Lib.hid hp
        go_wp2_with fail
        refine (hO _).mono ?_
        clear hO c0 c1 c2 c3
        rintro e w2 ⟨rfl, b2⟩
        have hend := nil_copied (O.keep b2).bel
        clear O b2
        go_wp2_with fail
        go_ret
        exact hend
      · have hm2 : 60 < m := by omega
        clear h hk
        go_enter Try.func13, Try.ntmps13
        go_upto_region 2 with fail
        generalize w.alloc (jobj a b 0 0 25) = w1 at O ⊢
        obtain ⟨p, hp⟩ : ∃ p, w.heap.size = p := ⟨_, rfl⟩
        rw [hp] at O ⊢
        obtain ⟨c0, c1, c2, c3⟩ := (O.jbox (q := p) List.mem_cons_self).cells
        replace hp := Lib.hid hp
        go_wp2_with fail
        refine (hO _).mono ?_
        clear hO c0 c1 c2 c3
        rintro e w2 ⟨rfl, b2⟩
        have hend := nil_copied (O.keep b2).bel
        clear O b2
        go_wp2_with fail
        go_ret
        exact hend

theorem specCan_any (a b m : Int) (w : World) : Calls Try.prog 27 #[.int .i64 a, .int .i64 b, .int .i64 m] w (SaysB (canA a b m) w) := by
  have hT := fun W => specTimes_any a b m W
  have hl := timA_len a b m
  rw [can_tim]
  generalize timA a b m = L at hT hl ⊢
  obtain ⟨n, hn⟩ : ∃ n, L.length = n := ⟨_, rfl⟩
  have hn61 : n ≤ 61 := by omega
  clear hl
  by_cases h0 : 0 < n
  · obtain ⟨k, hk⟩ : ∃ k, n - 1 = k := ⟨_, rfl⟩
    have hki : (n : Int) - 1 = (k : Int) := by omega
    have hkn : (k : Int) < n := by omega
    have h0i : (0 : Int) < n := by omega
    obtain ⟨z, hz⟩ : ∃ z, L.getD k 0 = z := ⟨_, rfl⟩
    have e : decide (0 < L.length ∧ L.getD (L.length - 1) 0 = m) = (z == m) := by
      rw [hn, hk, hz]
      by_cases g : z = m
      · rw [decide_eq_true ⟨h0, g⟩]; simp [g]
      · rw [decide_eq_false fun h => g h.2]; simp [g]
    rw [e]
    obtain ⟨q, hq⟩ : ∃ q, (z == m) = q := ⟨_, rfl⟩
    rw [hq]
    replace hk := Lib.hid hk
    clear e
    go_enter Try.func27, Try.ntmps27
    go_wp2_with fail
    refine (hT _).mono ?_
    clear hT
    rintro e w2 ⟨A, c, rfl, o, kb⟩
    have r := intRow_own o
    obtain ⟨x, rfl, hx, hc⟩ := r k (by have := hk.out; omega)
    rw [hz] at hc
    clear o r hz
    rw [hn]
    replace hn := Lib.hid hn
    go_wp2_with fail
    go_ret
    exact ⟨rfl, kb⟩
  · obtain rfl : n = 0 := by omega
    have e : decide (0 < L.length ∧ L.getD (L.length - 1) 0 = m) = false := decide_eq_false fun h => by omega
    rw [e]
    clear e
    go_enter Try.func27, Try.ntmps27
    go_wp2_with fail
    refine (hT _).mono ?_
    clear hT
    rintro e w2 ⟨A, c, rfl, o, kb⟩
    clear o
    rw [hn]
    replace hn := Lib.hid hn
    go_wp2_with fail
    go_ret
    exact ⟨rfl, kb⟩

theorem implCan_any (a b m : Int) (w : World) : Calls Try.prog 14 #[.int .i64 a, .int .i64 b, .int .i64 m] w (SaysB (canA a b m) w) := by
  have hT := fun W => implTimes_any a b m W
  have hl := timA_len a b m
  rw [can_tim]
  generalize timA a b m = L at hT hl ⊢
  obtain ⟨n, hn⟩ : ∃ n, L.length = n := ⟨_, rfl⟩
  have hn61 : n ≤ 61 := by omega
  clear hl
  by_cases h0 : 0 < n
  · obtain ⟨k, hk⟩ : ∃ k, n - 1 = k := ⟨_, rfl⟩
    have hki : (n : Int) - 1 = (k : Int) := by omega
    have hkn : (k : Int) < n := by omega
    have h0i : (0 : Int) < n := by omega
    obtain ⟨z, hz⟩ : ∃ z, L.getD k 0 = z := ⟨_, rfl⟩
    have e : decide (0 < L.length ∧ L.getD (L.length - 1) 0 = m) = (z == m) := by
      rw [hn, hk, hz]
      by_cases g : z = m
      · rw [decide_eq_true ⟨h0, g⟩]; simp [g]
      · rw [decide_eq_false fun h => g h.2]; simp [g]
    rw [e]
    obtain ⟨q, hq⟩ : ∃ q, (z == m) = q := ⟨_, rfl⟩
    rw [hq]
    replace hk := Lib.hid hk
    clear e
    go_enter Try.func14, Try.ntmps14
    go_wp2_with fail
    refine (hT _).mono ?_
    clear hT
    rintro e w2 ⟨A, c, rfl, o, kb⟩
    have r := intRow_own o
    obtain ⟨x, rfl, hx, hc⟩ := r k (by have := hk.out; omega)
    rw [hz] at hc
    clear o r hz
    rw [hn]
    replace hn := Lib.hid hn
    go_wp2_with fail
    go_ret
    exact ⟨rfl, kb⟩
  · obtain rfl : n = 0 := by omega
    have e : decide (0 < L.length ∧ L.getD (L.length - 1) 0 = m) = false := decide_eq_false fun h => by omega
    rw [e]
    clear e
    go_enter Try.func14, Try.ntmps14
    go_wp2_with fail
    refine (hT _).mono ?_
    clear hT
    rintro e w2 ⟨A, c, rfl, o, kb⟩
    clear o
    rw [hn]
    replace hn := Lib.hid hn
    go_wp2_with fail
    go_ret
    exact ⟨rfl, kb⟩

end Go.Proofs.Ytmbhldpbgcfnmaa
