/-
  The contracts of the exact laws' own helpers on slices of slices of ints: equal ones compare equal; marks are written into every place; held marks are found.
-/
import Derived.Test.YtdnjpekclmiliaaRowsOf
namespace Go.Proofs.Ytdnjpekclmiliaa
open Go.ChangeShapes Go.WideShapes Go.ChangeAt Go.RowKit Go.PlainAid

theorem eqSS_same (A A' : Option Addr) (n c c' : Nat) (LL : List (List Int)) (w : World) (hn : LL.length = n) (hm : n ≤ 1000000000) (hl : ∀ L ∈ LL, L.length ≤ 1000000000) (h : SSRow w A LL) (h' : SSRow w A' LL) :
    Calls Try.prog 22 #[.slice A n c, .slice A' n c'] w (Quiet true w) := by
  go_enter Try.func22, Try.ntmps22
  go_wp2
  go_loopw [5] (fun i wr => ∃ k q : Nat, k ≤ n ∧ i = .int .i64 k ∧ wr = w.drewN q) (fun i _ => n - (intOf i).toNat)
  case atStart => exact ⟨0, 0, by omega, rfl, rfl⟩
  case round =>
    obtain ⟨k, q, hk, rfl, rfl⟩ := hrel
    by_cases hlt : k < n
    · have b := below_drewN (Below.refl w.heap.size w) q
      have hq : Hid (∀ p, ∃ p', (w.drewN q).drewN p = w.drewN p') := fun p => ⟨q + p, World.drewN_drewN ..⟩
      obtain ⟨x, B, d, rfl, -, hc, r⟩ := (h.keep b) k (by omega)
      obtain ⟨y, B', d', rfl, -, hc', r'⟩ := (h'.keep b) k (by omega)
      have hL : (LL.getD k []).length ≤ 1000000000 := hl _ (by rw [getD_nil (by omega)]; exact List.getElem_mem (by omega))
      clear h h' b hl
      generalize w.drewN q = w1 at hc hc' r r' hq ⊢
      have hE := fun (q : Nat) => eqInts_same B B' _ d d' (LL.getD k []) (w1.drewN q) rfl hL (r.keep (below_drewN (Below.refl w1.heap.size w1) q)) (r'.keep (below_drewN (Below.refl w1.heap.size w1) q))
      clear r r' hL
      generalize LL.getD k [] = L at hc hc' hE
      generalize L.length = m at hc hc' hE
      go_wp2
      go_quiet (first | (go_at_call 18; refine Calls.quiet_of (hE _)))
      go_wp2
      go_roundw
      case rel =>
        obtain ⟨p', hp⟩ := hq.out nq
        exact ⟨k + 1, p', by omega, by go_num, hp⟩
      case measure => simp [intOf]; omega
    · clear h h' hl
      go_wp2
      go_ret
      exact ⟨rfl, _, rfl⟩

/-- Marks from s on in every place. -/
def MarkedSS (w0 : World) (v : Value) (s : Int) (LL : List (List Int)) (R : List Rw) (e : Ending) (w' : World) : Prop := e = .returned (.int .i64 (s + (sizeSS LL : Nat))) ∧ OwnSS w0 w' v (marksSS s LL) R

theorem markSS_any (w0 : World) (s : Int) (A : Option Addr) (c n : Nat) (LL : List (List Int)) (R : List Rw) (w : World) (hn : LL.length = n) (hm : n ≤ 1000000000) (hs0 : 0 ≤ s) (hz : s + (sizeSS LL : Nat) ≤ 1000000000) (h : OwnSS w0 w (.slice A n c) LL R) :
    Calls Try.prog 23 #[.slice A n c, .int .i64 s] w (MarkedSS w0 (.slice A n c) s LL R) := by
  have h0 : OwnSS w0 w (.slice A n c) (markedTo s LL 0) R := by unfold markedTo; simpa [marksSS] using h
  have hform : 0 < n → ∃ g, A = some ⟨g, 0, .none⟩ := fun hp => by
    obtain ⟨vs, hl, O⟩ := h
    have o : w.ownsRow w0.heap.size 27 1 (.slice A n c) vs.length vs := O.hd
    obtain ⟨g, cap, hv, -, -⟩ := o.form (by omega)
    injection hv with hv
    exact ⟨g, hv⟩
  go_enter Try.func23, Try.ntmps23
  go_wp2
  go_loopw [5, 1] (fun i m wr => ∃ k : Nat, k ≤ n ∧ i = .int .i64 k ∧ m = .int .i64 (s + (sizeSS (LL.take k) : Nat)) ∧ OwnSS w0 wr (.slice A n c) (markedTo s LL k) R) (fun i _ _ => n - (intOf i).toNat)
  case atStart => exact ⟨0, by omega, rfl, by simp [sizeSS], h0⟩
  case round =>
    clear h h0
    obtain ⟨k, hk, rfl, rfl, O⟩ := hrel
    by_cases hlt : k < n
    · obtain ⟨g, rfl⟩ := hform (by omega)
      have hz1 := sizeSS_take_le LL k
      have hz2 := sizeSS_take_le LL (k + 1)
      have hz3 := sizeSS_take (LL := LL) (k := k) (by omega)
      obtain ⟨B, d, o, hcell, hback⟩ := OwnSS.mark (w1 := wr) (k := k) (by omega) O
      have hc := hcell (g := g) (d := c) (by rw [hn])
      have hM := imark_any w0.heap.size (s + (sizeSS (LL.take k) : Nat)) (LL.getD k []).length d B _ wr (by omega) (by omega) (by omega) o
      have hnext : ∀ w1 : World, IMarked w0.heap.size (s + (sizeSS (LL.take k) : Nat)) (LL.getD k []).length (.slice B (LL.getD k []).length d) wr (.returned (.int .i64 (s + (sizeSS (LL.take k) : Nat) + ((LL.getD k []).length : Nat)))) w1 → OwnSS w0 w1 (.slice (some ⟨g, 0, .none⟩) n c) (markedTo s LL (k + 1)) R := fun w1 hi => by
        obtain ⟨-, o1, g1⟩ := hi
        obtain ⟨B2, d2, o2, hcell2, hback2⟩ := OwnSS.mark (w1 := w1) (k := k) (by omega) O
        have hc2 := hcell2 (g := g) (d := c) (by rw [hn])
        rw [hc2] at hc
        injection hc with hc
        injection hc with e1 _ e3
        subst e1 e3
        exact hback2 o1 g1
      have hnum : Hid (s + (sizeSS (LL.take k) : Nat) + ((LL.getD k []).length : Nat) = s + (sizeSS (LL.take (k + 1)) : Nat)) := by
        show _ = _
        omega
      have hb1 : 0 ≤ s + (sizeSS (LL.take k) : Nat) := by omega
      have hb2 : s + (sizeSS (LL.take k) : Nat) ≤ 2000000000 := by omega
      clear hcell hback o O hz1 hz2 hz3 hz
      generalize (LL.getD k []).length = m at hc hM hnext hnum
      generalize s + (sizeSS (LL.take k) : Nat) = t at hM hnext hnum hb1 hb2
      go_wp2_with fail
      refine hM.mono ?_
      rintro e w2 ⟨rfl, o1, g1⟩
      have O2 := hnext w2 ⟨rfl, o1, g1⟩
      clear hM hnext o1 g1 hc
      go_wp2_with fail
      go_roundw
      case rel => exact ⟨k + 1, by omega, by go_num, by rw [hnum.out], O2⟩
      case measure => simp [intOf]; omega
    · obtain rfl : k = n := by omega
      have e1 : LL.take k = LL := by rw [← hn, List.take_length]
      rw [← hn, markedTo_all, hn] at O
      rw [e1]
      have hend : MarkedSS w0 (.slice A k c) s LL R (.returned (.int .i64 (s + (sizeSS LL : Nat)))) wr := ⟨rfl, O⟩
      clear O e1 hz
      go_wp2_with fail
      go_ret
      exact hend

theorem heldSS_any (s : Int) (A : Option Addr) (c n : Nat) (LL : List (List Int)) (w : World) (hn : LL.length = n) (hm : n ≤ 1000000000) (hs0 : 0 ≤ s) (hz : s + (sizeSS LL : Nat) ≤ 1000000000) (h : SSRow w A (marksSS s LL)) :
    Calls Try.prog 24 #[.slice A n c, .int .i64 s] w (IHeld s (sizeSS LL) w) := by
  go_enter Try.func24, Try.ntmps24
  go_wp2
  go_loopw [5, 1] (fun i m wr => ∃ k q : Nat, k ≤ n ∧ i = .int .i64 k ∧ m = .int .i64 (s + (sizeSS (LL.take k) : Nat)) ∧ wr = w.drewN q) (fun i _ _ => n - (intOf i).toNat)
  case atStart => exact ⟨0, 0, by omega, rfl, by simp [sizeSS], rfl⟩
  case round =>
    obtain ⟨k, q, hk, rfl, rfl, rfl⟩ := hrel
    by_cases hlt : k < n
    · have b := below_drewN (Below.refl w.heap.size w) q
      obtain ⟨x, B, d, rfl, -, hc, r⟩ := (h.keep b) k (by rw [marksSS_length]; omega)
      rw [marksSS_get (by omega)] at hc r
      rw [iallMarks_length] at hc
      have hz1 := sizeSS_take_le LL k
      have hz2 := sizeSS_take_le LL (k + 1)
      have hz3 := sizeSS_take (LL := LL) (k := k) (by omega)
      have hM := iheld_any (s + (sizeSS (LL.take k) : Nat)) (LL.getD k []).length d B _ (by omega) (by omega) (by omega) r
      have hnum : Hid (s + (sizeSS (LL.take k) : Nat) + ((LL.getD k []).length : Nat) = s + (sizeSS (LL.take (k + 1)) : Nat)) := by
        show _ = _
        omega
      have hb1 : 0 ≤ s + (sizeSS (LL.take k) : Nat) := by omega
      have hb2 : s + (sizeSS (LL.take k) : Nat) ≤ 2000000000 := by omega
      have hb3 : 0 ≤ s + (sizeSS (LL.take k) : Nat) + ((LL.getD k []).length : Nat) := by omega
      have hq : Hid (∀ p, ∃ p', (w.drewN q).drewN p = w.drewN p') := fun p => ⟨q + p, World.drewN_drewN ..⟩
      clear h r hz1 hz2 hz3 hz b
      generalize (LL.getD k []).length = m at hc hM hnum hb3
      generalize s + (sizeSS (LL.take k) : Nat) = t at hM hnum hb1 hb2 hb3
      generalize w.drewN q = w1 at hc hM hq ⊢
      go_wp2_with fail
      refine hM.mono ?_
      rintro e w2 ⟨rfl, q2, rfl⟩
      clear hM hc
      go_wp2_with fail
      go_roundw
      case rel =>
        obtain ⟨p', hp⟩ := hq.out q2
        exact ⟨k + 1, p', by omega, by go_num, by rw [hnum.out], hp⟩
      case measure => simp [intOf]; omega
    · obtain rfl : k = n := by omega
      have e1 : LL.take k = LL := by rw [← hn, List.take_length]
      rw [e1]
      have hend : IHeld s (sizeSS LL) w (.returned (.int .i64 (s + (sizeSS LL : Nat)))) (w.drewN q) := ⟨rfl, q, rfl⟩
      clear h e1 hz
      go_wp2_with fail
      go_ret
      exact hend
end Go.Proofs.Ytdnjpekclmiliaa
