/-
  The draw of a beam: up to six hangs near the point, in memory of the call's own.
-/
import Derived.Test.YtajndcggafjmeaaLst
import Derived.Test.YtajndcggafjmeaaLeverFacts
import Derived.Test.YtajndcggafjmeaaHangExact
import Derived.Test.YtajndcggafjmeaaAppendAny
namespace Go.Proofs.Ytajndcggafjmeaa
open Go.ChangeShapes Go.WideShapes Go.ChangeAt Go.RowKit Go.PlainAid

/-- A list of hangs of the call's own that a draw appends to; the cursor stands; beside it only new memory. -/
structure HSt (w : World) (p : Nat) (a : Option Addr) (len cap : Nat) (v : Value) (L : List Hg) (wr : World) : Prop where
  cur : Cur wr p a len cap
  own : wr.ownsRow w.heap.size 34 2 v L.length (hcells L)
  grown : w.grownBy wr (some p)
theorem HSt.start {w : World} {p : Nat} {a : Option Addr} {len cap : Nat} (C : Cur w p a len cap) : HSt w p a len cap (.slice (some ⟨w.heap.size, 0, .none⟩) 0 0) [] (w.alloc (.cells #[] 34)) :=
  ⟨C.alloc _, World.ownsRow_made w #[] 0 (Nat.le_refl _) (by decide) rfl, World.grownBy_alloc w _ _⟩
theorem HSt.drawn {w wr w1 : World} {p : Nat} {a : Option Addr} {len cap : Nat} {v : Value} {L : List Hg} (hp : p < w.heap.size) (h : HSt w p a len cap v L wr) (C : Cur w1 p a len cap) (g : wr.grownBy w1 (some p)) : HSt w p a len cap v L w1 := by
  refine ⟨C, h.own.kept g ?_, grown_trans h.grown g⟩
  rcases e : v.ownBlock with _ | q
  · exact .inl rfl
  · refine .inr fun e2 => ?_
    injection e2 with e2
    have := (h.own.lt q e).1
    omega
theorem HSt.app {w wr w1 : World} {p : Nat} {a : Option Addr} {len cap : Nat} {v v' : Value} {o : Obj} {x : Hg} {L : List Hg} (hp : p < w.heap.size) (h : HSt w p a len cap v L wr)
    (hown1 : w1.ownsRow w.heap.size 34 2 v' (L.length + 1) (hcells L ++ [.int .i64 x.1, .int .i64 x.2])) (hgrow1 : (wr.alloc o).grownBy w1 v.ownBlock) : HSt w p a len cap v' (L ++ [x]) w1 := by
  refine ⟨(h.cur.alloc o).grown hgrow1 (fun g e => ?_), ?_, grown_own h.grown h.own (Nat.le_refl _) hgrow1⟩
  · have := (h.own.lt g e).1
    omega
  · rw [hcells_app, List.length_append]
    exact hown1
theorem LowB.app {L : List Hg} {P Y : Int} (h : L.length < 6) (g : ∀ x ∈ L, (-10 ≤ x.1 ∧ x.1 ≤ 10) ∧ 0 ≤ x.2 ∧ x.2 ≤ 39) (hP : -10 ≤ P ∧ P ≤ 10) (hY : 0 ≤ Y ∧ Y ≤ 39) : LowB (L ++ [(P, Y)]) := by
  refine ⟨by rw [List.length_append]; exact h, fun x hx => ?_⟩
  rcases List.mem_append.1 hx with hx | hx
  · exact g x hx
  · rw [List.mem_singleton.1 hx]
    exact ⟨hP, hY⟩

def DrawnBeam (w : World) (p : Nat) (a : Option Addr) (len cap : Nat) (e : Ending) (w' : World) : Prop :=
  ∃ (A : Option Addr) (c : Nat) (L : List Hg), LowB L ∧ e = .returned (.slice A L.length c) ∧ Cur w' p a len cap ∧ w'.ownsRow w.heap.size 34 2 (.slice A L.length c) L.length (hcells L) ∧ w.grownBy w' (some p)

set_option maxHeartbeats 4000000 in
theorem beamDraw_any (p len cap : Nat) (a : Option Addr) (w : World) (C : Cur w p a len cap) :
    Calls Try.prog 34 #[.pointer (some ⟨p, 0, none⟩)] w (DrawnBeam w p a len cap) := by
  obtain ⟨i0, hi, hz0, hz1, hz2⟩ := info_parts Try.infoHangT
  have hp := C.lt
  have S0 := HSt.start C
  clear C
  go_enter Try.func34, Try.ntmps34
  go_wp2_with fail
  refine (below_any 7 p len cap a _ S0.cur).mono ?_
  rintro e w1 ⟨u, ⟨-, hu⟩, rfl, C1, g1⟩
  obtain ⟨u0, u1⟩ := hu (by omega)
  replace S0 := S0.drawn hp C1 g1
  obtain ⟨n, rfl⟩ := Int.eq_ofNat_of_zero_le u0
  clear hu C1 g1 u0
  go_wp2_with fail
  go_loopw [3, 5] (fun v i wr => ∃ (k : Nat) (L : List Hg), k ≤ n ∧ L.length = k ∧ i = .int .i64 k ∧ (∀ x ∈ L, (-10 ≤ x.1 ∧ x.1 ≤ 10) ∧ 0 ≤ x.2 ∧ x.2 ≤ 39) ∧ HSt w p a len cap v L wr) (fun _ i _ => n - (intOf i).toNat)
  case atStart => exact ⟨0, [], by omega, rfl, rfl, LowB.nil.2, S0⟩
  case round =>
    clear S0
    obtain ⟨k, L, hk, hl, rfl, hG, S⟩ := hrel
    by_cases hlt : k < n
    · have hlt2 : (k : Int) < n := by omega
      obtain ⟨A0, c0, hv⟩ := own_slice S.own
      subst hv
      rw [hl] at S
      go_wp2_with fail
      refine (below_any 21 p len cap a _ S.cur).mono ?_
      rintro e w2 ⟨P, ⟨-, hP⟩, rfl, C1, g1⟩
      obtain ⟨p0, p1⟩ := hP (by omega)
      replace S := S.drawn hp C1 g1
      clear hP C1 g1
      go_wp2_with fail
      refine (below_any 40 p len cap a _ S.cur).mono ?_
      rintro e w3 ⟨Y, ⟨-, hY⟩, rfl, C1, g1⟩
      obtain ⟨y0, y1⟩ := hY (by omega)
      replace S := S.drawn hp C1 g1
      clear hY C1 g1
      have h5 : w3.ownsRow w.heap.size 34 2 (.slice A0 k c0) k (hcells L) := by have := S.own; rw [hl] at this; exact this
      have happ : ∀ v6 w6, w6.ownsRow w.heap.size 34 2 v6 (k + 1) (hcells L ++ [.int .i64 (P - 10), .int .i64 Y]) → (w3.alloc (.cells #[.int .i64 (P - 10), .int .i64 Y] 34)).grownBy w6 (Value.slice A0 k c0).ownBlock → HSt w p a len cap v6 (L ++ [(P - 10, Y)]) w6 := fun v6 w6 o6 g6 => S.app hp (x := (P - 10, Y)) (by rw [hl]; exact o6) g6
      have G2 := (LowB.app (L := L) (P := P - 10) (Y := Y) (by omega) hG (by omega) (by omega)).2
      have hs := S.grown.size
      generalize hcells L = xs at h5 happ
      clear S hG
      go_wp2_with (at_builtin; refine wpList_append_any _ rfl (.tmp 18) (.tmp 23) 24 rfl w.heap.size 34 i0 _ 2 16 Try.underlying24 hi hz0 hz1 hz2 rfl (by decide) (.slice A0 k c0) k xs rfl (h5.alloc _) (some ⟨w3.heap.size, 0, none⟩) 1 1 [.int .i64 (P - 10), .int .i64 Y] rfl rfl (fun e => by cases e) (fun ad he => by injection he with he; subst he; exact news_new w3 [_, _] _) (by simp [Value.oneCell']) (by unfold maxLen; omega) (by omega) (by simp; omega) ?_; intro v6 w6 o6 g6 a6; have S2 := happ v6 w6 o6 g6; clear o6 g6 a6)
      clear h5 happ
      go_roundw
      case rel => exact ⟨k + 1, _, by omega, by rw [List.length_append, hl]; rfl, by go_num, G2, S2⟩
      case measure => simp [intOf]; omega
    · obtain rfl : k = n := by omega
      have hge : ¬ (k : Int) < k := by omega
      obtain ⟨A, c, hv⟩ := own_slice S.own
      subst hv
      have hend : DrawnBeam w p a len cap (.returned (.slice A L.length c)) wr := ⟨A, c, L, ⟨by omega, hG⟩, rfl, S.cur, S.own, S.grown⟩
      rw [hl] at hend
      clear S hG
      go_wp2_with fail
      go_ret
      exact hend

/-- What the law's draw answers. -/
def DrawnBeamL (B : Nat) (w : World) (e : Ending) (w' : World) : Prop :=
  ∃ (A : Option Addr) (c : Nat) (L : List Hg), LowB L ∧ (A = none → L.length = 0 ∧ c = 0) ∧ e = .returned (.slice A L.length c) ∧ HangRow w' A L ∧ Below B w w'
theorem nil_cap' {w : World} {B n c : Nat} {T : TypeId} {s : Nat} {A : Option Addr} {xs : List Value} (o : w.ownsRow B T s (.slice A n c) n xs) : A = none → n = 0 ∧ c = 0 := fun h => by
  rcases o.2 with ⟨e, h0⟩ | ⟨g, cap, cur, e, -⟩
  · injection e with _ _ e3
    exact ⟨h0, e3⟩
  · injection e with e1
    rw [h] at e1; cases e1
theorem drawBeam_any (B : Nat) (a : Option Addr) (len cap : Nat) (w : World) (hB : B = w.heap.size) (hl : len ≤ 1048576) (hr : Bytes w w.heap.size a len) :
    Calls Try.prog 12 #[.slice a len cap] w (DrawnBeamL B w) := by
  go_enter Try.func12, Try.ntmps12
  go_wp2_with fail
  refine (new_any a len cap w hl hr).mono ?_
  rintro e w0 ⟨rfl, C0, b0, s0⟩
  have bel : ∀ w2 : World, w0.grownBy w2 (some w.heap.size) → Below B w w2 := fun w2 g => hB ▸ b0.trans (below_of_grown g (Nat.le_refl _) (by omega))
  clear b0 s0 hr hl hB
  generalize w.heap.size = p at C0 bel ⊢
  go_wp2_with fail
  refine (beamDraw_any p len cap a _ C0).mono ?_
  rintro e w1 ⟨A, c, L, hP, rfl, C1, o, g1⟩
  have hend : DrawnBeamL B w (.returned (.slice A L.length c)) w1 := ⟨A, c, L, hP, nil_cap' o, rfl, hangRow_own o, bel _ g1⟩
  clear bel hP C0 C1 o g1
  go_wp2_with fail
  go_ret
  exact hend
end Go.Proofs.Ytajndcggafjmeaa
