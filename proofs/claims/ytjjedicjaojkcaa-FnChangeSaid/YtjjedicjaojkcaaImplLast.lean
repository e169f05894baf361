/-
  The contract of the program's last doubtful amount. Nothing is written.
-/
import Derived.Test.YtjjedicjaojkcaaImplSys
import Derived.Test.YtjjedicjaojkcaaCoinBest
namespace Go.Proofs.Ytjjedicjaojkcaa
open Go.ChangeShapes Go.WideShapes Go.ChangeAt Go.RowKit Go.PlainAid

/-- The last doubtful amount: of one coin 1, else the sum of the two greatest. -/
def lastD (L : List Int) : Nat := if L.length = 1 then 1 else mostC L
theorem addr_add_add (x : Addr) (i j : Nat) : (x.add i).add j = x.add (i + j) := by
  unfold Addr.add
  rcases i with _ | i
  · simp
  · rcases j with _ | j
    · simp
    · simp [Nat.add_assoc]
theorem implLast_any (A : Option Addr) (c n : Nat) (L : List Int) (w : World) (hP : SysP L) (hn : L.length = n) (hc : n ≤ c) (h : IntRow w A L) :
    Calls Try.prog 35 #[.slice A n c] w (TellsI (lastD L : Nat) w) := by
  obtain ⟨X, hX⟩ : ∃ X, lastD L = X := ⟨_, rfl⟩
  rw [hX]
  replace hX := Lib.hid hX
  have hn6 := hP.1.1
  rw [hn] at hn6
  by_cases h1 : n = 1
  · obtain rfl : X = 1 := hX.out.symm.trans (if_pos (by omega))
    subst h1
    obtain ⟨x, rfl, -, hx⟩ := h 0 (by omega)
    rw [addr_add_nil, hP.1.2] at hx
    clear h hP
    go_enter Try.func35, Try.ntmps35
    go_wp2_with fail
    go_ret
    exact ⟨rfl, rfl⟩
  · obtain ⟨l, hl⟩ : ∃ l, n = l + 2 := ⟨n - 2, by omega⟩
    obtain ⟨x, rfl, hx0, hx1⟩ := h l (by omega)
    obtain ⟨x', hxx, -, hy1⟩ := h (l + 1) (by omega)
    injection hxx with hxx
    subst hxx
    have a := hP.coin (k := l) (by omega)
    have b := hP.coin (k := l + 1) (by omega)
    have hS : sumL [L.getD l 0, L.getD (l + 1) 0] = (X : Int) := by
      have e := hX.out
      unfold lastD mostC at e
      rw [if_neg (by omega), show L.length - 1 = l + 1 by omega, show L.length - 2 = l by omega] at e
      show L.getD l 0 + (L.getD (l + 1) 0 + 0) = _
      omega
    have hr : IntRow w (some (x.add l)) [L.getD l 0, L.getD (l + 1) 0] := fun j hj => by
      refine ⟨_, rfl, by rw [addr_add_block]; exact hx0, ?_⟩
      have : j = 0 ∨ j = 1 := by
        have : j < 2 := hj
        omega
      rcases this with rfl | rfl
      · rw [addr_add_nil]; exact hx1
      · rw [addr_add_add]; exact hy1
    have hT := fun d => implTotal_any (some (x.add l)) d 2 [L.getD l 0, L.getD (l + 1) 0] w rfl (by decide) (fun z hz => by
      simp only [List.mem_cons, List.not_mem_nil, or_false] at hz
      rcases hz with rfl | rfl <;> omega) hr
    rw [hS] at hT
    have hli : (n : Int) - 2 = (l : Int) := by omega
    have hn1 : ((n : Int) == 1) = false := by simp; omega
    have hlc : l < c := by omega
    have hln : l ≤ n := by omega
    have hsub : n - l = 2 := by omega
    clear h hP hX a b hS hr hx1 hy1 hl
    go_enter Try.func35, Try.ntmps35
    go_wp2_with fail
    refine (hT _).mono ?_
    clear hT
    rintro e w1 ⟨rfl, rfl⟩
    go_wp2_with fail
    go_ret
    exact ⟨rfl, rfl⟩
end Go.Proofs.Ytjjedicjaojkcaa
