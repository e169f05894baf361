/-
  What the program asks of the library: whether a slice of ints is in order. The library's own theorem at this program, in the words of rows of ints.
-/
import Derived.Test.YtdnjpekclmiliaaOrder
import Derived.Test.YtdnjpekclmiliaaSays
import Derived.Test.YtdnjpekclmiliaaShelf
namespace Go.Proofs.Ytdnjpekclmiliaa
open Go.ChangeShapes Go.WideShapes Go.ChangeAt Go.RowKit Go.PlainAid

theorem intRow_flat {w : World} {A : Option Addr} {L : List Int} (r : IntRow w A L) (h0 : 0 < L.length) : ∃ b off, A = some ⟨b, off, none⟩ ∧ ∀ j, j < L.length → w.cell? ⟨b, off + j, none⟩ = some (.int .i64 (L.getD j 0)) := by
  obtain ⟨⟨b, off, spot⟩, rfl, -, hc⟩ := r 0 h0
  have hspot : spot = none := by simpa [Addr.add] using World.cell?_spot hc
  subst hspot
  refine ⟨b, off, rfl, fun j hj => ?_⟩
  obtain ⟨y, hy, -, hcj⟩ := r j hj
  injection hy with hy
  subst hy
  have e : (⟨b, off, none⟩ : Addr).add j = ⟨b, off + j, none⟩ := by unfold Addr.add; split <;> simp_all
  rw [e] at hcj
  exact hcj

theorem sorted_in (L : List Int) (A : Option Addr) (c n : Nat) (w : World) (hn : L.length = n) (h0 : 0 < n) (hl : n ≤ 1000000000) (r : IntRow w A L) :
    ∃ b : Bool, (b = true ↔ InOrder L) ∧ Calls Try.prog 42 #[.slice A n c] w (Quiet b w) := by
  subst hn
  obtain ⟨b, off, rfl, hc⟩ := intRow_flat r h0
  have hd : ∀ i, i < L.length → L.toArray[i]! = L.getD i 0 := fun i hi => by simp [hi]
  refine ⟨_, ?_, (Try.slices_IsSorted_int b off c L.toArray w (fun i hi => ?_) (by simp; omega)).mono fun _ _ h => h⟩
  · rw [Lib.downOK_iff]
    constructor
    · intro h i hi
      have := h i (by simp; omega)
      rw [hd i (by omega), hd (i + 1) hi] at this
      have := of_decide_eq_false this
      omega
    · intro h i hi
      have hi2 : i + 1 < L.length := by simp at hi; omega
      rw [hd i (by omega), hd (i + 1) hi2]
      have := h i hi2
      exact decide_eq_false (by omega)
  · have hi2 : i < L.length := by simpa using hi
    rw [hd i hi2]
    exact hc i hi2
end Go.Proofs.Ytdnjpekclmiliaa
