/-
  Small facts without any program: what is left of a number masked by 255 or by 1073741823; a walk's world that has grown beside one block. No condition but those written.
-/
import Derived.Below
import Derived.Laws.OwnMore
import Derived.Deep.Draws
import Derived.WalkKit
import Derived.OpenShut
namespace Go.Proofs.Ytgjcbcbnjgghaaa
open Go.RowKit

theorem mask255 (x : Int) : 0 ≤ bits .and .i64 x 255 ∧ bits .and .i64 x 255 ≤ 255 := by
  have h : (BitVec.ofInt 64 x &&& BitVec.ofInt 64 255).toNat ≤ 255 := by
    rw [BitVec.toNat_and]; exact Nat.le_trans Nat.and_le_right (by decide)
  have e : bits .and .i64 x 255 = IntKind.i64.wrap ((BitVec.ofInt 64 x &&& BitVec.ofInt 64 255).toNat : Int) := rfl
  rw [e, IntWalk.i64_in _ ⟨by omega, by omega⟩]
  omega

theorem mask30 (x : Int) : 0 ≤ bits .and .i64 x 1073741823 ∧ bits .and .i64 x 1073741823 ≤ 1073741823 := by
  have h : (BitVec.ofInt 64 x &&& BitVec.ofInt 64 1073741823).toNat ≤ 1073741823 := by
    rw [BitVec.toNat_and]; exact Nat.le_trans Nat.and_le_right (by decide)
  have e : bits .and .i64 x 1073741823 = IntKind.i64.wrap ((BitVec.ofInt 64 x &&& BitVec.ofInt 64 1073741823).toNat : Int) := rfl
  rw [e, IntWalk.i64_in _ ⟨by omega, by omega⟩]
  omega

theorem ret_int {k : IntKind} {a b : Int} (h : a = b) : Ending.returned (.int k a) = .returned (.int k b) := by rw [h]

/-- The bytes that came in: nil, or a row of bytes below block number p. -/
def Bytes (w : World) (p : Nat) (a : Option Addr) (len : Nat) : Prop :=
  ∀ j, j < len → ∃ x z, a = some x ∧ x.block < p ∧ w.cell? (x.add j) = some (.int .u8 z) ∧ 0 ≤ z ∧ z ≤ 255

theorem addr_add_block (x : Addr) (j : Nat) : (x.add j).block = x.block := by unfold Addr.add; split <;> rfl

theorem Bytes.keep {w w' : World} {p : Nat} {a : Option Addr} {len : Nat} (h : Bytes w p a len) (hk : ∀ k, k < p → w'.heap[k]? = w.heap[k]?) : Bytes w' p a len := fun j hj => by
  obtain ⟨x, z, ha, hp, hc, h0, h1⟩ := h j hj
  exact ⟨x, z, ha, hp, (World.cell?_of_block (by rw [addr_add_block]; exact hk _ hp)).trans hc, h0, h1⟩

theorem Bytes.more {w : World} {p q : Nat} {a : Option Addr} {len : Nat} (h : Bytes w p a len) (hq : p ≤ q) : Bytes w q a len := fun j hj => by
  obtain ⟨x, z, ha, hp, r⟩ := h j hj
  exact ⟨x, z, ha, by omega, r⟩

theorem lt_of_cell {w : World} {a : Addr} {v : Value} (h : w.cell? a = some v) : a.block < w.heap.size := by
  rcases Nat.lt_or_ge a.block w.heap.size with hlt | hge
  · exact hlt
  · have hn : w.heap[a.block]? = none := Array.getElem?_eq_none hge
    simp [World.cell?, hn] at h

/-- Out of what the frame of a law's proof says of a slice of bytes that came in. -/
theorem bytes_of_row {w : World} {a : Option Addr} {len cap : Nat} {zs : List Int}
    (h : (a = none ∧ len = 0 ∧ cap = 0 ∧ zs = []) ∨ ∃ x, a = some x ∧ len ≤ cap ∧ cap ≤ maxLen ∧ zs.length = cap ∧ (∀ i, i < zs.length → w.cell? (x.add i) = some (.int .u8 (zs.getD i 0))) ∧ ∀ n ∈ zs, (Lit.int .u8 n).wf = true) :
    Bytes w w.heap.size a len ∧ len ≤ 9223372036854775807 := by
  rcases h with ⟨rfl, rfl, rfl, rfl⟩ | ⟨x, rfl, hl, hm, hz, hc, hw⟩
  · exact ⟨fun j hj => by omega, by omega⟩
  · unfold maxLen at hm
    refine ⟨fun j hj => ?_, by omega⟩
    have h1 := hc j (by omega)
    have hlt := lt_of_cell h1
    rw [addr_add_block] at hlt
    have hin : zs.getD j 0 ∈ zs := by
      rw [List.getD_eq_getElem?_getD, List.getElem?_eq_getElem (by omega)]
      simp
    have b := bounds_u8 (hw _ hin)
    exact ⟨x, zs.getD j 0, rfl, hlt, h1, b.1, b.2⟩

theorem grown_setCell {a w : World} {g : Nat} (h : a.grownBy w (some g)) (i : Nat) (u : Value) : a.grownBy (w.setCell ⟨g, i, none⟩ u) (some g) :=
  ⟨h.os, h.tape, h.output, by simpa [World.setCell] using h.size, fun k hk hne => (Below.heap_setCell w _ u k (fun e => hne (by rw [e]))).trans (h.block k hk hne)⟩
theorem grown_drewN {a w : World} {row : Option Nat} (h : a.grownBy w row) (n : Nat) : a.grownBy (w.drewN n) row := ⟨h.os, h.tape, h.output, h.size, h.block⟩
theorem grown_trans {a b c : World} {row : Option Nat} (h : a.grownBy b row) (k : b.grownBy c row) : a.grownBy c row :=
  ⟨k.os.trans h.os, k.tape.trans h.tape, k.output.trans h.output, Nat.le_trans h.size k.size, fun i hi hne => (k.block i (Nat.lt_of_lt_of_le hi h.size) hne).trans (h.block i hi hne)⟩
theorem below_of_grown {a w : World} {g : Nat} {B : Nat} (h : a.grownBy w (some g)) (hB : B ≤ g) (hs : B ≤ a.heap.size) : Below B a w :=
  ⟨h.os, h.tape, h.output, h.size, fun k hk => h.block k (by omega) (fun e => by injection e; omega)⟩
theorem below_drewN {B : Nat} {a w : World} (h : Below B a w) (n : Nat) : Below B a (w.drewN n) := ⟨h.os, h.tape, h.output, h.size, h.block⟩

/-- The cells of a block that was just made. -/
theorem news_new (W : World) (xs : List Value) (t : TypeId) : ∀ j u, xs[j]? = some u → (W.alloc (.cells xs.toArray t)).cell? ((⟨W.heap.size, 0, none⟩ : Addr).add j) = some u := fun j u h => by
  have e : (⟨W.heap.size, 0, none⟩ : Addr).add j = ⟨W.heap.size, j, none⟩ := by unfold Addr.add; split <;> simp_all
  rw [e, cell_of_row (W.alloc (.cells xs.toArray t)) W.heap.size j _ _ _ (heap_alloc_new W _)]
  simpa using h

end Go.Proofs.Ytgjcbcbnjgghaaa
