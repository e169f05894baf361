/-
  Plain facts on hexadecimal text, and the contract of the model's figure: for 0 to 15 it answers the byte of the digit.
-/
import Derived.Test.YtdjlohhpgdegfaaDoorRows
import Derived.Test.YtdjlohhpgdegfaaDoorBase
import Derived.WalkKit
import Derived.ProofKit
import Derived.OpenShut
import Derived.PlainAid
import Derived.Laws.BytesArg
import Derived.StillTailTactics
import Derived.Outline
namespace Go.Proofs.YtdjlohhpgdegfaaDoor
open Go.ChangeShapes Go.WideShapes Go.ChangeAt Go.RowKit Go.PlainAid

/-- The byte of a hexadecimal digit. -/
def hexDig (x : Int) : Int := if x < 10 then 48 + x else 87 + x
/-- The two digits of a byte. -/
def hexTwo (x : Int) : List Int := [hexDig (x / 16), hexDig (x % 16)]
/-- The encoding of the first k bytes. -/
def encTo (s : ByteArray) : Nat → List Int
  | 0 => []
  | k + 1 => encTo s k ++ hexTwo (bt s k)
theorem encTo_len (s : ByteArray) : ∀ k, (encTo s k).length = 2 * k
  | 0 => rfl
  | k + 1 => by
    show (encTo s k ++ hexTwo (bt s k)).length = _
    rw [List.length_append, encTo_len s k]; unfold hexTwo; simp; omega

theorem figure_any (x : Int) (w : World) (h0 : 0 ≤ x) (h1 : x < 16) :
    Calls Tryd.prog 13 #[.int .i64 x] w fun e w' => e = .returned (.int .u8 (hexDig x)) ∧ w' = w := by
  unfold hexDig
  by_cases h : x < 10
  · rw [if_pos h]
    go_enter Tryd.func13, Tryd.ntmps13
    go_wp2
    go_ret
    exact ⟨rfl, rfl⟩
  · rw [if_neg h]
    go_enter Tryd.func13, Tryd.ntmps13
    go_wp2
    go_ret
    exact ⟨ret_int (by omega), rfl⟩
theorem wrap_byte (x : Int) (h0 : 0 ≤ x) (h1 : x ≤ 255) : IntKind.i64.wrap x = x := IntWalk.i64_in _ ⟨by omega, by omega⟩
theorem figure_hi (x : Int) (w : World) (h0 : 0 ≤ x) (h1 : x ≤ 255) :
    Calls Tryd.prog 13 #[.int .i64 (IntKind.i64.wrap ((IntKind.i64.wrap x).tdiv 16))] w fun e w' => e = .returned (.int .u8 (hexDig (x / 16))) ∧ w = w' := by
  have e : IntKind.i64.wrap ((IntKind.i64.wrap x).tdiv 16) = x / 16 := by
    rw [wrap_byte x h0 h1, Int.tdiv_eq_ediv_of_nonneg h0, wrap_byte _ (by omega) (by omega)]
  rw [e]
  exact (figure_any (x / 16) w (by omega) (by omega)).mono fun _ _ ⟨a, b⟩ => ⟨a, b.symm⟩
theorem figure_lo (x : Int) (w : World) (h0 : 0 ≤ x) (h1 : x ≤ 255) :
    Calls Tryd.prog 13 #[.int .i64 ((IntKind.i64.wrap x).tmod 16)] w fun e w' => e = .returned (.int .u8 (hexDig (x % 16))) ∧ w = w' := by
  have e : (IntKind.i64.wrap x).tmod 16 = x % 16 := by
    rw [wrap_byte x h0 h1, Int.tmod_eq_emod_of_nonneg h0]
  rw [e]
  exact (figure_any (x % 16) w (by omega) (by omega)).mono fun _ _ ⟨a, b⟩ => ⟨a, b.symm⟩

/-- 'string(b)' of a row of bytes that the call owns. -/
theorem conv_own {P : Program} (w : World) (src dst e : TypeId) (hs : P.underlying src = some (.slice e)) (he : P.underlying e = some (.int .u8)) (hd : P.underlying dst = some .string)
    (base n : Nat) (v : Value) (xs : List Int) (h : w.ownsRow base e 1 v n (xs.map (Value.int .u8))) : (convert src dst v).run P w = .ok (.string (strOfNums xs)) w := by
  have hc := h
  obtain ⟨hl, h2⟩ := h
  simp only [List.length_map, Nat.mul_one] at hl
  rcases h2 with ⟨rfl, rfl⟩ | ⟨g, cap, cur, rfl, _⟩
  · have : xs = [] := List.eq_nil_of_length_eq_zero hl
    subst this
    exact run_convert_bytes_nil w src e hs he 0 0 dst hd
  · refine run_convert_bytes_arg w src e hs he g 0 n cap xs hl (fun i hi => ?_) dst hd
    have hx : (xs.map (Value.int .u8))[i]? = some (.int .u8 (xs.getD i 0)) := by
      rw [List.getElem?_map, List.getD_eq_getElem?_getD, List.getElem?_eq_getElem (by omega)]; rfl
    have := hc.cells (g := g) rfl i _ hx
    have e : (⟨g, 0, none⟩ : Addr).add i = ⟨g, 0 + i, none⟩ := by unfold Addr.add; split <;> simp_all
    rw [e] at this
    exact this

theorem enc_rel {w wr w1 : World} {u v : Value} {o : Obj} {s : ByteArray} {k : Nat} {T : TypeId} (hown : wr.ownsRow w.heap.size T 1 u (2 * k) ((encTo s k).map (Value.int .u8))) (hbel : Below w.heap.size w wr)
    (hown1 : w1.ownsRow w.heap.size T 1 v (2 * k + 2) ((encTo s k).map (Value.int .u8) ++ [.int .u8 (hexDig (bt s k / 16)), .int .u8 (hexDig (bt s k % 16))])) (hg : (wr.alloc o).drew.grownBy w1 u.ownBlock) :
    w1.ownsRow w.heap.size T 1 v (2 * (k + 1)) ((encTo s (k + 1)).map (Value.int .u8)) ∧ Below w.heap.size w w1 := by
  refine ⟨?_, ((hbel.alloc hbel.size o).drew).grown hg ?_ (fun k e => (hown.lt k e).1)⟩
  · have e : (encTo s (k + 1)).map (Value.int .u8) = (encTo s k).map (Value.int .u8) ++ [.int .u8 (hexDig (bt s k / 16)), .int .u8 (hexDig (bt s k % 16))] := by simp [encTo, hexTwo]
    rw [e]; exact hown1
  · have := hbel.size
    show w.heap.size ≤ (wr.alloc o).heap.size
    simp; omega
end Go.Proofs.YtdjlohhpgdegfaaDoor
