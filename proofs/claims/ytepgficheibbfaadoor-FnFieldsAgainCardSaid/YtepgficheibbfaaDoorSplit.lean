/-
  Plain facts on the fields of a line, and the contract of the model's splitting: the fields and true, or no field and false if the line is longer than 600 bytes, a byte lies outside 32 to 126, or there are more than 24 fields.
-/
import Derived.Test.YtepgficheibbfaaDoorRows
import Derived.Test.YtepgficheibbfaaDoorBase
import Derived.WalkKit
import Derived.ProofKit
import Derived.OpenShut
import Derived.PlainAid
import Derived.Outline
namespace Go.Proofs.YtepgficheibbfaaDoor
open Go.ChangeShapes Go.WideShapes Go.ChangeAt Go.RowKit Go.PlainAid

/-- Does a field end at place k? -/
def sepB (s : ByteArray) (k : Nat) : Bool := decide (s.size ≤ k) || decide (bt s k = 32)
/-- Where the field that is being read begins. -/
def begTo (s : ByteArray) : Nat → Nat
  | 0 => 0
  | k + 1 => if sepB s k = true then k + 1 else begTo s k
/-- The fields that have ended ahead of place k. -/
def fldTo (s : ByteArray) : Nat → List ByteArray
  | 0 => []
  | k + 1 => if sepB s k = true ∧ begTo s k < k then fldTo s k ++ [s.extract (begTo s k) k] else fldTo s k
def goodB (s : ByteArray) : Nat → Bool
  | 0 => true
  | k + 1 => goodB s k && (decide (s.size ≤ k) || (decide (32 ≤ bt s k) && decide (bt s k ≤ 126)))
def okS (s : ByteArray) : Bool := decide (s.size ≤ 600) && goodB s (s.size + 1) && decide ((fldTo s (s.size + 1)).length ≤ 24)
def xsOf (s : ByteArray) : List ByteArray := if okS s = true then fldTo s (s.size + 1) else []

theorem goodB_at {s : ByteArray} : ∀ {n : Nat}, goodB s n = true → ∀ i, i < n → i < s.size → 32 ≤ bt s i ∧ bt s i ≤ 126
  | 0, _, i, h, _ => absurd h (by omega)
  | n + 1, h, i, hi, hs => by
    unfold goodB at h
    rw [Bool.and_eq_true] at h
    by_cases e : i = n
    · subst e
      have h2 := h.2
      rw [Bool.or_eq_true, Bool.and_eq_true, decide_eq_true_eq, decide_eq_true_eq, decide_eq_true_eq] at h2
      rcases h2 with h2 | h2
      · omega
      · exact h2
    · exact goodB_at h.1 i (by omega) hs

/-- What holds at place k: the field being read begins at b; L are the fields so far; all bytes so far are good. -/
def St (s : ByteArray) (k b : Nat) (L : List ByteArray) : Prop := b = begTo s k ∧ L = fldTo s k ∧ goodB s k = true
theorem St.start (s : ByteArray) : St s 0 0 [] := ⟨rfl, rfl, rfl⟩
theorem good_step {s : ByteArray} {k : Nat} (h : goodB s k = true) (hk : k < s.size → 32 ≤ bt s k ∧ bt s k ≤ 126) : goodB s (k + 1) = true := by
  unfold goodB
  rw [Bool.and_eq_true, Bool.or_eq_true, Bool.and_eq_true, decide_eq_true_eq, decide_eq_true_eq, decide_eq_true_eq]
  refine ⟨h, ?_⟩
  by_cases e : k < s.size
  · exact .inr (hk e)
  · exact .inl (by omega)
theorem St.skip {s : ByteArray} {k b : Nat} {L : List ByteArray} (h : St s k b L) (hk : k < s.size) (h0 : 32 ≤ bt s k) (h1 : bt s k ≤ 126) (hn : bt s k ≠ 32) : St s (k + 1) b L := by
  obtain ⟨rfl, rfl, hg⟩ := h
  have e : sepB s k = false := by unfold sepB; rw [Bool.or_eq_false_iff, decide_eq_false_iff_not, decide_eq_false_iff_not]; exact ⟨by omega, hn⟩
  refine ⟨?_, ?_, good_step hg fun _ => ⟨h0, h1⟩⟩
  · show _ = if sepB s k = true then k + 1 else begTo s k
    rw [e, if_neg (by decide)]
  · show _ = if sepB s k = true ∧ begTo s k < k then _ else fldTo s k
    rw [e, if_neg (fun h => absurd h.1 (by decide))]
theorem sep_of {s : ByteArray} {k : Nat} (h : s.size ≤ k ∨ bt s k = 32) : sepB s k = true := by unfold sepB; rw [Bool.or_eq_true, decide_eq_true_eq, decide_eq_true_eq]; exact h
theorem St.sep_no {s : ByteArray} {k b : Nat} {L : List ByteArray} (h : St s k b L) (hs : s.size ≤ k ∨ bt s k = 32) (hb : ¬ b < k) : St s (k + 1) (k + 1) L := by
  obtain ⟨rfl, rfl, hg⟩ := h
  have e := sep_of hs
  refine ⟨?_, ?_, good_step hg fun hk => by rcases hs with hs | hs <;> omega⟩
  · show _ = if sepB s k = true then k + 1 else begTo s k
    rw [if_pos e]
  · show _ = if sepB s k = true ∧ begTo s k < k then _ else fldTo s k
    rw [if_neg (fun h => hb h.2)]
theorem St.sep_yes {s : ByteArray} {k b : Nat} {L : List ByteArray} (h : St s k b L) (hs : s.size ≤ k ∨ bt s k = 32) (hb : b < k) : St s (k + 1) (k + 1) (L ++ [s.extract b k]) := by
  obtain ⟨rfl, rfl, hg⟩ := h
  have e := sep_of hs
  refine ⟨?_, ?_, good_step hg fun hk => by rcases hs with hs | hs <;> omega⟩
  · show _ = if sepB s k = true then k + 1 else begTo s k
    rw [if_pos e]
  · show _ = if sepB s k = true ∧ begTo s k < k then _ else fldTo s k
    rw [if_pos ⟨e, hb⟩]
theorem okS_bad {s : ByteArray} {k : Nat} (hk : k < s.size) (h : bt s k < 32 ∨ 126 < bt s k) : okS s = false := by
  have e : goodB s (s.size + 1) = false := by
    rw [Bool.eq_false_iff]
    intro hg
    have := goodB_at hg k (by omega) hk
    omega
  unfold okS
  rw [e, Bool.and_false, Bool.false_and]
theorem okS_long {s : ByteArray} (h : 600 < s.size) : okS s = false := by
  unfold okS
  rw [decide_eq_false (by omega), Bool.false_and, Bool.false_and]
theorem St.many {s : ByteArray} {b : Nat} {L : List ByteArray} (h : St s (s.size + 1) b L) (hl : 24 < L.length) : okS s = false := by
  obtain ⟨_, rfl, _⟩ := h
  unfold okS
  rw [decide_eq_false (p := (fldTo s (s.size + 1)).length ≤ 24) (by omega), Bool.and_false]
theorem St.few {s : ByteArray} {b : Nat} {L : List ByteArray} (h : St s (s.size + 1) b L) (hs : s.size ≤ 600) (hl : L.length ≤ 24) : okS s = true ∧ xsOf s = L := by
  obtain ⟨_, rfl, hg⟩ := h
  have e : okS s = true := by
    unfold okS
    rw [hg, decide_eq_true hs, decide_eq_true hl]; rfl
  exact ⟨e, by unfold xsOf; rw [if_pos e]⟩
theorem xsOf_bad {s : ByteArray} (h : okS s = false) : xsOf s = [] := by unfold xsOf; rw [h, if_neg (by decide)]
theorem xsOf_le (s : ByteArray) : (xsOf s).length ≤ 24 := by
  unfold xsOf
  split
  · rename_i h
    unfold okS at h
    rw [Bool.and_eq_true, decide_eq_true_eq] at h
    exact h.2
  · exact Nat.zero_le _

/-- What splitting does: the fields and whether the line is good; what was there stands. -/
def Split (B : Nat) (s : ByteArray) (w : World) (e : Ending) (w' : World) : Prop :=
  ∃ v, e = .returned (.tuple #[v, .bool (okS s)]) ∧ w'.ownsRow B 9 1 v (xsOf s).length ((xsOf s).map Value.string) ∧ Below B w w'
theorem split_bad {B : Nat} {s : ByteArray} {w w' : World} {v : Value} (h : okS s = false) (hv : w'.ownsRow B 9 1 v 0 []) (hb : Below B w w') : Split B s w (.returned (.tuple #[v, .bool false])) w' :=
  ⟨v, by rw [h], by rw [xsOf_bad h]; exact hv, hb⟩
theorem split_good {B b : Nat} {s : ByteArray} {L : List ByteArray} {w w' : World} {v : Value} (hst : St s (s.size + 1) b L) (hs : s.size ≤ 600) (hl : L.length ≤ 24) (hv : w'.ownsRow B 9 1 v L.length (L.map Value.string)) (hb : Below B w w') : Split B s w (.returned (.tuple #[v, .bool true])) w' := by
  obtain ⟨e1, e2⟩ := hst.few hs hl
  exact ⟨v, by rw [e1], by rw [e2]; exact hv, hb⟩
theorem own_new {B : Nat} (w : World) (hB : B ≤ w.heap.size) : (w.alloc (.cells #[] 9)).ownsRow B 9 1 (.slice (some ⟨w.heap.size, 0, none⟩) 0 0) 0 [] :=
  World.ownsRow_made w #[] 0 hB (by decide) rfl

theorem own_form {w : World} {base : Nat} {e : TypeId} {size n : Nat} {v : Value} {xs : List Value} (h : w.ownsRow base e size v n xs) : ∃ a c, v = .slice a n c := by
  rcases h.2 with ⟨rfl, rfl⟩ | ⟨g, cap, cur, rfl, _⟩
  · exact ⟨_, _, rfl⟩
  · exact ⟨_, _, rfl⟩

theorem fld_rel {B : Nat} {w wr w1 : World} {u v : Value} {o : Obj} {L : List ByteArray} {x : ByteArray} (hB : B ≤ w.heap.size) (hown : wr.ownsRow B 9 1 u L.length (L.map Value.string)) (hbel : Below B w wr)
    (hown1 : w1.ownsRow B 9 1 v (L.length + 1) (L.map Value.string ++ [.string x])) (hg : (wr.alloc o).grownBy w1 u.ownBlock) :
    w1.ownsRow B 9 1 v (L ++ [x]).length ((L ++ [x]).map Value.string) ∧ Below B w w1 := by
  have hs := hbel.size
  refine ⟨?_, (hbel.alloc (by omega) o).grown hg (by simp; omega) (fun k e => (hown.lt k e).1)⟩
  have e1 : (L ++ [x]).map Value.string = L.map Value.string ++ [.string x] := by rw [List.map_append]; rfl
  rw [e1, List.length_append]
  exact hown1

theorem Tryd.infoStr : (Tryd.prog.info? 9).map (fun i => (i.zero, i.size, i.bytes)) = some (some (.string { data := #[] }), 1, 16) := by kernel_rfl

theorem specSplit_long (s : ByteArray) (w : World) (hs : 600 < s.size) (hm : s.size ≤ 9223372036854775807) :
    Calls Tryd.prog 17 #[.string s] w (Split w.heap.size s w) := by
  have hbad := split_bad (w := w) (okS_long hs) (own_new w (Nat.le_refl _)) ((Below.refl _ _).alloc (Nat.le_refl _) _)
  have hi : (600 : Int) < s.size := by omega
  go_enter Tryd.func17, Tryd.ntmps17
  go_wp2
  go_ret2
  exact hbad

set_option maxHeartbeats 1000000 in
theorem specSplit_short (s : ByteArray) (w : World) (hs : s.size ≤ 600) :
    Calls Tryd.prog 17 #[.string s] w (Split w.heap.size s w) := by
  obtain ⟨i0, hi, hz0, hz1, hz2⟩ := info_parts Tryd.infoStr
  have hb := get_bt s
  go_enter Tryd.func17, Tryd.ntmps17
  go_wp2
  go_loopw [4, 5, 6] (fun v bg i wr => ∃ (k b : Nat) (L : List ByteArray), k ≤ s.size + 1 ∧ i = .int .i64 k ∧ bg = .int .i64 b ∧ b ≤ k ∧ L.length ≤ k ∧ St s k b L ∧ wr.ownsRow w.heap.size 9 1 v L.length (L.map Value.string) ∧ Below w.heap.size w wr) (fun _ _ i _ => s.size + 1 - (intOf i).toNat)
  case atStart => exact ⟨0, 0, [], by omega, rfl, rfl, by omega, by simp, St.start s, own_new w (Nat.le_refl _), (Below.refl _ _).alloc (Nat.le_refl _) _⟩
  case round =>
    obtain ⟨k, b, L, hk, rfl, rfl, hbk, hL, hst, hown, hbel⟩ := hrel
    have hsz := hbel.size
    by_cases hle : k ≤ s.size
    · by_cases hlt : k < s.size
      · have c0 := bt_nonneg s k
        have c1 := bt_le s k
        by_cases g1 : bt s k < 32
        · have hbad := split_bad (w := w) (okS_bad hlt (.inl g1)) (own_new wr hsz) (hbel.alloc hsz _)
          go_wp2
          go_ret2
          exact hbad
        · by_cases g2 : 126 < bt s k
          · have hbad := split_bad (w := w) (okS_bad hlt (.inr g2)) (own_new wr hsz) (hbel.alloc hsz _)
            go_wp2
            go_ret2
            exact hbad
          · by_cases g3 : bt s k = 32
            · by_cases g4 : b < k
              · have h1 := hst.sep_yes (.inr g3) g4
                go_wp2_with (at_builtin; refine wpList_append_own _ rfl (.tmp 48) (.tmp 53) 31 rfl w.heap.size 9 i0 (.string { data := #[] }) 1 16 Tryd.underlying31 hi hz0 hz1 hz2 rfl (by decide) u4 L.length _ rfl (hown.alloc _) ⟨wr.heap.size, 0, none⟩ 1 1 [_] rfl rfl (news_new _ [_] _) (by simp [Value.oneCell']) (by unfold maxLen; omega) (by omega) (by simp; omega) ?_; intro v' w1 hown1 hgrow1 _)
                have R := fld_rel (w := w) (Nat.le_refl _) hown hbel hown1 hgrow1
                clear hown1 hgrow1 hown hbel
                obtain ⟨R1, R2⟩ := R
                go_wp2
                go_roundw
                case rel => exact ⟨k + 1, k + 1, _, by omega, by go_num, by go_num, by omega, by simp; omega, h1, R1, R2⟩
                case measure => simp [intOf]; omega
              · have h1 := hst.sep_no (.inr g3) g4
                go_wp2
                go_roundw
                case rel => exact ⟨k + 1, k + 1, L, by omega, by go_num, by go_num, by omega, by omega, h1, hown, hbel⟩
                case measure => simp [intOf]; omega
            · have h1 := hst.skip hlt (by omega) (by omega) g3
              go_wp2
              go_roundw
              case rel => exact ⟨k + 1, b, L, by omega, by go_num, rfl, by omega, by omega, h1, hown, hbel⟩
              case measure => simp [intOf]; omega
      · by_cases g4 : b < k
        · have h1 := hst.sep_yes (.inl (by omega)) g4
          go_wp2_with (at_builtin; refine wpList_append_own _ rfl (.tmp 48) (.tmp 53) 31 rfl w.heap.size 9 i0 (.string { data := #[] }) 1 16 Tryd.underlying31 hi hz0 hz1 hz2 rfl (by decide) u4 L.length _ rfl (hown.alloc _) ⟨wr.heap.size, 0, none⟩ 1 1 [_] rfl rfl (news_new _ [_] _) (by simp [Value.oneCell']) (by unfold maxLen; omega) (by omega) (by simp; omega) ?_; intro v' w1 hown1 hgrow1 _)
          have R := fld_rel (w := w) (Nat.le_refl _) hown hbel hown1 hgrow1
          clear hown1 hgrow1 hown hbel
          obtain ⟨R1, R2⟩ := R
          go_wp2
          go_roundw
          case rel => exact ⟨k + 1, k + 1, _, by omega, by go_num, by go_num, by omega, by simp; omega, h1, R1, R2⟩
          case measure => simp [intOf]; omega
        · have h1 := hst.sep_no (.inl (by omega)) g4
          go_wp2
          go_roundw
          case rel => exact ⟨k + 1, k + 1, L, by omega, by go_num, by go_num, by omega, by omega, h1, hown, hbel⟩
          case measure => simp [intOf]; omega
    · obtain rfl : k = s.size + 1 := by omega
      by_cases hl : L.length ≤ 24
      · have hgood := split_good (w := w) hst hs hl hown hbel
        obtain ⟨a, c, rfl⟩ := own_form hown
        go_wp2
        go_ret2
        exact hgood
      · have hbad := split_bad (w := w) (hst.many (by omega)) (own_new wr hsz) (hbel.alloc hsz _)
        obtain ⟨a, c, rfl⟩ := own_form hown
        go_wp2
        go_ret2
        exact hbad
end Go.Proofs.YtepgficheibbfaaDoor
