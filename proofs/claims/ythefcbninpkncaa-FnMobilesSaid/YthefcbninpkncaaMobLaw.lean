/-
  Mobiles with other weights: they are valid, hang alike, and the least ones are level and have no common divisor. The numbers of weights and beams. No walk.
-/
import Derived.Test.YthefcbninpkncaaMobVals
namespace Go.Proofs.Ythefcbninpkncaa

section
variable {L : List PartT} {u : Nat → Int}
theorem put_lc {k : Nat} (hk : k < L.length) : lc (put L u) k = lc L k ∧ rc (put L u) k = rc L k := by
  have p := put_left (u := u) hk
  unfold lc rc
  rw [p.1, p.2.1]
  exact ⟨rfl, rfl⟩
theorem put_Bm {k : Nat} : Bm (put L u) k ↔ Bm L k := by
  by_cases hk : k < L.length
  · unfold Bm
    rw [(put_lc hk).1, (put_lc hk).2, (put_left hk).1, put_length]
  · refine ⟨fun h => ?_, fun h => ?_⟩
    · have := h.2
      rw [put_length] at this
      omega
    · have := h.2
      omega
theorem put_cnt (j : Nat) : ∀ k, k ≤ L.length → cnt (put L u) j k = cnt L j k
  | 0, _ => rfl
  | k + 1, h => by
    have p := put_left (u := u) (show k < L.length by omega)
    show cnt (put L u) j k + _ + _ = cnt L j k + _ + _
    rw [put_cnt j k (by omega), p.1, p.2.1]
theorem put_mok (hL : MOk L) (hu : ∀ x, x < L.length → ¬ Bm L x → 1 ≤ u x ∧ u x ≤ 1000) : MOk (put L u) where
  one := by rw [put_length]; exact hL.one
  len := by rw [put_length]; exact hL.len
  part := fun k hk => by
    rw [put_length] at hk ⊢
    have p := hL.part k hk
    by_cases b : Bm L k
    · rw [put_bm hk b]; exact p
    · have g : (ptget L k).left = -1 := Decidable.byContradiction fun g => b (hL.bm hk g).1
      have w := hL.wt hk g
      rw [put_wt hk b]
      unfold PtOk
      rw [if_pos g]
      exact ⟨w.1, w.2.1, w.2.2.1, (hu k hk b).1, (hu k hk b).2⟩
  once := fun j hj h1 => by
    rw [put_length] at hj ⊢
    rw [put_cnt j _ (Nat.le_refl _)]
    exact hL.once j hj h1
theorem put_lv : ∀ k, lv (put L u) k = lv L k := by
  refine mob_ind (L := L) (p := fun k => lv (put L u) k = lv L k) (fun k h => ?_) (fun k h i1 i2 => ?_)
  · rw [lv_wt h, lv_wt fun g => h (put_Bm.1 g)]
  · have hk : k < L.length := by have := h.2; omega
    rw [lv_bm h, lv_bm (put_Bm.2 h), (put_lc hk).1, (put_lc hk).2, i1, i2]
theorem put_wu_get {x : Nat} (hx : x < L.length) (b : ¬ Bm L x) : wu (put L u) x = u x := by
  unfold wu
  rw [put_wt hx b]
theorem put_sm {k : Nat} (hk : k < L.length) : sm (put L u) (wu (put L u)) k = sm L u k := by
  unfold sm
  rw [put_lv, List.map_congr_left fun x hx => put_wu_get (lv_lt hk hx) (lv_wt_of _ _ hx)]
theorem put_tilt {k : Nat} : Tilt (put L u) k ↔ Bm L k ∧ ¬ Lvl L u k := by
  unfold Tilt
  rw [put_Bm]
  refine and_congr_right fun b => not_congr ?_
  have bb := b.2
  have hk : k < L.length := by omega
  have p := put_left (u := u) hk
  unfold Lvl
  rw [(put_lc hk).1, (put_lc hk).2, p.2.2.1, p.2.2.2, put_sm (by omega), put_sm (by omega)]
end
theorem ftF_neg {L : List PartT} : ∀ f k, ftF L f k < 0 → ∀ j, k ≤ j → j < k + f → ¬ Tilt L j
  | 0, _, _ => fun j h1 h2 => by omega
  | f + 1, k, h => fun j h1 h2 t => by
    have e : ftF L (f + 1) k = if Tilt L k then (k : Int) else ftF L f (k + 1) := rfl
    rw [e] at h
    by_cases g : Tilt L k
    · rw [if_pos g] at h; omega
    · rw [if_neg g] at h
      rcases Nat.lt_or_ge k j with q | q
      · exact ftF_neg f (k + 1) h j (by omega) (by omega) t
      · obtain rfl : j = k := by omega
        exact g t
theorem ft_neg {L : List PartT} (hL : MOk L) : ft L < 0 ↔ ∀ j, j < L.length → ¬ Tilt L j := by
  refine ⟨fun h j hj => ?_, fun h => by rw [ft_none hL h]; decide⟩
  unfold ft at h
  rw [if_pos hL] at h
  exact ftF_neg _ _ h j (by omega) (by omega)
section
variable {L : List PartT} (hL : MOk L)
include hL
theorem lw_range (h : lwOk L) : ∀ x, x < L.length → ¬ Bm L x → 1 ≤ so L 0 x ∧ so L 0 x ≤ 1000 := fun x hx b =>
  ⟨so_pos hL 0 hL.one x (hL.lv_all hx b), h x (hL.lv_all hx b)⟩
theorem lw_mok (h : lwOk L) : MOk (put L (so L 0)) := put_mok hL (lw_range hL h)
theorem lw_ft (h : lwOk L) : ft (put L (so L 0)) = -1 :=
  ft_none (lw_mok hL h) fun j hj t => by
    rw [put_length] at hj
    have q := put_tilt.1 t
    exact q.2 (so_bal hL 0 hL.one j (hL.all j hj) q.1)
theorem lw_wof (h : lwOk L) : wof (put L (so L 0)) 0 = sm L (so L 0) 0 := by
  have one := hL.one
  have e : ((0 : Nat) : Int) = 0 := rfl
  rw [← e, wof_yes (lw_mok hL h) (by rw [put_length]; omega), put_sm (by omega)]
/-- A level mobile is a multiple of the least one. -/
theorem lw_multiple (g : ft L < 0) : wof L 0 % sm L (so L 0) 0 = 0 := by
  have one := hL.one
  have e : ((0 : Nat) : Int) = 0 := rfl
  have bal : BalT L (wu L) 0 := fun m _ b => Decidable.byContradiction fun q => (ft_neg hL).1 g m (by have := b.2; omega) ⟨b, q⟩
  obtain ⟨c, -, hc⟩ := so_mult hL 0 hL.one (wu L) (fun x hx => (wu_le hL (lv_lt (by omega) hx) (lv_wt_of _ _ hx)).1) bal
  rw [← e, wof_yes hL (by omega), sm_congr hc, sm_mul]
  exact Int.mul_emod_right _ _
end
/-- The greatest common divisor of the first k weights. -/
def gw (L : List PartT) : Nat → Nat
  | 0 => 0
  | k + 1 => Nat.gcd (gw L k) (ptget L k).weight.toNat
theorem gw_dvd (L : List PartT) : ∀ n k, k < n → gw L n ∣ (ptget L k).weight.toNat
  | 0, k, h => by omega
  | n + 1, k, h => by
    show Nat.gcd (gw L n) (ptget L n).weight.toNat ∣ _
    rcases Nat.lt_or_ge k n with q | q
    · exact Nat.dvd_trans (Nat.gcd_dvd_left _ _) (gw_dvd L n k q)
    · obtain rfl : k = n := by omega
      exact Nat.gcd_dvd_right _ _
theorem lw_gw {L : List PartT} (hL : MOk L) (h : lwOk L) : gw (put L (so L 0)) L.length = 1 := by
  have key : ((gw (put L (so L 0)) L.length : Nat) : Int) ∣ 1 := so_coprime hL 0 hL.one _ 1 fun x hx => by
    have xl := lv_lt hL.one hx
    have xb := lv_wt_of _ _ hx
    have d := gw_dvd (put L (so L 0)) L.length x xl
    rw [show (ptget (put L (so L 0)) x).weight = so L 0 x by rw [put_wt xl xb]] at d
    have p := (lw_range hL h x xl xb).1
    rw [Int.mul_one]
    have d2 := Int.natCast_dvd_natCast.2 d
    rwa [Int.toNat_of_nonneg (by omega)] at d2
  have := Int.natCast_dvd_natCast.1 (show ((gw (put L (so L 0)) L.length : Nat) : Int) ∣ ((1 : Nat) : Int) from key)
  exact Nat.dvd_one.1 this

/-! ### The numbers of weights and beams -/
theorem nodup_le {l m : List Nat} (hl : l.Nodup) (h : ∀ x ∈ l, x ∈ m) : l.length ≤ m.length := by
  induction l generalizing m with
  | nil => exact Nat.zero_le _
  | cons a l ih =>
    obtain ⟨h1, h2⟩ := List.nodup_cons.1 hl
    have am := h a List.mem_cons_self
    have := ih (m := m.erase a) h2 fun x hx => (List.mem_erase_of_ne fun e : x = a => h1 (by rw [← e]; exact hx)).2 (h x (List.mem_cons_of_mem _ hx))
    rw [List.length_erase_of_mem am] at this
    have := List.length_pos_of_mem am
    rw [List.length_cons]
    omega
theorem cw_filter (L : List PartT) : ∀ n, ((List.range n).filter fun k => decide ((ptget L k).left = -1)).length = cw L n
  | 0 => rfl
  | n + 1 => by
    rw [List.range_succ, List.filter_append, List.length_append, cw_filter L n]
    show _ = if (ptget L n).left = -1 then cw L n + 1 else cw L n
    by_cases e : (ptget L n).left = -1
    · rw [if_pos e]; simp [e]
    · rw [if_neg e]; simp [e]
theorem cw_le {L : List PartT} (hL : MOk L) : cw L L.length ≤ (lv L 0).length := by
  rw [← cw_filter]
  refine nodup_le (List.nodup_range.filter _) fun x hx => ?_
  rw [List.mem_filter, List.mem_range] at hx
  exact hL.lv_all hx.1 (not_bm (of_decide_eq_true hx.2))
theorem len_sum (w : Nat → Int) : ∀ S : List Nat, (∀ x ∈ S, 1 ≤ w x) → (S.length : Int) ≤ (S.map w).sum
  | [], _ => by simp
  | x :: S, h => by
    have a := len_sum w S fun y hy => h y (List.mem_cons_of_mem _ hy)
    have b := h x List.mem_cons_self
    rw [List.map_cons, List.sum_cons, List.length_cons]
    omega
theorem lw_total {L : List PartT} (hL : MOk L) : (cw L L.length : Int) ≤ sm L (so L 0) 0 := by
  have a := cw_le hL
  have b := len_sum (so L 0) (lv L 0) (so_pos hL 0 hL.one)
  unfold sm
  omega
/-- A sum over the first n numbers. -/
def sn (f : Nat → Nat) : Nat → Nat
  | 0 => 0
  | n + 1 => sn f n + f n
theorem sn_add (f g : Nat → Nat) : ∀ n, sn (fun j => f j + g j) n = sn f n + sn g n
  | 0 => rfl
  | n + 1 => by
    show sn (fun j => f j + g j) n + (f n + g n) = sn f n + f n + (sn g n + g n)
    rw [sn_add f g n]; omega
theorem sn_hit (v : Int) : ∀ n : Nat, sn (fun j => if v = (j : Int) then 1 else 0) n = if 0 ≤ v ∧ v < n then 1 else 0
  | 0 => by
    show 0 = _
    rw [if_neg (by omega)]
  | n + 1 => by
    show sn (fun j => if v = (j : Int) then 1 else 0) n + (if v = (n : Int) then 1 else 0) = _
    rw [sn_hit v n]
    split <;> split <;> split <;> omega
theorem sn_congr {f g : Nat → Nat} : ∀ n, (∀ j, j < n → f j = g j) → sn f n = sn g n
  | 0, _ => rfl
  | n + 1, h => by
    show sn f n + f n = sn g n + g n
    rw [sn_congr n fun j hj => h j (by omega), h n (by omega)]
theorem sn_cnt {L : List PartT} (hL : MOk L) : ∀ k, k ≤ L.length → sn (fun j => cnt L j k) L.length = 2 * cb L k
  | 0, _ => by
    have : ∀ n, sn (fun _ => 0) n = 0 := fun n => by
      induction n with
      | zero => rfl
      | succ n ih => show sn (fun _ => 0) n + 0 = 0; rw [ih]
    exact this _
  | k + 1, h => by
    show sn (fun j => cnt L j k + (if (ptget L k).left = (j : Int) then 1 else 0) + (if (ptget L k).right = (j : Int) then 1 else 0)) L.length = 2 * (if (ptget L k).left = -1 then cb L k else cb L k + 1)
    rw [sn_add, sn_add, sn_cnt hL k (by omega), sn_hit, sn_hit]
    by_cases e : (ptget L k).left = -1
    · have w := (hL.wt (by omega) e).1
      rw [if_pos e, e, w, if_neg (by omega)]
      rfl
    · have q := hL.bm (by omega) e
      have b := q.1.2
      rw [if_neg e, q.2.1, q.2.2.1, if_pos (by omega), if_pos (by omega)]
      omega
theorem cw_beams {L : List PartT} (hL : MOk L) : cw L L.length = cb L L.length + 1 := by
  have a := sn_cnt hL L.length (Nat.le_refl _)
  have b := cw_cb L L.length
  have one := hL.one
  have c0 : cnt L 0 L.length = 0 := by
    rcases Nat.eq_zero_or_pos (cnt L 0 L.length) with h | h
    · exact h
    · obtain ⟨m, hm, q⟩ := cnt_pos _ h
      by_cases e : (ptget L m).left = -1
      · have w := (hL.wt hm e).1
        rw [e, w] at q
        omega
      · have p := hL.bm hm e
        have bb := p.1.2
        rw [p.2.1, p.2.2.1] at q
        omega
  have d : ∀ n, n ≤ L.length → 1 ≤ n → sn (fun j => cnt L j L.length) n = n - 1 := fun n => by
    induction n with
    | zero => intro _ h; omega
    | succ n ih =>
      intro h1 h2
      show sn (fun j => cnt L j L.length) n + cnt L n L.length = n + 1 - 1
      rcases Nat.eq_zero_or_pos n with rfl | hp
      · rw [c0]; rfl
      · rw [ih (by omega) hp, hL.once n (by omega) hp]; omega
  have := d L.length (Nat.le_refl _) one
  omega

/-! ### A mobile grows -/
theorem mok_one {x : PartT} (h : WtOk x) (e : x.left = -1) : MOk [x] where
  one := Nat.le_refl _
  len := by rw [List.length_singleton]; decide
  part := fun k hk => by
    obtain rfl : k = 0 := by rw [List.length_singleton] at hk; omega
    show PtOk 1 0 x
    unfold PtOk
    rw [if_pos e]; exact h
  once := fun j hj h1 => by rw [List.length_singleton] at hj; omega
/-- A weight becomes a beam with two new weights. -/
def grow (L : List PartT) (k : Nat) (x y z : PartT) : List PartT := (L.set k x) ++ [y] ++ [z]
theorem grow_length (L : List PartT) (k : Nat) (x y z : PartT) : (grow L k x y z).length = L.length + 2 := by simp [grow]
theorem grow_get {L : List PartT} {k : Nat} {x y z : PartT} (hk : k < L.length) :
    ptget (grow L k x y z) k = x ∧ (∀ j, j < L.length → j ≠ k → ptget (grow L k x y z) j = ptget L j) ∧ ptget (grow L k x y z) L.length = y ∧ ptget (grow L k x y z) (L.length + 1) = z := by
  have l1 : (L.set k x).length = L.length := List.length_set
  have l2 : (L.set k x ++ [y]).length = L.length + 1 := by rw [List.length_append, l1]; rfl
  unfold grow
  refine ⟨?_, fun j hj e => ?_, ?_, ?_⟩
  · rw [ptget_app (by omega), ptget_app (by omega), ptget_set hk]
  · rw [ptget_app (by omega), ptget_app (by omega), ptget_ne (Ne.symm e)]
  · rw [ptget_app (by omega), ← l1, ptget_last]
  · rw [← l2, ptget_last]
theorem MOk.grow {L : List PartT} (hL : MOk L) {k : Nat} (hk : k < L.length) (e : (ptget L k).left = -1) {x y z : PartT} (hn : L.length + 2 ≤ 15)
    (x1 : x.left = (L.length : Nat)) (x2 : x.right = (L.length + 1 : Nat)) (x3 : 1 ≤ x.armLeft ∧ x.armLeft ≤ 20) (x4 : 1 ≤ x.armRight ∧ x.armRight ≤ 20) (x5 : x.weight = 0)
    (hy : WtOk y) (ey : y.left = -1) (hz : WtOk z) (ez : z.left = -1) : MOk (grow L k x y z) := by
  obtain ⟨g1, g2, g3, g4⟩ := grow_get (x := x) (y := y) (z := z) hk
  have w := hL.wt hk e
  have up : ∀ i, i < L.length → PtOk (L.length + 2) i (ptget L i) := fun i hi => by
    have p := hL.part i hi
    unfold PtOk at p ⊢
    by_cases q : (ptget L i).left = -1
    · rw [if_pos q] at p ⊢; exact p
    · rw [if_neg q] at p ⊢
      obtain ⟨a, b, c, d, f⟩ := p
      exact ⟨⟨a.1, by omega⟩, ⟨b.1, by omega⟩, c, d, f⟩
  have c1 : ∀ j, j < L.length → ∀ m, m ≤ L.length → cnt (Go.Proofs.Ythefcbninpkncaa.grow L k x y z) j m = cnt L j m := fun j hj m => by
    induction m with
    | zero => intro _; rfl
    | succ m ih =>
      intro hm
      show cnt (Go.Proofs.Ythefcbninpkncaa.grow L k x y z) j m + _ + _ = cnt L j m + _ + _
      rw [ih (by omega)]
      by_cases q : m = k
      · subst q
        rw [g1, x1, x2, e, w.1, if_neg (by omega), if_neg (by omega), if_neg (by omega)]
      · rw [g2 m (by omega) q]
  have c2 : ∀ j, j = L.length ∨ j = L.length + 1 → ∀ m, m ≤ L.length → cnt (Go.Proofs.Ythefcbninpkncaa.grow L k x y z) j m = if k < m then 1 else 0 := fun j hj m => by
    induction m with
    | zero => intro _; rw [if_neg (by omega)]; rfl
    | succ m ih =>
      intro hm
      show cnt (Go.Proofs.Ythefcbninpkncaa.grow L k x y z) j m + (if _ = (j : Int) then 1 else 0) + (if _ = (j : Int) then 1 else 0) = _
      rw [ih (by omega)]
      by_cases q : m = k
      · subst q
        rw [g1, x1, x2, if_neg (by omega), if_pos (Nat.lt_succ_self m)]
        rcases hj with rfl | rfl
        · rw [if_pos rfl, if_neg (by omega)]
        · rw [if_neg (by omega), if_pos rfl]
      · rw [g2 m (by omega) q]
        have r : (ptget L m).left ≠ (j : Int) ∧ (ptget L m).right ≠ (j : Int) := by
          by_cases t : (ptget L m).left = -1
          · have v := (hL.wt (by omega) t).1
            rw [t, v]; omega
          · have v := hL.bm (by omega) t
            have bb := v.1.2
            rw [v.2.1, v.2.2.1]; omega
        rw [if_neg r.1, if_neg r.2]
        by_cases t : k < m
        · rw [if_pos t, if_pos (by omega)]
        · rw [if_neg t, if_neg (by omega)]
  have c3 : ∀ j, cnt (Go.Proofs.Ythefcbninpkncaa.grow L k x y z) j (L.length + 2) = cnt (Go.Proofs.Ythefcbninpkncaa.grow L k x y z) j L.length := fun j => by
    show cnt (Go.Proofs.Ythefcbninpkncaa.grow L k x y z) j L.length + (if _ = (j : Int) then 1 else 0) + (if _ = (j : Int) then 1 else 0) + (if _ = (j : Int) then 1 else 0) + (if _ = (j : Int) then 1 else 0) = _
    rw [g3, g4, ey, ez, hy.1, hz.1, if_neg (by omega)]
    rfl
  refine ⟨by rw [grow_length]; omega, by rw [grow_length]; omega, fun i hi => ?_, fun j hj h1 => ?_⟩
  · rw [grow_length] at hi ⊢
    by_cases q : i = k
    · subst q
      rw [g1]
      unfold PtOk
      rw [if_neg (by omega)]
      exact ⟨⟨by omega, by omega⟩, ⟨by omega, by omega⟩, x3, x4, x5⟩
    · rcases Nat.lt_or_ge i L.length with t | t
      · rw [g2 i t q]; exact up i t
      · rcases Nat.lt_or_ge i (L.length + 1) with s | s
        · obtain rfl : i = L.length := by omega
          rw [g3]; unfold PtOk; rw [if_pos ey]; exact hy
        · obtain rfl : i = L.length + 1 := by omega
          rw [g4]; unfold PtOk; rw [if_pos ez]; exact hz
  · rw [grow_length] at hj ⊢
    rw [c3]
    rcases Nat.lt_or_ge j L.length with t | t
    · rw [c1 j t _ (Nat.le_refl _)]; exact hL.once j t h1
    · rw [c2 j (by omega) _ (Nat.le_refl _), if_pos hk]
end Go.Proofs.Ythefcbninpkncaa
