/-
  What the rows' listed variables give beside the table: strconv's two errors hold what their initialisers lay. The law on parsing.
-/
import Derived.Test.YtepgficheibbfaaDoorImplParse
namespace Go.Proofs.YtepgficheibbfaaDoor
open Go.ChangeShapes Go.WideShapes Go.ChangeAt Go.RowKit Go.PlainAid

theorem gSyn : Tryd.prog.globalNamed "strconv.ErrSyntax" = some 0 := by kernel_rfl
theorem gSynType : (Tryd.prog.globals[0]?).map (·.type) = some 48 := by kernel_rfl
theorem gRng : Tryd.prog.globalNamed "strconv.ErrRange" = some 1 := by kernel_rfl
theorem gRngType : (Tryd.prog.globals[1]?).map (·.type) = some 48 := by kernel_rfl
theorem esCells : Tryd.prog.cellsOf 88 = 1 := by kernel_rfl
theorem strCells : Tryd.prog.cellsOf 9 = 1 := by kernel_rfl
theorem star : "*" ++ "errors.errorString" = "*errors.errorString" := by decide
theorem rowES (u : TypeId) (h : Tryd.prog.typeName? 3 u = some "*errors.errorString") : u = 86 :=
  typeName_ptr_named (nm := "errors.errorString") (by rw [star]; kernel_rfl) (by kernel_rfl) (by decide) u (by rw [star]; exact h)

theorem errs_of5 {x y z : String × DataW Unit} {w : World} (h : laidMet Tryd.prog (x :: y :: z :: ("strconv.ErrRange", Rows.laid_strconv_ErrRange) :: ("strconv.ErrSyntax", Rows.laid_strconv_ErrSyntax) :: []) w) : Errs w := by
  have h3 := h.tail.tail.tail
  obtain ⟨a0, s0, hv0, -, -, -⟩ := laid_sentinel h3 gRng gRngType Tryd.underlying48 rowES Tryd.underlying86 Tryd.underlying88 rfl rfl Tryd.underlying9 esCells strCells
  obtain ⟨a1, s1, hv1, -, -, -⟩ := laid_sentinel h3.tail gSyn gSynType Tryd.underlying48 rowES Tryd.underlying86 Tryd.underlying88 rfl rfl Tryd.underlying9 esCells strCells
  exact ⟨⟨_, _, hv0⟩, ⟨_, _, hv1⟩⟩
theorem errs_keep {w w' : World} (h : Errs w) (hb : Below w.heap.size w w') (h0 : 1 < w.heap.size) (h1 : 0 < w.heap.size) : Errs w' := by
  obtain ⟨⟨t1, p1, e1⟩, ⟨t2, p2, e2⟩⟩ := h
  exact ⟨⟨t1, p1, var?_below hb gRng h0 e1⟩, ⟨t2, p2, var?_below hb gSyn h1 e2⟩⟩

theorem exactParse_walk (s : ByteArray) (w : World) (hm : s.size ≤ 9223372036854775807) (hT : Tab w) (hE : Errs w) :
    Calls Tryd.prog 7 #[.string s] w fun e w' => e = .returned (.bool true) ∧ Below w.heap.size w w' := by
  by_cases h1 : 1048576 < s.size
  · clear hT hE
    go_enter Tryd.func7, Tryd.ntmps7
    go_wp2
    go_ret
    exact ⟨rfl, Below.refl _ _⟩
  · have hS := specParse_any s w hm
    have hlt := tab_lt hT
    have hI := fun W (b : Below w.heap.size w W) => implParse_any s W (by omega) (tab_keep hT b) (errs_keep hE b (by omega) (by omega))
    clear hT hE hlt hm
    go_enter Tryd.func7, Tryd.ntmps7
    go_wp2_with fail
    refine hS.mono ?_
    rintro e w1 ⟨b1, ⟨n, hn, rfl⟩ | ⟨hn, rfl⟩⟩
    · have hI1 := hI w1 b1
      clear hI hS
      go_wp2_with fail
      refine hI1.mono ?_
      rintro e w2 ⟨b2, ⟨m, hm, rfl⟩ | ⟨hm, rfl⟩⟩
      · obtain rfl := isNum_inj hn hm
        have b := b1.trans (b2.mono b1.size)
        clear hI1 b1 b2
        go_wp2
        go_ret
        exact ⟨rfl, b⟩
      · exact absurd ⟨n, hn⟩ hm
    · have hI1 := hI w1 b1
      clear hI hS
      go_wp2_with fail
      refine hI1.mono ?_
      rintro e w2 ⟨b2, ⟨m, hm, rfl⟩ | ⟨hm, rfl⟩⟩
      · exact absurd ⟨m, hm⟩ hn
      · have b := b1.trans (b2.mono b1.size)
        clear hI1 b1 b2
        go_wp2
        go_ret
        exact ⟨rfl, b⟩
end Go.Proofs.YtepgficheibbfaaDoor
