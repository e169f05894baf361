/-
  A map of the call's own from jugs to true: what it reads as, and what a look-up answers and a further state makes of it. No program's walk.
-/
import Derived.Test.YtmoncfplcmdpcaaJugRow
import Derived.Laws.StructEq
import Derived.WideLaws
import Derived.KernelRfl
namespace Go.Proofs.Ytmoncfplcmdpcaa
open Go.ChangeShapes Go.WideShapes Go.ChangeAt Go.RowKit Go.PlainAid

theorem Try.underJug : Try.prog.underlying 49 = some (.map 30 4) := by kernel_rfl
theorem zeroBool (w : World) : (zeroValue 4).run Try.prog w = .ok (.bool false) w := by kernel_rfl
theorem key_fine (e : Bool) (a b x y : Int) (w : World) : (Instr.checkKey e 10000 30 (jagg a b x y)).run Try.prog w = .ok () w := by cases e <;> kernel_rfl
theorem equal_jugs (a b x y x' y' : Int) (w : World) : (Op.equal 30 (jagg a b x y) (jagg a b x' y')).run Try.prog w = .ok (decide ((x, y) = (x', y'))) w := by
  have u3 := Try.underlying3
  have a3 := Try.isAgg3
  have z3 := Try.sizeOf3
  have hS : Try.prog.underlying 30 = some (.struct (Try.prog.fieldsOf 30)) := by kernel_rfl
  have hp : Try.prog.stoodInHeld 30 = false := by kernel_rfl
  show (Op.equalIn 10000 30 _ _).run _ _ = _
  rw [show (10000 : Nat) = 9999 + 1 from rfl, run_equalIn_agg w 9999 30 _ _ hS hp]
  simp only [Program.fieldsOf, Try.underlying30]
  go_simp
  by_cases h1 : x = x' <;> by_cases h2 : y = y' <;> simp [h1, h2]

/-- The entries read as these states. -/
def Entries (a b : Int) (es : List MapEntry) (L : List (Int × Int)) : Prop := es.map (fun e => (e.key, e.val)) = L.map fun s => (jagg a b s.1 s.2, Value.bool true)
theorem find_now_nil (k : Value) (i : Nat) (kd : TypeDesc) : Instr.findNow kd k [] i = some none := rfl
theorem find_asking (a b x y : Int) (w : World) : ∀ (es : List MapEntry) (L : List (Int × Int)) (i : Nat), Entries a b es L →
    if (x, y) ∈ L then ∃ j, (Instr.findAsking 30 (jagg a b x y) es i).run Try.prog w = .ok (some (j, .bool true)) w else (Instr.findAsking 30 (jagg a b x y) es i).run Try.prog w = .ok none w
  | [], L, i, h => by
    have : L = [] := by
      unfold Entries at h
      rw [List.map_nil] at h
      exact List.map_eq_nil_iff.1 h.symm
    subst this
    rw [if_neg (List.not_mem_nil)]
    rfl
  | e :: es, L, i, h => by
    rcases L with _ | ⟨s, L⟩
    · unfold Entries at h
      rw [List.map_cons, List.map_nil] at h
      cases h
    · unfold Entries at h
      rw [List.map_cons, List.map_cons] at h
      injection h with h1 h2
      injection h1 with hk hv
      have ih := find_asking a b x y w es L (i + 1) h2
      have hq := equal_jugs a b x y s.1 s.2 w
      rw [← hk] at hq
      unfold Instr.findAsking
      simp only [Sem.run_bind, hq, Result.andThen_ok]
      by_cases g : (x, y) = (s.1, s.2)
      · have g' : (x, y) = s := g
        rw [if_pos (by rw [g']; exact List.mem_cons_self)]
        refine ⟨i, ?_⟩
        rw [if_pos (decide_eq_true g), hv]
        rfl
      · have g' : ¬ (x, y) = s := g
        have e1 : ((if decide ((x, y) = (s.1, s.2)) = true then (pure (some (i, e.val)) : Sem (Option (Nat × Value))) else Instr.findAsking 30 (jagg a b x y) es (i + 1)) : Sem (Option (Nat × Value))) = Instr.findAsking 30 (jagg a b x y) es (i + 1) := if_neg (by rw [decide_eq_false g]; exact Bool.false_ne_true)
        rw [e1]
        by_cases hm : (x, y) ∈ L
        · rw [if_pos hm] at ih
          rw [if_pos (List.mem_cons_of_mem _ hm)]
          exact ih
        · rw [if_neg hm] at ih
          rw [if_neg (by rw [List.mem_cons]; rintro (e1 | e1) <;> contradiction)]
          exact ih
theorem find_key (a b x y : Int) (w : World) (es : List MapEntry) (L : List (Int × Int)) (h : Entries a b es L) :
    if (x, y) ∈ L then ∃ j, (Instr.findKey 30 (jagg a b x y) es).run Try.prog w = .ok (some (j, .bool true)) w else (Instr.findKey 30 (jagg a b x y) es).run Try.prog w = .ok none w := by
  have ha := find_asking a b x y w es L 0 h
  unfold Instr.findKey
  simp only [Sem.run_bind, run_underlying Try.underlying30, Result.andThen_ok]
  rcases es with _ | ⟨e, es⟩
  · have : L = [] := by
      unfold Entries at h
      rw [List.map_nil] at h
      exact List.map_eq_nil_iff.1 h.symm
    subst this
    rw [if_neg (List.not_mem_nil)]
    rfl
  · exact ha

/-- Block m is a map from the states of the list to true. -/
def SMap (w : World) (m : Nat) (a b : Int) (L : List (Int × Int)) : Prop := ∃ es clock, w.heap[m]? = some (.map es clock) ∧ Entries a b es.toList L
theorem SMap.made (w : World) (a b : Int) : SMap (w.alloc (.map #[] 0)) w.heap.size a b [] := ⟨#[], 0, heap_alloc_new w _, rfl⟩
theorem SMap.keep {w w' : World} {m : Nat} {a b : Int} {L : List (Int × Int)} (h : SMap w m a b L) (e : w'.heap[m]? = w.heap[m]?) : SMap w' m a b L := by
  obtain ⟨es, clock, h1, h2⟩ := h
  exact ⟨es, clock, e.trans h1, h2⟩
theorem SMap.look {w : World} {m : Nat} {a b : Int} {L : List (Int × Int)} (h : SMap w m a b L) (x y : Int) :
    (Instr.lookup 49 (.map (some m)) (jagg a b x y) false).run Try.prog w = .ok (.bool (decide ((x, y) ∈ L))) w := by
  obtain ⟨es, clock, hb, he⟩ := h
  have hf := find_key a b x y w es.toList L he
  unfold Instr.lookup
  simp only [Sem.run_bind, run_underlying Try.underJug, Result.andThen_ok, run_getObj_map _ _ _ _ hb, Sem.run_pure, key_fine]
  by_cases g : (x, y) ∈ L
  · rw [if_pos g] at hf
    obtain ⟨j, hj⟩ := hf
    rw [hj, decide_eq_true g]
    rfl
  · rw [if_neg g] at hf
    rw [hf, decide_eq_false g]
    simp only [Result.andThen_ok, Sem.run_bind, zeroBool]
    rfl
theorem SMap.put {w : World} {m : Nat} {a b : Int} {L : List (Int × Int)} (h : SMap w m a b L) {x y : Int} (hn : (x, y) ∉ L) :
    ∃ w', (Instr.mapUpdate 49 (.map (some m)) (jagg a b x y) (.bool true)).run Try.prog w = .ok () w' ∧ SMap w' m a b (L ++ [(x, y)]) ∧ w.grownBy w' (some m) ∧ w'.heap.size = w.heap.size := by
  obtain ⟨es, clock, hb, he⟩ := h
  have hm : m < w.heap.size := (Array.getElem?_eq_some_iff.1 hb).1
  have hf := find_key a b x y w es.toList L he
  rw [if_neg hn] at hf
  refine ⟨{ w with heap := w.heap.setIfInBounds m (.map (es.push { key := jagg a b x y, val := .bool true, born := clock }) (clock + 1)) }, ?_, ⟨es.push { key := jagg a b x y, val := .bool true, born := clock }, clock + 1, ?_, ?_⟩, ⟨rfl, rfl, rfl, by simp, ?_⟩, by simp⟩
  · unfold Instr.mapUpdate
    simp only [Sem.run_bind, run_underlying Try.underJug, Result.andThen_ok, run_getObj_map _ _ _ _ hb, key_fine, hf]
    exact MapKept.run_setObj_map _ hb
  · exact Array.getElem?_setIfInBounds_self_of_lt hm
  · unfold Entries at he ⊢
    rw [Array.toList_push, List.map_append, List.map_append, he]
    rfl
  · intro k hk hne
    exact Array.getElem?_setIfInBounds_ne (fun e => hne (by rw [e]))
end Go.Proofs.Ytmoncfplcmdpcaa
