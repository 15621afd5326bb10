/-
  tile.Parse at the texts of the examples.
-/
import Derived.Test.YtgadfmknjpanpaaDoorRt
import Derived.Test.YtgadfmknjpanpaaDoorGI
namespace Go.Proofs.YtgadfmknjpanpaaDoor
open Go.RowKit Go.Maps
set_option linter.unusedVariables false
set_option maxRecDepth 100000

def chessS : List Tl := [⟨0, 1, 1, 0⟩, ⟨1, 0, 0, 1⟩]
theorem chessS_wf : ∀ t ∈ chessS, twf t := by
  intro t ht
  simp only [chessS, List.mem_cons, List.not_mem_nil, or_false] at ht
  rcases ht with rfl | rfl <;> exact ⟨by decide, by decide, by decide, by decide⟩
theorem oneS_wf : ∀ t ∈ [(⟨0, 1, 0, 1⟩ : Tl)], twf t := by
  intro t ht
  simp only [List.mem_cons, List.not_mem_nil, or_false] at ht
  subst ht
  exact ⟨by decide, by decide, by decide, by decide⟩
theorem parse_one (w : World) (h : Env w) : Calls Tryd.prog 25 #[.string ⟨#[48, 46, 49, 46, 48, 46, 49]⟩] w fun e w' =>
    ∃ A c, e = .returned (.tuple #[.slice A 1 c, .int .i64 0]) ∧ SetNew w' w.heap.size A [⟨0, 1, 0, 1⟩] ∧ Below w.heap.size w w' := by
  refine (parse_any _ (by decide) w h).mono ?_
  rintro e w' ⟨hb, hp⟩
  rw [← text_a, parse_text (by decide)] at hp
  obtain ⟨A, c, he, hs⟩ := hp
  exact ⟨A, c, he, hs, hb⟩
theorem parse_chess (w : World) (h : Env w) : Calls Tryd.prog 25 #[.string ⟨#[48, 46, 49, 46, 49, 46, 48, 32, 49, 46, 48, 46, 48, 46, 49]⟩] w fun e w' =>
    ∃ A c, e = .returned (.tuple #[.slice A 2 c, .int .i64 0]) ∧ SetNew w' w.heap.size A chessS ∧ Below w.heap.size w w' := by
  refine (parse_any _ (by decide) w h).mono ?_
  rintro e w' ⟨hb, hp⟩
  rw [← text_b, parse_text (by decide)] at hp
  obtain ⟨A, c, he, hs⟩ := hp
  exact ⟨A, c, he, hs, hb⟩
/-- a literal slice of integers -/
theorem ints_new (w : World) (cs : List Int) (e : TypeId) : IntsIn (w.alloc (.cells (cs.map (Value.int .i64)).toArray e)) (w.heap.size + 1) (some ⟨w.heap.size, 0, none⟩) cs := fun _ =>
  ⟨w.heap.size, 0, rfl, by omega, fun i hi => by
    rw [World.cell?_alloc_new]
    simp [List.getElem?_eq_getElem hi, List.getD_eq_getElem?_getD]⟩

end Go.Proofs.YtgadfmknjpanpaaDoor
