/-
  How edges that came in read.
-/
import Derived.Test.YtfepgemopcpgmaaDoorOpen
import Derived.Test.YtfepgemopcpgmaaDoorFl
import Derived.Lib.SmallJoins
namespace Go.Proofs.YtfepgemopcpgmaaDoor
open Go.RowKit Go.ChangeShapes Go.WideShapes Go.Deep Go.Joins
set_option linter.unusedVariables false
set_option maxRecDepth 100000
section
variable {H : Type} {enc : TypeId × Value → H} {W : World} {spare : Nat → Bool} {held : Bool} {fuel : Nat}
theorem open_row_cap {A : Option Addr} {len cap : Nat} {x : DataW H × List MemPlace} (h : DataW.trod enc Tryd.prog W 0 spare held fuel 23 [.slice A len cap] = some x) : len ≤ cap ∧ cap ≤ maxLen := by
  rcases open_slice Tryd.underlying23 h with ⟨h0, _⟩ | ⟨a, l, c, m, n, D, Pl, hcs, hb, hl, hm, hmm, hx, hi⟩
  · simp at h0
    obtain ⟨rfl, rfl, rfl⟩ := h0
    exact ⟨Nat.le_refl _, Nat.zero_le _⟩
  · simp at hcs
    obtain ⟨rfl, rfl, rfl⟩ := hcs
    exact ⟨hl, hm⟩
theorem edg_cells : Tryd.prog.cellsOf 25 = 4 := by kernel_rfl
theorem open_edges {r : Reach} {b0 : Nat} {v : Value} {d : DataW H} {p : List MemPlace} (hv : Value.okWide Tryd.prog W r b0 25 v) (h : DataW.Trod enc Tryd.prog W 0 spare held 25 v d p) :
    ∃ (N E U V : Option Addr) (nc ec uc vc : Nat) (D : Ed), v = .agg #[.slice N D.n.length nc, .slice E D.e.length ec, .slice U D.s.length uc, .slice V D.w.length vc] ∧
      (D.n.length ≤ nc ∧ nc ≤ maxLen) ∧ (D.e.length ≤ ec ∧ ec ≤ maxLen) ∧ (D.s.length ≤ uc ∧ uc ≤ maxLen) ∧ (D.w.length ≤ vc ∧ vc ≤ maxLen) ∧ EdIn W W.heap.size N E U V D := by
  obtain ⟨v0, v1, v2, v3, y0, y1, y2, y3, m, rfl, rfl, rfl, h0, h1, h2, h3⟩ := open_agg4 Tryd.underlying25 (by kernel_rfl) edg_cells hv h
  obtain ⟨A0, n0, c0, e0⟩ := slice_form Tryd.underlying23 h0
  obtain ⟨A1, n1, c1, e1⟩ := slice_form Tryd.underlying23 h1
  obtain ⟨A2, n2, c2, e2⟩ := slice_form Tryd.underlying23 h2
  obtain ⟨A3, n3, c3, e3⟩ := slice_form Tryd.underlying23 h3
  simp at e0 e1 e2 e3
  subst e0
  subst e1
  subst e2
  subst e3
  obtain ⟨l0, rfl, _, _, I0⟩ := open_row h0
  obtain ⟨l1, rfl, _, _, I1⟩ := open_row h1
  obtain ⟨l2, rfl, _, _, I2⟩ := open_row h2
  obtain ⟨l3, rfl, _, _, I3⟩ := open_row h3
  exact ⟨A0, A1, A2, A3, c0, c1, c2, c3, ⟨l0, l1, l2, l3⟩, rfl, open_row_cap h0, open_row_cap h1, open_row_cap h2, open_row_cap h3, ⟨I0, I1, I2, I3⟩⟩
end
end Go.Proofs.YtfepgemopcpgmaaDoor
