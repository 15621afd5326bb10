/-
  How sets and patterns that came in read: their cells, as the walks want them.
-/
import Derived.Test.YtgadfmknjpanpaaDoorAE
import Derived.Deep.Slices
import Derived.Deep.Fields
import Derived.OpenShut
import Derived.ProofKit
namespace Go.Proofs.YtgadfmknjpanpaaDoor
open Go.RowKit Go.ChangeShapes Go.WideShapes Go.Deep Go.Joins
set_option linter.unusedVariables false
set_option maxRecDepth 100000

theorem spot_none {W : World} {a : Addr} {k : Nat} {v : Value} (hk : W.cell? (a.add 0) = some v) : a.add k = ⟨a.block, a.off + k, none⟩ := by
  obtain ⟨b, o, sp⟩ := a
  have h : sp = none := by simpa [Addr.add] using World.cell?_spot hk
  subst h
  unfold Addr.add
  split
  · rename_i e; subst e; rfl
  · rfl

section
variable {H : Type} {enc : TypeId × Value → H} {W : World} {spare : Nat → Bool} {held : Bool} {fuel : Nat}
theorem tile_of {cs : List Value} {y : DataW H × List MemPlace} (h : DataW.trod enc Tryd.prog W 0 spare held fuel 53 cs = some y) : ∃ t : Tl, twf t ∧ cs = [.int .i64 t.n, .int .i64 t.e, .int .i64 t.s, .int .i64 t.w] := by
  obtain ⟨xs, n, _, _, hl, _, hf⟩ := DataW.trod_struct Tryd.underlying53 h
  rw [tile_cells] at hl
  have c3 : Tryd.prog.cellsOf 3 = 1 := by kernel_rfl
  have one : ∀ i, i < 4 → ∀ f : Field, (#[f] : Array Field)[0]? = some f → f.type = 3 → f.offset = i → (DataW.trod enc Tryd.prog W 0 spare held n f.type ((cs.drop f.offset).take (Tryd.prog.cellsOf f.type)) = xs[i]?) → i < xs.length → ∃ z, cs[i]? = some (.int .i64 z) ∧ (Lit.int .i64 z).wf = true := by
    intro i hi f _ ht ho hy hx
    rw [ht, ho, c3, List.getElem?_eq_getElem hx] at hy
    obtain ⟨z, e1, _, hw⟩ := DataW.trod_int Tryd.underlying3 hy
    refine ⟨z, ?_, hw⟩
    have h0 : ((cs.drop i).take 1)[0]? = some (.int .i64 z) := by rw [e1]; rfl
    simpa using h0
  have hx : xs.length = 4 := by assumption
  obtain ⟨z0, e0, w0⟩ := one 0 (by omega) _ rfl rfl rfl (hf 0 _ rfl) (by omega)
  obtain ⟨z1, e1, w1⟩ := one 1 (by omega) _ rfl rfl rfl (hf 1 _ rfl) (by omega)
  obtain ⟨z2, e2, w2⟩ := one 2 (by omega) _ rfl rfl rfl (hf 2 _ rfl) (by omega)
  obtain ⟨z3, e3, w3⟩ := one 3 (by omega) _ rfl rfl rfl (hf 3 _ rfl) (by omega)
  refine ⟨⟨z0, z1, z2, z3⟩, ⟨w0, w1, w2, w3⟩, ?_⟩
  match cs, hl with
  | [a, b, c, d], _ =>
    simp at e0 e1 e2 e3
    rw [e0, e1, e2, e3]
theorem open_cap {A : Option Addr} {len cap : Nat} {x : DataW H × List MemPlace} (h : DataW.trod enc Tryd.prog W 0 spare held fuel 22 [.slice A len cap] = some x) : len ≤ cap ∧ cap ≤ maxLen := by
  rcases open_slice Tryd.underlying22 h with ⟨h0, _⟩ | ⟨a, l, c, m, n, D, Pl, hcs, hb, hl, hm, hmm, hx, hi⟩
  · simp at h0
    obtain ⟨rfl, rfl, rfl⟩ := h0
    exact ⟨Nat.le_refl _, Nat.zero_le _⟩
  · simp at hcs
    obtain ⟨rfl, rfl, rfl⟩ := hcs
    exact ⟨hl, hm⟩
theorem open_set {A : Option Addr} {len cap : Nat} {x : DataW H × List MemPlace} (h : DataW.trod enc Tryd.prog W 0 spare held fuel 22 [.slice A len cap] = some x) :
    ∃ s : List Tl, len = s.length ∧ len ≤ maxLen ∧ (∀ t ∈ s, twf t) ∧ SetIn W W.heap.size A s := by
  rcases open_slice Tryd.underlying22 h with ⟨h0, _⟩ | ⟨a, l, c, m, n, D, Pl, hcs, hb, hl, hm, hmm, hx, hi⟩
  · simp at h0
    obtain ⟨rfl, rfl, rfl⟩ := h0
    exact ⟨[], rfl, Nat.zero_le _, (by simp), fun hn => absurd rfl hn⟩
  · simp at hcs
    obtain ⟨rfl, rfl, rfl⟩ := hcs
    have hlm : len ≤ m := by rw [hmm]; split <;> omega
    rw [tile_cells] at hi
    have hex : ∀ i, ∃ t : Tl, i < len → twf t ∧ ∀ j v, [Value.int .i64 t.n, .int .i64 t.e, .int .i64 t.s, .int .i64 t.w][j]? = some v → W.cell? (a.add (i * 4 + j)) = some v := by
      intro i
      by_cases hil : i < len
      · obtain ⟨cs', hc, ht⟩ := hi i (by omega)
        obtain ⟨t, hw, rfl⟩ := tile_of ht
        refine ⟨t, fun _ => ⟨hw, fun j v hv => ?_⟩⟩
        obtain ⟨_, _, hat⟩ := World.cells?_some hc
        have hj : j < 4 := by
          rcases Nat.lt_or_ge j 4 with h | h
          · exact h
          · rw [List.getElem?_eq_none (by simpa using h)] at hv; cases hv
        rw [← Go.Deep.add_add, hat j hj, hv]
      · exact ⟨⟨0, 0, 0, 0⟩, fun h => absurd h hil⟩
    obtain ⟨F, hF⟩ := Classical.skolem.1 hex
    refine ⟨(List.range len).map F, by simp, Nat.le_trans hl hm, fun t ht => ?_, fun hn => ?_⟩
    · obtain ⟨i, hi', rfl⟩ := List.mem_map.1 ht
      exact (hF i (by simpa using hi')).1
    · have h0 : 0 < len := by
        rcases Nat.eq_zero_or_pos len with e | e
        · subst e; simp at hn
        · exact e
      have hz := (hF 0 h0).2 0 _ rfl
      rw [Nat.zero_mul, Nat.zero_add] at hz
      have hsp := fun k => spot_none (k := k) hz
      refine ⟨a.block, a.off, ?_, ?_, fun i hi' => ?_⟩
      · have e0 := hsp 0
        have : a.add 0 = a := by simp [Addr.add]
        rw [this] at e0
        rw [e0]
      · have := World.block_lt_of_cell? W _ hz
        rw [hsp 0] at this
        exact this
      · have hil : i < len := by simpa using hi'
        have e : ((List.range len).map F).getD i ⟨0, 0, 0, 0⟩ = F i := by
          rw [List.getD_eq_getElem?_getD, List.getElem?_map, List.getElem?_range hil]; rfl
        rw [e]
        have hc := (hF i hil).2
        refine ⟨?_, ?_, ?_, ?_⟩
        · have h := hc 0 _ rfl; rw [hsp] at h; exact h
        · have h := hc 1 _ rfl; rw [hsp] at h; exact h
        · have h := hc 2 _ rfl; rw [hsp] at h; exact h
        · have h := hc 3 _ rfl; rw [hsp] at h; exact h
theorem open_row {A : Option Addr} {len cap : Nat} {x : DataW H × List MemPlace} (h : DataW.trod enc Tryd.prog W 0 spare held fuel 25 [.slice A len cap] = some x) :
    ∃ cs : List Int, len = cs.length ∧ len ≤ maxLen ∧ (∀ z ∈ cs, (Lit.int .i64 z).wf = true) ∧ IntsIn W W.heap.size A cs := by
  rcases open_ints Tryd.underlying25 Tryd.underlying3 (by kernel_rfl) h with ⟨h0, _⟩ | ⟨a, l, c, zs, hcs, hb, hl, hm, hz, hx, hc, hw⟩
  · simp at h0
    obtain ⟨rfl, rfl, rfl⟩ := h0
    exact ⟨[], rfl, Nat.zero_le _, by simp, fun hn => absurd rfl hn⟩
  · simp at hcs
    obtain ⟨rfl, rfl, rfl⟩ := hcs
    have hlz : len ≤ zs.length := by rw [hz]; split <;> omega
    refine ⟨zs.take len, by rw [List.length_take]; omega, Nat.le_trans hl hm, fun z hz' => hw z (List.mem_of_mem_take hz'), fun hn => ?_⟩
    have h0 : 0 < len := by
      rcases Nat.eq_zero_or_pos len with e | e
      · subst e; simp at hn
      · exact e
    have hz0 := hc 0 (by omega)
    have hsp := fun k => spot_none (k := k) hz0
    refine ⟨a.block, a.off, ?_, ?_, fun i hi' => ?_⟩
    · have e0 := hsp 0
      have : a.add 0 = a := by simp [Addr.add]
      rw [this] at e0
      rw [e0]
    · have := World.block_lt_of_cell? W _ hz0
      rw [hsp 0] at this
      exact this
    · have hil : i < len := by rw [List.length_take] at hi'; omega
      have h1 := hc i (by omega)
      rw [hsp] at h1
      rw [h1, List.getD_eq_getElem?_getD, List.getD_eq_getElem?_getD, List.getElem?_take, if_pos hil]
theorem pat_cells : Tryd.prog.cellsOf 47 = 3 := by kernel_rfl
theorem open_pat {r : Reach} {b0 : Nat} {v : Value} {d : DataW H} {p : List MemPlace} (hv : Value.okWide Tryd.prog W r b0 47 v) (h : DataW.Trod enc Tryd.prog W 0 spare held 47 v d p) :
    ∃ (a b : Int) (A : Option Addr) (n c : Nat) (cs : List Int), v = .agg #[.int .i64 a, .int .i64 b, .slice A n c] ∧ (Lit.int .i64 a).wf = true ∧ (Lit.int .i64 b).wf = true ∧ n = cs.length ∧ n ≤ maxLen ∧ (∀ z ∈ cs, (Lit.int .i64 z).wf = true) ∧ IntsIn W W.heap.size A cs := by
  obtain ⟨v0, v1, v2, y0, y1, y2, m, rfl, rfl, rfl, h0, h1, h2⟩ := open_agg3 Tryd.underlying47 (by kernel_rfl) pat_cells hv h
  obtain ⟨a, e0, _, w0⟩ := DataW.trod_int Tryd.underlying3 h0
  obtain ⟨b, e1, _, w1⟩ := DataW.trod_int Tryd.underlying3 h1
  obtain ⟨A, n, c, e2⟩ := slice_form Tryd.underlying25 h2
  simp at e0 e1 e2
  subst e0
  subst e1
  subst e2
  obtain ⟨cs, hn, hm, hw, hI⟩ := open_row h2
  exact ⟨a, b, A, n, c, cs, rfl, w0, w1, hn, hm, hw, hI⟩
end
end Go.Proofs.YtgadfmknjpanpaaDoor
