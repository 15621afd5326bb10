/-
  tile.Fits, tile.Repeats: patterns and tori.
  Two tiles are equal as structs.
  groutworktop.of: what a pattern, a torus of a set is, by the definition.
-/
import Derived.Test.YtgadfmknjpanpaaGreatDoorF
import Derived.Laws.StructEq
namespace Go.Proofs.YtgadfmknjpanpaaGreatDoor
section
open Go.RowKit Go.Maps Go.BigFrame
set_option linter.unusedVariables false

theorem form_is (a b : Int) (cs : List Int) : (incl a b && decide ((cs.length : Int) = a * b)) = form ⟨a, b, cs⟩ := by
  unfold incl form
  rw [← Bool.decide_and, decide_eq_decide]
  simp only [and_assoc]
theorem refers_is (s : List Tl) (a b : Int) (cs : List Int) : cs.all (isIdx s.length) = refers s ⟨a, b, cs⟩ := rfl
theorem valid_pat (s : List Tl) (f : Bool) (S : Option Addr) (m d : Nat) (w : World) (hm : m = s.length) (hf : vld s = f) (hs : SetIn w w.heap.size S s) (hwf : ∀ t ∈ s, twf t) (hl : m ≤ 9223372036854775807) :
    Calls Tryz.prog 18 #[.slice S m d] w fun e w' => e = .returned (.bool f) ∧ Below w.heap.size w w' := by
  subst hm
  rw [← hf]
  exact valid_any s S d w hs hwf hl
end
section
open Go.RowKit Go.Maps Go.BigFrame
set_option linter.unusedVariables false

theorem tile_fields : Tryz.prog.underlying 37 = some (.struct (Tryz.prog.fieldsOf 37)) := by simp [Program.fieldsOf, Tryz.underlying37]
theorem tile_stood : Tryz.prog.stoodInHeld 37 = false := by kernel_rfl
theorem tile_eqlb (t u : Tl) (w : World) : (binOp .eql 37 (.agg #[.int .i64 t.n, .int .i64 t.e, .int .i64 t.s, .int .i64 t.w]) (.agg #[.int .i64 u.n, .int .i64 u.e, .int .i64 u.s, .int .i64 u.w])).run Tryz.prog w = .ok (.bool (t.n == u.n && (t.e == u.e && (t.s == u.s && t.w == u.w)))) w := by
  simp only [binOp]
  simp only [Op.equal, Op.maxDepth]
  have h := fun d => run_equalIn_struct (P := Tryz.prog) w d 37 #[.int .i64 t.n, .int .i64 t.e, .int .i64 t.s, .int .i64 t.w] #[.int .i64 u.n, .int .i64 u.e, .int .i64 u.s, .int .i64 u.w] tile_fields tile_stood
  cases h0 : (t.n == u.n) <;> cases h1 : (t.e == u.e) <;> cases h2 : (t.s == u.s) <;> cases h3 : (t.w == u.w) <;>
    simp [h 9999, go_sem, Program.fieldsOf, Tryz.underlying37, Tryz.underlying3, h0, h1, h2, h3]
end
section
open Go.RowKit Go.Maps Go.BigFrame
set_option linter.unusedVariables false

theorem tile_eql (t u : Tl) (w : World) (r : Bool) (h : decide (t = u) = r) : (binOp .eql 37 (.agg #[.int .i64 t.n, .int .i64 t.e, .int .i64 t.s, .int .i64 t.w]) (.agg #[.int .i64 u.n, .int .i64 u.e, .int .i64 u.s, .int .i64 u.w])).run Tryz.prog w = .ok (.bool r) w := by
  rw [tile_eqlb, ← h]
  congr 2
  obtain ⟨a, b, c, d⟩ := t
  obtain ⟨a', b', c', d'⟩ := u
  rw [Bool.eq_iff_iff]
  simp
def ofs (cols rows : Int) (s : List Tl) (p : Pt) : Bool := vld s && (form p && (refers s p && agrs s p cols rows))
theorem ofs_fits (s : List Tl) (a b : Int) (cs : List Int) : ofs (a - 1) (b - 1) s ⟨a, b, cs⟩ = fits s ⟨a, b, cs⟩ := rfl
theorem ofs_reps (s : List Tl) (a b : Int) (cs : List Int) : ofs a b s ⟨a, b, cs⟩ = reps s ⟨a, b, cs⟩ := rfl
theorem ofs_noform {cols rows : Int} {s : List Tl} {p : Pt} (h : form p = false) : ofs cols rows s p = false := by simp [ofs, h]
theorem ofs_novld {cols rows : Int} {s : List Tl} {p : Pt} (h : vld s = false) : ofs cols rows s p = false := by simp [ofs, h]
theorem ofs_norefers {cols rows : Int} {s : List Tl} {p : Pt} (h : refers s p = false) : ofs cols rows s p = false := by simp [ofs, h]
theorem ofs_noagrs {cols rows : Int} {s : List Tl} {p : Pt} (h : agrs s p cols rows = false) : ofs cols rows s p = false := by simp [ofs, h]
theorem noform {a b : Int} {cs : List Int} (h : ¬ (1 ≤ a ∧ 1 ≤ b ∧ a * b ≤ 40000 ∧ (cs.length : Int) = a * b)) : form ⟨a, b, cs⟩ = false := by
  rw [Bool.eq_false_iff]; intro hf; exact h (form_iff.1 hf)
/-- no tile before j is t -/
def noneIs (s : List Tl) (t : Tl) (j : Nat) : Prop := ∀ i, i < j → i < s.length → s.getD i ⟨0, 0, 0, 0⟩ ≠ t
theorem noneIs_succ {s : List Tl} {t : Tl} {j : Nat} (h : noneIs s t j) (hn : s.getD j ⟨0, 0, 0, 0⟩ ≠ t) : noneIs s t (j + 1) := fun i hi hl => by
  by_cases e : i = j
  · subst e; exact hn
  · exact h i (by omega) hl
theorem noneIs_take {s : List Tl} {t : Tl} {k : Nat} (h : noneIs s t k) : t ∉ s.take k := fun hm => by
  obtain ⟨i, hi, e⟩ := List.mem_take_iff_getElem.1 hm
  refine h i (by omega) (by omega) ?_
  rw [List.getD_eq_getElem?_getD, List.getElem?_eq_getElem (by omega)]
  exact e
theorem mem_take_of {s : List Tl} {t : Tl} {j k : Nat} (hj : j < k) (hk : k ≤ s.length) (e : s.getD j ⟨0, 0, 0, 0⟩ = t) : t ∈ s.take k := by
  refine List.mem_take_iff_getElem.2 ⟨j, by omega, ?_⟩
  rw [List.getD_eq_getElem?_getD, List.getElem?_eq_getElem (by omega)] at e
  exact e
/-- the first k cells are indices of tiles -/
def refK (m : Nat) (cs : List Int) (k : Nat) : Prop := (cs.take k).all (isIdx m) = true
end
end Go.Proofs.YtgadfmknjpanpaaGreatDoor
