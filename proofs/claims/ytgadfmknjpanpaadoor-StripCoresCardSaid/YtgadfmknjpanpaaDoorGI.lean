/-
  tile.Fits, tile.Repeats: patterns and tori.
  Two tiles are equal as structs.
  groutworktop.of: what a pattern, a torus of a set is, by the definition.
-/
import Derived.Test.YtgadfmknjpanpaaDoorF
import Derived.Laws.StructEq
namespace Go.Proofs.YtgadfmknjpanpaaDoor
section
open Go.RowKit Go.Maps Go.BigFrame
set_option linter.unusedVariables false

theorem form_is (a b : Int) (cs : List Int) : (incl a b && decide ((cs.length : Int) = a * b)) = form ⟨a, b, cs⟩ := by
  unfold incl form
  rw [← Bool.decide_and, decide_eq_decide]
  simp only [and_assoc]
theorem hasForm_pat (a b : Int) (cs : List Int) (f : Bool) (A : Option Addr) (n c : Nat) (w : World) (hn : n = cs.length) (hf : form ⟨a, b, cs⟩ = f) (hl : n ≤ 9223372036854775807) :
    Calls Tryd.prog 40 #[.agg #[.int .i64 a, .int .i64 b, .slice A n c]] w fun e w' => e = .returned (.bool f) ∧ Below w.heap.size w w' := by
  subst hn
  rw [← hf, ← form_is]
  exact hasForm_any a b A cs.length c w hl
theorem refers_is (s : List Tl) (a b : Int) (cs : List Int) : cs.all (isIdx s.length) = refers s ⟨a, b, cs⟩ := rfl
theorem refers_pat (s : List Tl) (a b : Int) (cs : List Int) (f : Bool) (A S : Option Addr) (m n c d : Nat) (w : World) (hm : m = s.length) (hn : n = cs.length) (hf : refers s ⟨a, b, cs⟩ = f) (hp : IntsIn w w.heap.size A cs) (hl : n ≤ 9223372036854775807) (hml : m ≤ 9223372036854775807) :
    Calls Tryd.prog 41 #[.slice S m d, .agg #[.int .i64 a, .int .i64 b, .slice A n c]] w fun e w' => e = .returned (.bool f) ∧ Below w.heap.size w w' := by
  subst hn
  subst hm
  rw [← hf, ← refers_is]
  exact refers_any a b A S cs s.length c d w hp hl hml
theorem valid_pat (s : List Tl) (f : Bool) (S : Option Addr) (m d : Nat) (w : World) (hm : m = s.length) (hf : vld s = f) (hs : SetIn w w.heap.size S s) (hwf : ∀ t ∈ s, twf t) (hl : m ≤ 9223372036854775807) :
    Calls Tryd.prog 27 #[.slice S m d] w fun e w' => e = .returned (.bool f) ∧ Below w.heap.size w w' := by
  subst hm
  rw [← hf]
  exact valid_any s S d w hs hwf hl
theorem agrees_pat (a b : Nat) (cs : List Int) (s : List Tl) (f : Bool) (cols rows : Int) (A S : Option Addr) (m n c d : Nat) (w : World) (hf : form ⟨a, b, cs⟩ = true) (hr : refers s ⟨a, b, cs⟩ = true)
    (hm : m = s.length) (hn : n = cs.length) (hg : agrs s ⟨a, b, cs⟩ cols rows = f) (hS : SetIn w w.heap.size S s) (hP : IntsIn w w.heap.size A cs) (hml : m ≤ 9223372036854775807) :
    Calls Tryd.prog 42 #[.slice S m d, .agg #[.int .i64 (a : Int), .int .i64 (b : Int), .slice A n c], .int .i64 cols, .int .i64 rows] w fun e w' => e = .returned (.bool f) ∧ Below w.heap.size w w' := by
  subst hm
  subst hn
  obtain ⟨a', b', e1, e2, h1, h2, h3, h4⟩ := form_nat hf
  have e1' : a = a' := by have : (a : Int) = a' := e1; omega
  have e2' : b = b' := by have : (b : Int) = b' := e2; omega
  rw [← e1', ← e2'] at h3
  rw [← e1', ← e2'] at h4
  rw [← hg]
  exact agrees_any a b cs s cols rows A S c d w (by omega) (by omega) h3 h4 hr hS hP hml

set_option maxHeartbeats 1000000 in
theorem repeats_any (a b : Int) (cs : List Int) (s : List Tl) (A S : Option Addr) (m n c d : Nat) (w : World) (hm : m = s.length) (hn : n = cs.length)
    (hS : SetIn w w.heap.size S s) (hP : IntsIn w w.heap.size A cs) (hwf : ∀ t ∈ s, twf t) (hml : m ≤ 9223372036854775807) (hnl : n ≤ 9223372036854775807) :
    Calls Tryd.prog 22 #[.slice S m d, .agg #[.int .i64 a, .int .i64 b, .slice A n c]] w fun e w' => e = .returned (.bool (reps s ⟨a, b, cs⟩)) ∧ Below w.heap.size w w' := by
  obtain ⟨W1, hW1⟩ : ∃ W1, W1 = w.alloc (.cells #[.int .i64 a, .int .i64 b, .slice A n c] 47) := ⟨_, rfl⟩
  have hz1 : W1.heap.size = w.heap.size + 1 := by rw [hW1]; simp
  have hb1 : Below w.heap.size w W1 := by rw [hW1]; exact (Below.refl _ _).alloc (Nat.le_refl _) _
  have HS := Lib.hid (hS.keep hb1 hb1.size)
  have HP := Lib.hid (hP.keep hb1 hb1.size)
  have HM := Lib.hid hm
  have HN := Lib.hid hn
  have HW := Lib.hid hwf
  clear hS hP hm hn hwf
  subst hW1
  cases hv : vld s
  · have HV := Lib.hid hv
    have HK : Hid (reps s ⟨a, b, cs⟩ = false) := by show _ = _; simp [reps, hv]
    clear hv
    go_enter Tryd.func22, Tryd.ntmps22
    go_wp2_with (go_at_call 27; refine (valid_pat s false S m d _ HM.out HV.out HS.out HW.out hml).mono ?_; rintro e w2 ⟨rfl, hb2⟩)
    go_ret
    exact ⟨ret_bool HK.out.symm, hb1.trans (hb2.mono (by omega))⟩
  have HV := Lib.hid hv
  cases hf : form ⟨a, b, cs⟩
  · have HF := Lib.hid hf
    have HK : Hid (reps s ⟨a, b, cs⟩ = false) := by show _ = _; simp [reps, hf]
    clear hv hf
    go_enter Tryd.func22, Tryd.ntmps22
    go_wp2_with (first | (go_at_call 27; refine (valid_pat s true S m d _ HM.out HV.out HS.out HW.out hml).mono ?_; rintro e w2 ⟨rfl, hb2⟩; obtain ⟨hc2, hf2⟩ := bcell hb2) | (go_at_call 40; refine (hasForm_pat a b cs false A n c _ HN.out HF.out hnl).mono ?_; rintro e w3 ⟨rfl, hb3⟩))
    go_ret
    exact ⟨ret_bool HK.out.symm, hb1.trans ((hb2.mono (by omega)).trans (hb3.mono (by have := hb2.size; omega)))⟩
  have HF := Lib.hid hf
  cases hr : refers s ⟨a, b, cs⟩
  · have HR := Lib.hid hr
    have HK : Hid (reps s ⟨a, b, cs⟩ = false) := by show _ = _; simp [reps, hr]
    clear hv hf hr
    go_enter Tryd.func22, Tryd.ntmps22
    go_wp2_with (first | (go_at_call 27; refine (valid_pat s true S m d _ HM.out HV.out HS.out HW.out hml).mono ?_; rintro e w2 ⟨rfl, hb2⟩; obtain ⟨hc2, hf2⟩ := bcell hb2; have hs2 := hb2.size; simp at hs2; have ht2 : w.heap.size < w2.heap.size := by omega) | (go_at_call 40; refine (hasForm_pat a b cs true A n c _ HN.out HF.out hnl).mono ?_; rintro e w3 ⟨rfl, hb3⟩; obtain ⟨hc3, hf3⟩ := bcell hb3; have hs3 := hb3.size; have ht3 : w.heap.size < w3.heap.size := by omega) | (go_at_call 41; refine (refers_pat s a b cs false A S m n c d _ HM.out HN.out HR.out (HP.out.keep (hb2.trans (hb3.mono hb2.size)) (hb2.trans (hb3.mono hb2.size)).size) hnl hml).mono ?_; rintro e w4 ⟨rfl, hb4⟩))
    go_ret
    exact ⟨ret_bool HK.out.symm, hb1.trans ((hb2.trans ((hb3.mono hb2.size).trans (hb4.mono (Nat.le_trans hb2.size hb3.size)))).mono (by omega))⟩
  · have HR := Lib.hid hr
    have HK : Hid (reps s ⟨a, b, cs⟩ = agrs s ⟨a, b, cs⟩ a b) := by show _ = _; simp [reps, hv, hf, hr]
    obtain ⟨a', b', e1, e2, h1, h2, h3, h4⟩ := form_nat hf
    have e1' : a = a' := e1
    have e2' : b = b' := e2
    have h5 : a' ≤ 40000 := by have := Nat.le_mul_of_pos_right a' (show 0 < b' by omega); omega
    have h6 : b' ≤ 40000 := by have := Nat.le_mul_of_pos_left b' (show 0 < a' by omega); omega
    clear hv hf hr e1 e2 h3 h4
    subst e1'
    subst e2'
    go_enter Tryd.func22, Tryd.ntmps22
    go_wp2_with (first | (go_at_call 27; refine (valid_pat s true S m d _ HM.out HV.out HS.out HW.out hml).mono ?_; rintro e w2 ⟨rfl, hb2⟩; obtain ⟨hc2, hf2⟩ := bcell hb2; have hs2 := hb2.size; simp at hs2; have ht2 : w.heap.size < w2.heap.size := by omega) | (go_at_call 40; refine (hasForm_pat a' b' cs true A n c _ HN.out HF.out hnl).mono ?_; rintro e w3 ⟨rfl, hb3⟩; obtain ⟨hc3, hf3⟩ := bcell hb3; have hs3 := hb3.size; have ht3 : w.heap.size < w3.heap.size := by omega) | (go_at_call 41; refine (refers_pat s a' b' cs true A S m n c d _ HM.out HN.out HR.out (HP.out.keep (hb2.trans (hb3.mono hb2.size)) (hb2.trans (hb3.mono hb2.size)).size) hnl hml).mono ?_; rintro e w4 ⟨rfl, hb4⟩; obtain ⟨hc4, hf4⟩ := bcell hb4; have hs4 := hb4.size; have ht4 : w.heap.size < w4.heap.size := by omega) | (go_at_call 42; refine (agrees_pat a' b' cs s _ _ _ A S m n c d _ HF.out HR.out HM.out HN.out rfl (HS.out.keep (hb2.trans ((hb3.mono hb2.size).trans (hb4.mono (Nat.le_trans hb2.size hb3.size)))) (Nat.le_trans hb2.size (Nat.le_trans hb3.size hb4.size))) (HP.out.keep (hb2.trans ((hb3.mono hb2.size).trans (hb4.mono (Nat.le_trans hb2.size hb3.size)))) (Nat.le_trans hb2.size (Nat.le_trans hb3.size hb4.size))) hml).mono ?_; rintro e w5 ⟨rfl, hb5⟩))
    go_ret
    exact ⟨ret_bool HK.out.symm, hb1.trans ((hb2.trans ((hb3.mono hb2.size).trans ((hb4.mono (Nat.le_trans hb2.size hb3.size)).trans (hb5.mono (Nat.le_trans hb2.size (Nat.le_trans hb3.size hb4.size)))))).mono (by omega))⟩
end
section
open Go.RowKit Go.Maps Go.BigFrame
set_option linter.unusedVariables false

theorem tile_fields : Tryd.prog.underlying 53 = some (.struct (Tryd.prog.fieldsOf 53)) := by simp [Program.fieldsOf, Tryd.underlying53]
theorem tile_stood : Tryd.prog.stoodInHeld 53 = false := by kernel_rfl
theorem tile_eqlb (t u : Tl) (w : World) : (binOp .eql 53 (.agg #[.int .i64 t.n, .int .i64 t.e, .int .i64 t.s, .int .i64 t.w]) (.agg #[.int .i64 u.n, .int .i64 u.e, .int .i64 u.s, .int .i64 u.w])).run Tryd.prog w = .ok (.bool (t.n == u.n && (t.e == u.e && (t.s == u.s && t.w == u.w)))) w := by
  simp only [binOp]
  simp only [Op.equal, Op.maxDepth]
  have h := fun d => run_equalIn_struct (P := Tryd.prog) w d 53 #[.int .i64 t.n, .int .i64 t.e, .int .i64 t.s, .int .i64 t.w] #[.int .i64 u.n, .int .i64 u.e, .int .i64 u.s, .int .i64 u.w] tile_fields tile_stood
  cases h0 : (t.n == u.n) <;> cases h1 : (t.e == u.e) <;> cases h2 : (t.s == u.s) <;> cases h3 : (t.w == u.w) <;>
    simp [h 9999, go_sem, Program.fieldsOf, Tryd.underlying53, Tryd.underlying3, h0, h1, h2, h3]
end
section
open Go.RowKit Go.Maps Go.BigFrame
set_option linter.unusedVariables false

theorem tile_eql (t u : Tl) (w : World) (r : Bool) (h : decide (t = u) = r) : (binOp .eql 53 (.agg #[.int .i64 t.n, .int .i64 t.e, .int .i64 t.s, .int .i64 t.w]) (.agg #[.int .i64 u.n, .int .i64 u.e, .int .i64 u.s, .int .i64 u.w])).run Tryd.prog w = .ok (.bool r) w := by
  rw [tile_eqlb, ← h]
  congr 2
  obtain ⟨a, b, c, d⟩ := t
  obtain ⟨a', b', c', d'⟩ := u
  rw [Bool.eq_iff_iff]
  simp
def ofs (cols rows : Int) (s : List Tl) (p : Pt) : Bool := vld s && (form p && (refers s p && agrs s p cols rows))
theorem ofs_fits (s : List Tl) (a b : Int) (cs : List Int) : ofs (a - 1) (b - 1) s ⟨a, b, cs⟩ = fits s ⟨a, b, cs⟩ := rfl
theorem ofs_reps (s : List Tl) (a b : Int) (cs : List Int) : ofs a b s ⟨a, b, cs⟩ = reps s ⟨a, b, cs⟩ := rfl
theorem ofs_noform {cols rows : Int} {s : List Tl} {p : Pt} (h : form p = false) : ofs cols rows s p = false := by simp [ofs, h]
theorem ofs_novld {cols rows : Int} {s : List Tl} {p : Pt} (h : vld s = false) : ofs cols rows s p = false := by simp [ofs, h]
theorem ofs_norefers {cols rows : Int} {s : List Tl} {p : Pt} (h : refers s p = false) : ofs cols rows s p = false := by simp [ofs, h]
theorem ofs_noagrs {cols rows : Int} {s : List Tl} {p : Pt} (h : agrs s p cols rows = false) : ofs cols rows s p = false := by simp [ofs, h]
theorem noform {a b : Int} {cs : List Int} (h : ¬ (1 ≤ a ∧ 1 ≤ b ∧ a * b ≤ 40000 ∧ (cs.length : Int) = a * b)) : form ⟨a, b, cs⟩ = false := by
  rw [Bool.eq_false_iff]; intro hf; exact h (form_iff.1 hf)
/-- no tile before j is t -/
def noneIs (s : List Tl) (t : Tl) (j : Nat) : Prop := ∀ i, i < j → i < s.length → s.getD i ⟨0, 0, 0, 0⟩ ≠ t
theorem noneIs_succ {s : List Tl} {t : Tl} {j : Nat} (h : noneIs s t j) (hn : s.getD j ⟨0, 0, 0, 0⟩ ≠ t) : noneIs s t (j + 1) := fun i hi hl => by
  by_cases e : i = j
  · subst e; exact hn
  · exact h i (by omega) hl
theorem noneIs_take {s : List Tl} {t : Tl} {k : Nat} (h : noneIs s t k) : t ∉ s.take k := fun hm => by
  obtain ⟨i, hi, e⟩ := List.mem_take_iff_getElem.1 hm
  refine h i (by omega) (by omega) ?_
  rw [List.getD_eq_getElem?_getD, List.getElem?_eq_getElem (by omega)]
  exact e
theorem mem_take_of {s : List Tl} {t : Tl} {j k : Nat} (hj : j < k) (hk : k ≤ s.length) (e : s.getD j ⟨0, 0, 0, 0⟩ = t) : t ∈ s.take k := by
  refine List.mem_take_iff_getElem.2 ⟨j, by omega, ?_⟩
  rw [List.getD_eq_getElem?_getD, List.getElem?_eq_getElem (by omega)] at e
  exact e
/-- the first k cells are indices of tiles -/
def refK (m : Nat) (cs : List Int) (k : Nat) : Prop := (cs.take k).all (isIdx m) = true
end
end Go.Proofs.YtgadfmknjpanpaaDoor
