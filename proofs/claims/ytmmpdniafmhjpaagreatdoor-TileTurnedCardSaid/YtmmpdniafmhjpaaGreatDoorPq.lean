/-
  Sets and patterns that are changed step by step: contracts with the lengths named.
-/
import Derived.Test.YtmmpdniafmhjpaaGreatDoorPo
import Derived.Test.YtmmpdniafmhjpaaGreatDoorRd
import Derived.Test.YtmmpdniafmhjpaaGreatDoorAw
namespace Go.Proofs.YtmmpdniafmhjpaaGreatDoor
open Go.RowKit Go.Maps Go.BigFrame
set_option linter.unusedVariables false
set_option maxRecDepth 100000

theorem twf_mir {t : Tl} (h : twf t) : twf (mirT t) := ⟨h.1, h.2.2.2, h.2.2.1, h.2.1⟩
theorem twf_up {t : Tl} (h : twf t) : twf (upT t) := ⟨h.2.2.1, h.2.1, h.1, h.2.2.2⟩
theorem twf_tur {t : Tl} (h : twf t) : twf (turT t) := ⟨h.2.2.2, h.1, h.2.1, h.2.2.1⟩
theorem twf_map {f : Tl → Tl} (hf : ∀ t, twf t → twf (f t)) {s : List Tl} (h : ∀ t ∈ s, twf t) : ∀ t ∈ s.map f, twf t := fun t ht => by
  obtain ⟨u, hu, rfl⟩ := List.mem_map.1 ht
  exact hf u (h u hu)
def IsSetM (m : Nat) (T : List Tl) (W : World) (e : Ending) (w' : World) : Prop := Below W.heap.size W w' ∧ ∃ A c, e = .returned (.tuple #[.slice A m c, .int .i64 0]) ∧ SetNew w' W.heap.size A T
theorem IsSet.m {m : Nat} {T : List Tl} {W : World} {e : Ending} {w' : World} (hm : m = T.length) (h : IsSet T W e w') : IsSetM m T W e w' := by
  subst hm
  obtain ⟨hb, A, c, he, _, _, hs⟩ := h
  exact ⟨hb, A, c, he, hs⟩
def IsPatM (a b n : Nat) (cs : List Int) (W : World) (e : Ending) (w' : World) : Prop := Below W.heap.size W w' ∧ ∃ B c, e = .returned (.tuple #[.agg #[.int .i64 (a : Int), .int .i64 (b : Int), .slice B n c], .int .i64 0]) ∧ IntsNew w' W.heap.size B cs
theorem IsPat.m {a b n : Nat} {q : Pt} {W : World} {e : Ending} {w' : World} (ha : q.w = a) (hb : q.h = b) (hn : n = q.c.length) (h : IsPat q W e w') : IsPatM a b n q.c W e w' := by
  subst hn
  obtain ⟨hb', B, c, he, hI⟩ := h
  exact ⟨hb', B, c, by rw [he, ha, hb], hI⟩

/-- what is kept of a set and a pattern of it, whatever changes -/
structure St (R : Bool) (m n : Nat) (s : List Tl) (a b : Nat) (cs : List Int) : Prop where
  hm : m = s.length
  hn : n = cs.length
  wf : ∀ t ∈ s, twf t
  fit : fits s ⟨a, b, cs⟩ = true
  rep : reps s ⟨a, b, cs⟩ = R
theorem St.vld {R : Bool} {m n : Nat} {s : List Tl} {a b : Nat} {cs : List Int} (h : St R m n s a b cs) : vld s = true := by
  have := h.fit
  simp only [fits, Bool.and_eq_true] at this
  exact this.1
theorem St.form {R : Bool} {m n : Nat} {s : List Tl} {a b : Nat} {cs : List Int} (h : St R m n s a b cs) : form ⟨a, b, cs⟩ = true := by
  have := h.fit
  simp only [fits, Bool.and_eq_true] at this
  exact this.2.1
theorem turP_is {a b : Nat} {cs : List Int} (hf : form ⟨a, b, cs⟩ = true) : turP ⟨a, b, cs⟩ = ⟨(b : Int), (a : Int), (turP ⟨a, b, cs⟩).c⟩ := by
  have h := turP_w hf
  generalize turP ⟨a, b, cs⟩ = q at h ⊢
  obtain ⟨w, h', c⟩ := q
  simp only at h
  rw [h.1, h.2]
theorem mirP_is {a b : Nat} {cs : List Int} (hf : form ⟨a, b, cs⟩ = true) : mirP ⟨a, b, cs⟩ = ⟨(a : Int), (b : Int), (mirP ⟨a, b, cs⟩).c⟩ := by
  have h := mirP_w hf
  generalize mirP ⟨a, b, cs⟩ = q at h ⊢
  obtain ⟨w, h', c⟩ := q
  simp only at h
  rw [h.1, h.2]
theorem upP_is {a b : Nat} {cs : List Int} (hf : form ⟨a, b, cs⟩ = true) : upP ⟨a, b, cs⟩ = ⟨(a : Int), (b : Int), (upP ⟨a, b, cs⟩).c⟩ := by
  have h := upP_w hf
  generalize upP ⟨a, b, cs⟩ = q at h ⊢
  obtain ⟨w, h', c⟩ := q
  simp only at h
  rw [h.1, h.2]
theorem St.tur {R : Bool} {m n : Nat} {s : List Tl} {a b : Nat} {cs : List Int} (h : St R m n s a b cs) : St R m n (s.map turT) b a (turP ⟨a, b, cs⟩).c :=
  ⟨by rw [List.length_map]; exact h.hm, by rw [(tur_goes h.form rfl rfl).len]; exact h.hn, twf_map (fun _ => twf_tur) h.wf, by rw [← turP_is h.form]; exact tur_keeps.fits _ _ h.fit, by rw [← turP_is h.form, tur_reps h.form]; exact h.rep⟩
theorem St.mir {R : Bool} {m n : Nat} {s : List Tl} {a b : Nat} {cs : List Int} (h : St R m n s a b cs) : St R m n (s.map mirT) a b (mirP ⟨a, b, cs⟩).c :=
  ⟨by rw [List.length_map]; exact h.hm, by rw [(mir_goes h.form rfl rfl).len]; exact h.hn, twf_map (fun _ => twf_mir) h.wf, by rw [← mirP_is h.form]; exact mir_keeps.fits _ _ h.fit, by rw [← mirP_is h.form, mir_reps h.form]; exact h.rep⟩
theorem St.up {R : Bool} {m n : Nat} {s : List Tl} {a b : Nat} {cs : List Int} (h : St R m n s a b cs) : St R m n (s.map upT) a b (upP ⟨a, b, cs⟩).c :=
  ⟨by rw [List.length_map]; exact h.hm, by rw [(up_goes h.form rfl rfl).len]; exact h.hn, twf_map (fun _ => twf_up) h.wf, by rw [← upP_is h.form]; exact up_keeps.fits _ _ h.fit, by rw [← upP_is h.form, up_reps h.form]; exact h.rep⟩

section
variable {R : Bool} {m n : Nat} {s : List Tl} {a b : Nat} {cs : List Int} {S A : Option Addr} {c d : Nat} {w : World}
theorem tur_m (h : St R m n s a b cs) (hS : SetIn w w.heap.size S s) : Calls Tryz.prog 21 #[.slice S m d] w (IsSetM m (s.map turT) w) :=
  (tur_ok s S m d w h.hm hS h.wf h.vld).mono fun _ _ hh => hh.m h.tur.hm
theorem mir_m (h : St R m n s a b cs) (hS : SetIn w w.heap.size S s) : Calls Tryz.prog 25 #[.slice S m d] w (IsSetM m (s.map mirT) w) :=
  (mir_ok s S m d w h.hm hS h.wf h.vld).mono fun _ _ hh => hh.m h.mir.hm
theorem up_m (h : St R m n s a b cs) (hS : SetIn w w.heap.size S s) : Calls Tryz.prog 26 #[.slice S m d] w (IsSetM m (s.map upT) w) :=
  (up_ok s S m d w h.hm hS h.wf h.vld).mono fun _ _ hh => hh.m h.up.hm
theorem turP_m (h : St R m n s a b cs) (hP : IntsIn w w.heap.size A cs) : Calls Tryz.prog 9 #[.agg #[.int .i64 (a : Int), .int .i64 (b : Int), .slice A n c]] w (IsPatM b a n (turP ⟨a, b, cs⟩).c w) :=
  (turP_ok a b cs A n c w h.form h.hn hP).mono fun _ _ hh => hh.m (turP_w h.form).1 (turP_w h.form).2 h.tur.hn
theorem mirP_m (h : St R m n s a b cs) (hP : IntsIn w w.heap.size A cs) : Calls Tryz.prog 7 #[.agg #[.int .i64 (a : Int), .int .i64 (b : Int), .slice A n c]] w (IsPatM a b n (mirP ⟨a, b, cs⟩).c w) :=
  (mirP_ok a b cs A n c w h.form h.hn hP).mono fun _ _ hh => hh.m (mirP_w h.form).1 (mirP_w h.form).2 h.mir.hn
theorem upP_m (h : St R m n s a b cs) (hP : IntsIn w w.heap.size A cs) : Calls Tryz.prog 8 #[.agg #[.int .i64 (a : Int), .int .i64 (b : Int), .slice A n c]] w (IsPatM a b n (upP ⟨a, b, cs⟩).c w) :=
  (upP_ok a b cs A n c w h.form h.hn hP).mono fun _ _ hh => hh.m (upP_w h.form).1 (upP_w h.form).2 h.up.hn
theorem fits_m (h : St R m n s a b cs) (hm9 : m ≤ 9223372036854775807) (hn9 : n ≤ 9223372036854775807) (hS : SetIn w w.heap.size S s) (hP : IntsIn w w.heap.size A cs) :
    Calls Tryz.prog 22 #[.slice S m d, .agg #[.int .i64 (a : Int), .int .i64 (b : Int), .slice A n c]] w fun e w' => e = .returned (.bool true) ∧ Below w.heap.size w w' := by
  have hh := fits_any a b cs s A S m n c d w h.hm h.hn hS hP h.wf hm9 hn9
  rw [h.fit] at hh
  exact hh
theorem reps_m (h : St R m n s a b cs) (hm9 : m ≤ 9223372036854775807) (hn9 : n ≤ 9223372036854775807) (hS : SetIn w w.heap.size S s) (hP : IntsIn w w.heap.size A cs) :
    Calls Tryz.prog 20 #[.slice S m d, .agg #[.int .i64 (a : Int), .int .i64 (b : Int), .slice A n c]] w fun e w' => e = .returned (.bool R) ∧ Below w.heap.size w w' := by
  have hh := repeats_any a b cs s A S m n c d w h.hm h.hn hS hP h.wf hm9 hn9
  rw [h.rep] at hh
  exact hh
end
end Go.Proofs.YtmmpdniafmhjpaaGreatDoor
