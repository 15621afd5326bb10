/-
  'groutworklaw04.StripPaths' returns true for every input, and each argument reads afterwards as it read before. Conditions: the listed package-level variables hold what the program's text lays (the card ties them).
-/
import Derived.Test.YtgadfmknjpanpaaDoorSpw
import Derived.Test.YtgadfmknjpanpaaDoorFr
import Derived.Test.YtgadfmknjpanpaaDoorCards
import Derived.Test.YtgadfmknjpanpaaDoorTie
import Derived.SevenTiedAt
namespace Go.Proofs.YtgadfmknjpanpaaDoor
open Go.ChangeShapes Go.WideShapes Go.ChangeAt Go.RowKit
set_option linter.unusedVariables false

set_option maxRecDepth 100000 in
theorem stp_contract (H : Type) (enc : TypeId × Value → H) (W : World) (base : Nat) (args : Array Value) (ds gs : List (DataW H)) (before : List MemPlace)
    (hval0 : ∀ (j : Nat) t v, Tryd.f5.params[j]? = some t → args[j]? = some v → Value.okWide Tryd.prog W .any base t v)
    (hW : DataW.Whole enc Tryd.prog Tryd.f5.params.toList Rows.stripPathsSpec.vars false W args.toList ds gs before) (hE : Env W) :
    Calls Tryd.prog 5 args W fun e W' => ∃ v, e = .returned v ∧ Rows.stripPathsSpec.post enc Tryd.prog Tryd.f5 false true false false W args v W' := by
  have hval := hval0
  have hW' := hW
  obtain ⟨p, q, hA0, hV, rfl, hfz, hnd⟩ := hW
  have hA : DataW.TrodAll enc Tryd.prog W 0 (fun _ => true) true Tryd.f5.params.toList args.toList ds p := hA0
  rw [Tryd.params5] at hA hval
  obtain ⟨v0, vs0, d0, ds0, p0, q0, hargs, rfl, rfl, h0, r0⟩ := trodAll_cons hA
  obtain ⟨v1, vs1, d1, ds1, p1, q1, rfl, rfl, rfl, h1, r1⟩ := trodAll_cons r0
  obtain ⟨v2, vs2, d2, ds2, p2, q2, rfl, rfl, rfl, h2, r2⟩ := trodAll_cons r1
  obtain ⟨v3, vs3, d3, ds3, p3, q3, rfl, rfl, rfl, h3, r3⟩ := trodAll_cons r2
  obtain ⟨rfl, rfl, rfl⟩ := trodAll_nil r3
  obtain rfl : args = #[v0, v1, v2, v3] := by cases args; simp_all
  obtain ⟨rfl, rfl⟩ := trodVars_none hV
  have k0 := h0
  have k1 := h1
  have k2 := h2
  have k3 := h3
  have lt0 : ∀ x ∈ p0, x.block < W.heap.size := by obtain ⟨m, hm⟩ := k0; exact DataW.trod_lt m _ _ _ hm
  have lt1 : ∀ x ∈ p1, x.block < W.heap.size := by obtain ⟨m, hm⟩ := k1; exact DataW.trod_lt m _ _ _ hm
  have lt2 : ∀ x ∈ p2, x.block < W.heap.size := by obtain ⟨m, hm⟩ := k2; exact DataW.trod_lt m _ _ _ hm
  have lt3 : ∀ x ∈ p3, x.block < W.heap.size := by obtain ⟨m, hm⟩ := k3; exact DataW.trod_lt m _ _ _ hm
  obtain ⟨S0, len0, cap0, rfl⟩ := okWide_slice Tryd.underlying22 (hval 0 22 v0 rfl rfl)
  obtain ⟨fuel0, hf0⟩ := h0
  obtain ⟨hlc0, hcm0⟩ := open_cap hf0
  obtain ⟨s0, hm0, hml0, hwf0, hS0⟩ := open_set hf0
  obtain ⟨z1, rfl⟩ := okWide_int Tryd.underlying3 (hval 1 3 v1 rfl rfl)
  obtain ⟨fuel1, hf1⟩ := h1
  obtain ⟨z1', ez1, _, wz1⟩ := DataW.trod_int Tryd.underlying3 hf1
  obtain rfl : z1 = z1' := by simpa [Value.cells] using ez1
  unfold Lit.wf at wz1
  rw [Bool.and_eq_true] at wz1
  obtain ⟨hz1, hz1'⟩ : _ ∧ _ := ⟨of_decide_eq_true wz1.1, of_decide_eq_true wz1.2⟩
  obtain ⟨z2, rfl⟩ := okWide_int Tryd.underlying3 (hval 2 3 v2 rfl rfl)
  obtain ⟨fuel2, hf2⟩ := h2
  obtain ⟨z2', ez2, _, wz2⟩ := DataW.trod_int Tryd.underlying3 hf2
  obtain rfl : z2 = z2' := by simpa [Value.cells] using ez2
  unfold Lit.wf at wz2
  rw [Bool.and_eq_true] at wz2
  obtain ⟨hz2, hz2'⟩ : _ ∧ _ := ⟨of_decide_eq_true wz2.1, of_decide_eq_true wz2.2⟩
  obtain ⟨z3, rfl⟩ := okWide_int Tryd.underlying3 (hval 3 3 v3 rfl rfl)
  obtain ⟨fuel3, hf3⟩ := h3
  obtain ⟨z3', ez3, _, wz3⟩ := DataW.trod_int Tryd.underlying3 hf3
  obtain rfl : z3 = z3' := by simpa [Value.cells] using ez3
  unfold Lit.wf at wz3
  rw [Bool.and_eq_true] at wz3
  obtain ⟨hz3, hz3'⟩ : _ ∧ _ := ⟨of_decide_eq_true wz3.1, of_decide_eq_true wz3.2⟩
  clear hA0 hval0
  refine (stpaths_any s0 S0 len0 cap0 z1 z2 z3 W hE hm0 hlc0 (by simp only [maxLen] at hcm0; omega) hS0 hwf0 (by simp only [maxLen] at hcm0; omega)).mono fun e W' ⟨he, bel⟩ => ?_
  subst he
  exact ⟨_, rfl, _, _, _, [], _, [], hW', trodAll_mk1 (shut_bool Tryd.underlying4 _), (trodAll_cons_mk (Below.trod tile_laidOut (by kernel_rfl) (of_decide_eq_true (by kernel_rfl)) k0 bel lt0) (trodAll_cons_mk (Below.trod tile_laidOut (by kernel_rfl) (of_decide_eq_true (by kernel_rfl)) k1 bel lt1) (trodAll_cons_mk (Below.trod tile_laidOut (by kernel_rfl) (of_decide_eq_true (by kernel_rfl)) k2 bel lt2) (trodAll_cons_mk (Below.trod tile_laidOut (by kernel_rfl) (of_decide_eq_true (by kernel_rfl)) k3 bel lt3) trodAll_mk0)))), rfl, bel.frame _, fun h => by cases h⟩

noncomputable def stpW (os : Os) : World := World.laidAll Tryd.prog os laidL
def stpArgs : Array Value := #[.slice none 0 0, .int .i64 0, .int .i64 0, .int .i64 0]
theorem stp_met (os : Os) : laidMetH Tryd.prog laidL ((stpW os).forCall (fun _ _ => 0) ⟨#[], stpArgs, []⟩).memory := by
  rw [MakeChecks.laidMetH_plain _ _ _ (by kernel_rfl)]
  exact laidMet_laidAll _ (by kernel_rfl) (by kernel_rfl)
theorem stp_reads (os : Os) {H : Type} (enc : TypeId × Value → H) : DataW.whole enc Tryd.prog ((stpW os).forCall (fun _ _ => 0) ⟨#[], stpArgs, []⟩).memory Tryd.f5.params.toList Rows.stripPathsSpec.vars false stpArgs.toList 8 = some ([.nil, .lit (.int .i64 0), .lit (.int .i64 0), .lit (.int .i64 0)], [], []) := by kernel_rfl

set_option maxRecDepth 100000 in
theorem stp_lifted (os : Os) (started : os.Started) (H : Type) (enc : TypeId × Value → H) (F : Stop.Interp) :
    ReturnsInHanded {} Tryd.checked os 5 .any ((OpenSpec.ofChange Rows.stripPathsSpec).preRow enc Tryd.prog Tryd.f5 Rows.stripPathsRow.domain false Rows.stripPathsRow.laid) (((OpenSpec.ofChange Rows.stripPathsSpec).at F).post enc Tryd.prog Tryd.f5 false true false false) := by
  refine returnsInHanded_of_row (C := Tryd.checked) (s := OpenSpec.ofChange Rows.stripPathsSpec) own_none started (by kernel_rfl) Tryd.func5
    (witness_row_at (enc := enc) (C := Tryd.checked) false (stpW os) stpArgs (World.laidAll_os _ _ _) (by kernel_rfl) (by kernel_rfl) (by kernel_rfl)
      (OpenSpec.preRow_of_cond 8 (stp_reads os enc) (by kernel_rfl) (fun k hk => by cases hk) (by kernel_rfl) (stp_met os))) ?_
  intro W base args ds gs before hval hW _ _ _ hL hsh _
  exact stp_contract H enc W base args ds gs before hval hW (env_of hL hsh)

theorem stripPaths_said : Rows.StripPathsSaid :=
  OpenClaim.holds_of_cond 5 Tryd.f5 rfl rfl rfl rfl rfl rfl rfl ⟨rfl, rfl, rfl, rfl, rfl⟩ rfl rfl rfl rfl rfl (by kernel_rfl) Tryd.func5 (by kernel_rfl)
    (of_decide_eq_true (by kernel_rfl)) (by unfold Func.isWrapper; first | (rw [if_pos (by decide +kernel)]; kernel_rfl) | (rw [if_neg (by decide +kernel)]; exact ⟨rfl, rfl⟩))
    (fun os started H enc _ F => by rw [OpenClaim.pre_eq_preRow]; exact stp_lifted os started H enc F)
theorem stp_plain (f : FuncId) (fn : Func) (hf : Tryd.pinned.checked.prog.funcNamed "groutwork/groutworklaw04.StripPaths" = some f) (hfn : Tryd.pinned.checked.prog.funcs[f]? = some fn) :
    true = Tryd.pinned.checked.prog.looks [] ∧ ∀ (j : Nat) t, fn.params[j]? = some t → Tryd.pinned.checked.prog.wantsStandIn t = false := by
  obtain rfl : f = 5 := Option.some.inj ((show Tryd.prog.funcNamed "groutwork/groutworklaw04.StripPaths" = some 5 by kernel_rfl).symm.trans hf) |>.symm
  obtain rfl : fn = Tryd.f5 := (Option.some.inj (Tryd.func5.symm.trans hfn)).symm
  refine ⟨by kernel_rfl, fun j t ht => ?_⟩
  rw [Tryd.params5] at ht
  have hm : t ∈ [22, 3, 3, 3] := by simpa using Array.mem_of_getElem? ht
  have hall : ([22, 3, 3, 3].all fun u => !Tryd.prog.wantsStandIn u) = true := by kernel_rfl
  exact (show Tryd.prog.wantsStandIn t = false by simpa using List.all_eq_true.1 hall t hm)
theorem stripPaths_proved : Rows.StripPathsCardSaid :=
  Claim7.holds_tied_plain_at .later [] _ _ _ _ stripPaths_said (fun _ h => by cases h) (by kernel_rfl) (fun _ h => by cases h) stripPaths_row_tie rfl ⟨rfl, rfl⟩ (by kernel_rfl) rfl stp_plain (by kernel_rfl)
#print axioms stripPaths_proved
end Go.Proofs.YtgadfmknjpanpaaDoor
