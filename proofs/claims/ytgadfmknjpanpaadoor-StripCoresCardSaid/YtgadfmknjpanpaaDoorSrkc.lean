/-
  'groutworklaw04.StripCores' returns true for every input, and each argument reads afterwards as it read before. Conditions: the listed package-level variables hold what the program's text lays (the card ties them).
-/
import Derived.Test.YtgadfmknjpanpaaDoorSrk
import Derived.Test.YtgadfmknjpanpaaDoorFr
import Derived.Test.YtgadfmknjpanpaaDoorCards
import Derived.Test.YtgadfmknjpanpaaDoorTie
import Derived.SevenTiedAt
namespace Go.Proofs.YtgadfmknjpanpaaDoor
open Go.ChangeShapes Go.WideShapes Go.ChangeAt Go.RowKit
set_option linter.unusedVariables false

set_option maxRecDepth 100000 in
theorem stk_contract (H : Type) (enc : TypeId × Value → H) (W : World) (base : Nat) (args : Array Value) (ds gs : List (DataW H)) (before : List MemPlace)
    (hval0 : ∀ (j : Nat) t v, Tryd.f3.params[j]? = some t → args[j]? = some v → Value.okWide Tryd.prog W .any base t v)
    (hW : DataW.Whole enc Tryd.prog Tryd.f3.params.toList Rows.stripCoresSpec.vars false W args.toList ds gs before) (hE : Env W) :
    Calls Tryd.prog 3 args W fun e W' => ∃ v, e = .returned v ∧ Rows.stripCoresSpec.post enc Tryd.prog Tryd.f3 false true false false W args v W' := by
  have hval := hval0
  have hW' := hW
  obtain ⟨p, q, hA0, hV, rfl, hfz, hnd⟩ := hW
  have hA : DataW.TrodAll enc Tryd.prog W 0 (fun _ => true) true Tryd.f3.params.toList args.toList ds p := hA0
  rw [Tryd.params3] at hA hval
  obtain ⟨v0, vs0, d0, ds0, p0, q0, hargs, rfl, rfl, h0, r0⟩ := trodAll_cons hA
  obtain ⟨rfl, rfl, rfl⟩ := trodAll_nil r0
  obtain rfl : args = #[v0] := by cases args; simp_all
  obtain ⟨rfl, rfl⟩ := trodVars_none hV
  have k0 := h0
  have lt0 : ∀ x ∈ p0, x.block < W.heap.size := by obtain ⟨m, hm⟩ := k0; exact DataW.trod_lt m _ _ _ hm
  obtain ⟨S0, len0, cap0, rfl⟩ := okWide_slice Tryd.underlying22 (hval 0 22 v0 rfl rfl)
  obtain ⟨fuel0, hf0⟩ := h0
  obtain ⟨hlc0, hcm0⟩ := open_cap hf0
  obtain ⟨s0, hm0, hml0, hwf0, hS0⟩ := open_set hf0
  clear hA0 hval0
  refine (stcores_any s0 S0 len0 cap0 W hE hm0 hlc0 (by simp only [maxLen] at hcm0; omega) hS0 hwf0 (by simp only [maxLen] at hcm0; omega)).mono fun e W' ⟨he, bel⟩ => ?_
  subst he
  exact ⟨_, rfl, _, _, _, [], _, [], hW', trodAll_mk1 (shut_bool Tryd.underlying4 _), (trodAll_cons_mk (Below.trod tile_laidOut (by kernel_rfl) (of_decide_eq_true (by kernel_rfl)) k0 bel lt0) trodAll_mk0), rfl, bel.frame _, fun h => by cases h⟩

noncomputable def stkW (os : Os) : World := World.laidAll Tryd.prog os laidL
def stkArgs : Array Value := #[.slice none 0 0]
theorem stk_met (os : Os) : laidMetH Tryd.prog laidL ((stkW os).forCall (fun _ _ => 0) ⟨#[], stkArgs, []⟩).memory := by
  rw [MakeChecks.laidMetH_plain _ _ _ (by kernel_rfl)]
  exact laidMet_laidAll _ (by kernel_rfl) (by kernel_rfl)
theorem stk_reads (os : Os) {H : Type} (enc : TypeId × Value → H) : DataW.whole enc Tryd.prog ((stkW os).forCall (fun _ _ => 0) ⟨#[], stkArgs, []⟩).memory Tryd.f3.params.toList Rows.stripCoresSpec.vars false stkArgs.toList 8 = some ([.nil], [], []) := by kernel_rfl

set_option maxRecDepth 100000 in
theorem stk_lifted (os : Os) (started : os.Started) (H : Type) (enc : TypeId × Value → H) (F : Stop.Interp) :
    ReturnsInHanded {} Tryd.checked os 3 .any ((OpenSpec.ofChange Rows.stripCoresSpec).preRow enc Tryd.prog Tryd.f3 Rows.stripCoresRow.domain false Rows.stripCoresRow.laid) (((OpenSpec.ofChange Rows.stripCoresSpec).at F).post enc Tryd.prog Tryd.f3 false true false false) := by
  refine returnsInHanded_of_row (C := Tryd.checked) (s := OpenSpec.ofChange Rows.stripCoresSpec) own_none started (by kernel_rfl) Tryd.func3
    (witness_row_at (enc := enc) (C := Tryd.checked) false (stkW os) stkArgs (World.laidAll_os _ _ _) (by kernel_rfl) (by kernel_rfl) (by kernel_rfl)
      (OpenSpec.preRow_of_cond 8 (stk_reads os enc) (by kernel_rfl) (fun k hk => by cases hk) (by kernel_rfl) (stk_met os))) ?_
  intro W base args ds gs before hval hW _ _ _ hL hsh _
  exact stk_contract H enc W base args ds gs before hval hW (env_of hL hsh)

theorem stripCores_said : Rows.StripCoresSaid :=
  OpenClaim.holds_of_cond 3 Tryd.f3 rfl rfl rfl rfl rfl rfl rfl ⟨rfl, rfl, rfl, rfl, rfl⟩ rfl rfl rfl rfl rfl (by kernel_rfl) Tryd.func3 (by kernel_rfl)
    (of_decide_eq_true (by kernel_rfl)) (by unfold Func.isWrapper; first | (rw [if_pos (by decide +kernel)]; kernel_rfl) | (rw [if_neg (by decide +kernel)]; exact ⟨rfl, rfl⟩))
    (fun os started H enc _ F => by rw [OpenClaim.pre_eq_preRow]; exact stk_lifted os started H enc F)
theorem stk_plain (f : FuncId) (fn : Func) (hf : Tryd.pinned.checked.prog.funcNamed "groutwork/groutworklaw04.StripCores" = some f) (hfn : Tryd.pinned.checked.prog.funcs[f]? = some fn) :
    true = Tryd.pinned.checked.prog.looks [] ∧ ∀ (j : Nat) t, fn.params[j]? = some t → Tryd.pinned.checked.prog.wantsStandIn t = false := by
  obtain rfl : f = 3 := Option.some.inj ((show Tryd.prog.funcNamed "groutwork/groutworklaw04.StripCores" = some 3 by kernel_rfl).symm.trans hf) |>.symm
  obtain rfl : fn = Tryd.f3 := (Option.some.inj (Tryd.func3.symm.trans hfn)).symm
  refine ⟨by kernel_rfl, fun j t ht => ?_⟩
  rw [Tryd.params3] at ht
  have hm : t ∈ [22] := by simpa using Array.mem_of_getElem? ht
  have hall : ([22].all fun u => !Tryd.prog.wantsStandIn u) = true := by kernel_rfl
  exact (show Tryd.prog.wantsStandIn t = false by simpa using List.all_eq_true.1 hall t hm)
theorem stripCores_proved : Rows.StripCoresCardSaid :=
  Claim7.holds_tied_plain_at .later [] _ _ _ _ stripCores_said (fun _ h => by cases h) (by kernel_rfl) (fun _ h => by cases h) stripCores_row_tie rfl ⟨rfl, rfl⟩ (by kernel_rfl) rfl stk_plain (by kernel_rfl)
#print axioms stripCores_proved
end Go.Proofs.YtgadfmknjpanpaaDoor
