/-
  'groutworklaw04.StripRows' returns true for every input, and each argument reads afterwards as it read before. Conditions: the listed package-level variables hold what the program's text lays (the card ties them).
-/
import Derived.Test.YtgadfmknjpanpaaGreatDoorSrt
import Derived.Test.YtgadfmknjpanpaaGreatDoorFr
import Derived.Test.YtgadfmknjpanpaaGreatDoorCards
import Derived.Test.YtgadfmknjpanpaaGreatDoorTie
import Derived.SevenTiedAt
namespace Go.Proofs.YtgadfmknjpanpaaGreatDoor
open Go.ChangeShapes Go.WideShapes Go.ChangeAt Go.RowKit
set_option linter.unusedVariables false

set_option maxRecDepth 100000 in
theorem str_contract (H : Type) (enc : TypeId × Value → H) (W : World) (base : Nat) (args : Array Value) (ds gs : List (DataW H)) (before : List MemPlace)
    (hval0 : ∀ (j : Nat) t v, Tryz.f3.params[j]? = some t → args[j]? = some v → Value.okWide Tryz.prog W .any base t v)
    (hW : DataW.Whole enc Tryz.prog Tryz.f3.params.toList Rows.stripRowsSpec.vars false W args.toList ds gs before) (hE : Env W) :
    Calls Tryz.prog 3 args W fun e W' => ∃ v, e = .returned v ∧ Rows.stripRowsSpec.post enc Tryz.prog Tryz.f3 false true false false W args v W' := by
  have hval := hval0
  have hW' := hW
  obtain ⟨p, q, hA0, hV, rfl, hfz, hnd⟩ := hW
  have hA : DataW.TrodAll enc Tryz.prog W 0 (fun _ => true) true Tryz.f3.params.toList args.toList ds p := hA0
  rw [Tryz.params3] at hA hval
  obtain ⟨v0, vs0, d0, ds0, p0, q0, hargs, rfl, rfl, h0, r0⟩ := trodAll_cons hA
  obtain ⟨rfl, rfl, rfl⟩ := trodAll_nil r0
  obtain rfl : args = #[v0] := by cases args; simp_all
  obtain ⟨rfl, rfl⟩ := trodVars_none hV
  have k0 := h0
  have lt0 : ∀ x ∈ p0, x.block < W.heap.size := by obtain ⟨m, hm⟩ := k0; exact DataW.trod_lt m _ _ _ hm
  obtain ⟨S0, len0, cap0, rfl⟩ := okWide_slice Tryz.underlying22 (hval 0 22 v0 rfl rfl)
  obtain ⟨fuel0, hf0⟩ := h0
  obtain ⟨hlc0, hcm0⟩ := open_cap hf0
  obtain ⟨s0, hm0, hml0, hwf0, hS0⟩ := open_set hf0
  clear hA0 hval0
  refine (strows_any s0 S0 len0 cap0 W hE hm0 hlc0 (by simp only [maxLen] at hcm0; omega) hS0 hwf0 (by simp only [maxLen] at hcm0; omega)).mono fun e W' ⟨he, bel⟩ => ?_
  subst he
  exact ⟨_, rfl, _, _, _, [], _, [], hW', trodAll_mk1 (shut_bool Tryz.underlying4 _), (trodAll_cons_mk (Below.trod tile_laidOut (by kernel_rfl) (of_decide_eq_true (by kernel_rfl)) k0 bel lt0) trodAll_mk0), rfl, bel.frame _, fun h => by cases h⟩

noncomputable def strW (os : Os) : World := World.laidAll Tryz.prog os laidL
def strArgs : Array Value := #[.slice none 0 0]
theorem str_met (os : Os) : laidMetH Tryz.prog laidL ((strW os).forCall (fun _ _ => 0) ⟨#[], strArgs, []⟩).memory := by
  rw [MakeChecks.laidMetH_plain _ _ _ (by kernel_rfl)]
  exact laidMet_laidAll _ (by kernel_rfl) (by kernel_rfl)
theorem str_reads (os : Os) {H : Type} (enc : TypeId × Value → H) : DataW.whole enc Tryz.prog ((strW os).forCall (fun _ _ => 0) ⟨#[], strArgs, []⟩).memory Tryz.f3.params.toList Rows.stripRowsSpec.vars false strArgs.toList 8 = some ([.nil], [], []) := by kernel_rfl

set_option maxRecDepth 100000 in
theorem str_lifted (os : Os) (started : os.Started) (H : Type) (enc : TypeId × Value → H) (F : Stop.Interp) :
    ReturnsInHanded {} Tryz.checked os 3 .any ((OpenSpec.ofChange Rows.stripRowsSpec).preRow enc Tryz.prog Tryz.f3 Rows.stripRowsRow.domain false Rows.stripRowsRow.laid) (((OpenSpec.ofChange Rows.stripRowsSpec).at F).post enc Tryz.prog Tryz.f3 false true false false) := by
  refine returnsInHanded_of_row (C := Tryz.checked) (s := OpenSpec.ofChange Rows.stripRowsSpec) own_none started (by kernel_rfl) Tryz.func3
    (witness_row_at (enc := enc) (C := Tryz.checked) false (strW os) strArgs (World.laidAll_os _ _ _) (by kernel_rfl) (by kernel_rfl) (by kernel_rfl)
      (OpenSpec.preRow_of_cond 8 (str_reads os enc) (by kernel_rfl) (fun k hk => by cases hk) (by kernel_rfl) (str_met os))) ?_
  intro W base args ds gs before hval hW _ _ _ hL hsh _
  exact str_contract H enc W base args ds gs before hval hW (env_of hL hsh)

theorem stripRows_said : Rows.StripRowsSaid :=
  OpenClaim.holds_of_cond 3 Tryz.f3 rfl rfl rfl rfl rfl rfl rfl ⟨rfl, rfl, rfl, rfl, rfl⟩ rfl rfl rfl rfl rfl (by kernel_rfl) Tryz.func3 (by kernel_rfl)
    (of_decide_eq_true (by kernel_rfl)) (by unfold Func.isWrapper; first | (rw [if_pos (by decide +kernel)]; kernel_rfl) | (rw [if_neg (by decide +kernel)]; exact ⟨rfl, rfl⟩))
    (fun os started H enc _ F => by rw [OpenClaim.pre_eq_preRow]; exact str_lifted os started H enc F)
theorem str_plain (f : FuncId) (fn : Func) (hf : Tryz.pinned.checked.prog.funcNamed "groutwork/groutworklaw04.StripRows" = some f) (hfn : Tryz.pinned.checked.prog.funcs[f]? = some fn) :
    true = Tryz.pinned.checked.prog.looks [] ∧ ∀ (j : Nat) t, fn.params[j]? = some t → Tryz.pinned.checked.prog.wantsStandIn t = false := by
  obtain rfl : f = 3 := Option.some.inj ((show Tryz.prog.funcNamed "groutwork/groutworklaw04.StripRows" = some 3 by kernel_rfl).symm.trans hf) |>.symm
  obtain rfl : fn = Tryz.f3 := (Option.some.inj (Tryz.func3.symm.trans hfn)).symm
  refine ⟨by kernel_rfl, fun j t ht => ?_⟩
  rw [Tryz.params3] at ht
  have hm : t ∈ [22] := by simpa using Array.mem_of_getElem? ht
  have hall : ([22].all fun u => !Tryz.prog.wantsStandIn u) = true := by kernel_rfl
  exact (show Tryz.prog.wantsStandIn t = false by simpa using List.all_eq_true.1 hall t hm)
theorem stripRows_proved : Rows.StripRowsCardSaid :=
  Claim7.holds_tied_plain_at .later [] _ _ _ _ stripRows_said (fun _ h => by cases h) (by kernel_rfl) (fun _ h => by cases h) stripRows_row_tie rfl ⟨rfl, rfl⟩ (by kernel_rfl) rfl str_plain (by kernel_rfl)
#print axioms stripRows_proved
end Go.Proofs.YtgadfmknjpanpaaGreatDoor
