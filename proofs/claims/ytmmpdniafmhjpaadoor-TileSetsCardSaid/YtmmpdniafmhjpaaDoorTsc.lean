/-
  'groutworklaw01.TileSets' returns true for every input, and each argument reads afterwards as it read before. Conditions: the listed package-level variables hold what the program's text lays (the card ties them).
-/
import Derived.Test.YtmmpdniafmhjpaaDoorTs
import Derived.Test.YtmmpdniafmhjpaaDoorFr
import Derived.Test.YtmmpdniafmhjpaaDoorCards
import Derived.Test.YtmmpdniafmhjpaaDoorTie
import Derived.SevenTiedAt
namespace Go.Proofs.YtmmpdniafmhjpaaDoor
open Go.ChangeShapes Go.WideShapes Go.ChangeAt Go.RowKit
set_option linter.unusedVariables false

set_option maxRecDepth 100000 in
theorem ts_contract (H : Type) (enc : TypeId × Value → H) (W : World) (base : Nat) (args : Array Value) (ds gs : List (DataW H)) (before : List MemPlace)
    (hval0 : ∀ (j : Nat) t v, Tryd.f3.params[j]? = some t → args[j]? = some v → Value.okWide Tryd.prog W .any base t v)
    (hW : DataW.Whole enc Tryd.prog Tryd.f3.params.toList Rows.tileSetsSpec.vars false W args.toList ds gs before) (hE : Env W) :
    Calls Tryd.prog 3 args W fun e W' => ∃ v, e = .returned v ∧ Rows.tileSetsSpec.post enc Tryd.prog Tryd.f3 false true false false W args v W' := by
  have hval := hval0
  have hW' := hW
  obtain ⟨p, q, hA0, hV, rfl, hfz, hnd⟩ := hW
  have hA : DataW.TrodAll enc Tryd.prog W 0 (fun _ => true) true Tryd.f3.params.toList args.toList ds p := hA0
  rw [Tryd.params3] at hA hval
  obtain ⟨v0, vs0, d0, ds0, p0, q0, hargs, rfl, rfl, h0, r0⟩ := trodAll_cons hA
  obtain ⟨rfl, rfl, rfl⟩ := trodAll_nil r0
  obtain rfl : args = #[v0] := by cases args; simp_all
  obtain ⟨rfl, rfl⟩ := trodVars_none hV
  have k0 := h0
  have lt0 : ∀ x ∈ p0, x.block < W.heap.size := by obtain ⟨m, hm⟩ := k0; exact DataW.trod_lt m _ _ _ hm
  obtain ⟨S, len, cap, rfl⟩ := okWide_slice Tryd.underlying22 (hval 0 22 v0 rfl rfl)
  obtain ⟨fuel, hf0⟩ := h0
  obtain ⟨hlc, hcm⟩ := open_cap hf0
  obtain ⟨s, hm, hml, hwf, hS⟩ := open_set hf0
  clear hA0 hval0
  refine (tileSets_any s S len cap W hm hlc hS hwf (by simp only [maxLen] at hcm; omega) hE).mono fun e W' ⟨he, bel⟩ => ?_
  subst he
  exact ⟨_, rfl, _, _, _, [], _, [], hW', trodAll_mk1 (shut_bool Tryd.underlying4 _), (trodAll_cons_mk (Below.trod tile_laidOut (by kernel_rfl) (of_decide_eq_true (by kernel_rfl)) k0 bel lt0) trodAll_mk0), rfl, bel.frame _, fun h => by cases h⟩

noncomputable def tsW (os : Os) : World := World.laidAll Tryd.prog os laidL
def tsArgs : Array Value := #[.slice none 0 0]
theorem ts_met (os : Os) : laidMetH Tryd.prog laidL ((tsW os).forCall (fun _ _ => 0) ⟨#[], tsArgs, []⟩).memory := by
  rw [MakeChecks.laidMetH_plain _ _ _ (by kernel_rfl)]
  exact laidMet_laidAll _ (by kernel_rfl) (by kernel_rfl)
theorem ts_reads (os : Os) {H : Type} (enc : TypeId × Value → H) : DataW.whole enc Tryd.prog ((tsW os).forCall (fun _ _ => 0) ⟨#[], tsArgs, []⟩).memory Tryd.f3.params.toList Rows.tileSetsSpec.vars false tsArgs.toList 8 = some ([.nil], [], []) := by kernel_rfl

set_option maxRecDepth 100000 in
theorem ts_lifted (os : Os) (started : os.Started) (H : Type) (enc : TypeId × Value → H) (F : Stop.Interp) :
    ReturnsInHanded {} Tryd.checked os 3 .any ((OpenSpec.ofChange Rows.tileSetsSpec).preRow enc Tryd.prog Tryd.f3 Rows.tileSetsRow.domain false Rows.tileSetsRow.laid) (((OpenSpec.ofChange Rows.tileSetsSpec).at F).post enc Tryd.prog Tryd.f3 false true false false) := by
  refine returnsInHanded_of_row (C := Tryd.checked) (s := OpenSpec.ofChange Rows.tileSetsSpec) own_none started (by kernel_rfl) Tryd.func3
    (witness_row_at (enc := enc) (C := Tryd.checked) false (tsW os) tsArgs (World.laidAll_os _ _ _) (by kernel_rfl) (by kernel_rfl) (by kernel_rfl)
      (OpenSpec.preRow_of_cond 8 (ts_reads os enc) (by kernel_rfl) (fun k hk => by cases hk) (by kernel_rfl) (ts_met os))) ?_
  intro W base args ds gs before hval hW _ _ _ hL hsh _
  exact ts_contract H enc W base args ds gs before hval hW (env_of hL hsh)

theorem tileSets_said : Rows.TileSetsSaid :=
  OpenClaim.holds_of_cond 3 Tryd.f3 rfl rfl rfl rfl rfl rfl rfl ⟨rfl, rfl, rfl, rfl, rfl⟩ rfl rfl rfl rfl rfl (by kernel_rfl) Tryd.func3 (by kernel_rfl)
    (of_decide_eq_true (by kernel_rfl)) (by unfold Func.isWrapper; first | (rw [if_pos (by decide +kernel)]; kernel_rfl) | (rw [if_neg (by decide +kernel)]; exact ⟨rfl, rfl⟩))
    (fun os started H enc _ F => by rw [OpenClaim.pre_eq_preRow]; exact ts_lifted os started H enc F)
theorem ts_plain (f : FuncId) (fn : Func) (hf : Tryd.pinned.checked.prog.funcNamed "groutwork/groutworklaw01.TileSets" = some f) (hfn : Tryd.pinned.checked.prog.funcs[f]? = some fn) :
    true = Tryd.pinned.checked.prog.looks [] ∧ ∀ (j : Nat) t, fn.params[j]? = some t → Tryd.pinned.checked.prog.wantsStandIn t = false := by
  obtain rfl : f = 3 := Option.some.inj ((show Tryd.prog.funcNamed "groutwork/groutworklaw01.TileSets" = some 3 by kernel_rfl).symm.trans hf) |>.symm
  obtain rfl : fn = Tryd.f3 := (Option.some.inj (Tryd.func3.symm.trans hfn)).symm
  refine ⟨by kernel_rfl, fun j t ht => ?_⟩
  rw [Tryd.params3] at ht
  have hm : t ∈ [22] := by simpa using Array.mem_of_getElem? ht
  have hall : ([22].all fun u => !Tryd.prog.wantsStandIn u) = true := by kernel_rfl
  exact (show Tryd.prog.wantsStandIn t = false by simpa using List.all_eq_true.1 hall t hm)
theorem tileSets_proved : Rows.TileSetsCardSaid :=
  Claim7.holds_tied_plain_at .later [] _ _ _ _ tileSets_said (fun _ h => by cases h) (by kernel_rfl) (fun _ h => by cases h) tileSets_row_tie rfl ⟨rfl, rfl⟩ (by kernel_rfl) rfl ts_plain (by kernel_rfl)
#print axioms tileSets_proved
end Go.Proofs.YtmmpdniafmhjpaaDoor
