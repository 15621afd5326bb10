/-
  'groutworklaw01.TileParses' returns true for every input, and each argument reads afterwards as it read before. Conditions: the listed package-level variables hold what the program's text lays (the card ties them).
-/
import Derived.Test.YtmmpdniafmhjpaaDoorPz
import Derived.Test.YtmmpdniafmhjpaaDoorFr
import Derived.Test.YtmmpdniafmhjpaaDoorCards
import Derived.Test.YtmmpdniafmhjpaaDoorTie
import Derived.SevenTiedAt
namespace Go.Proofs.YtmmpdniafmhjpaaDoor
open Go.ChangeShapes Go.WideShapes Go.ChangeAt Go.RowKit
set_option linter.unusedVariables false

set_option maxRecDepth 100000 in
theorem tp_contract (H : Type) (enc : TypeId × Value → H) (W : World) (base : Nat) (args : Array Value) (ds gs : List (DataW H)) (before : List MemPlace)
    (hval0 : ∀ (j : Nat) t v, Tryd.f4.params[j]? = some t → args[j]? = some v → Value.okWide Tryd.prog W .any base t v)
    (hW : DataW.Whole enc Tryd.prog Tryd.f4.params.toList Rows.tileParsesSpec.vars false W args.toList ds gs before) (hE : Env W) :
    Calls Tryd.prog 4 args W fun e W' => ∃ v, e = .returned v ∧ Rows.tileParsesSpec.post enc Tryd.prog Tryd.f4 false true false false W args v W' := by
  have hval := hval0
  have hW' := hW
  obtain ⟨p, q, hA0, hV, rfl, hfz, hnd⟩ := hW
  have hA : DataW.TrodAll enc Tryd.prog W 0 (fun _ => true) true Tryd.f4.params.toList args.toList ds p := hA0
  rw [Tryd.params4] at hA hval
  obtain ⟨v0, vs0, d0, ds0, p0, q0, hargs, rfl, rfl, h0, r0⟩ := trodAll_cons hA
  obtain ⟨rfl, rfl, rfl⟩ := trodAll_nil r0
  obtain rfl : args = #[v0] := by cases args; simp_all
  obtain ⟨rfl, rfl⟩ := trodVars_none hV
  have k0 := h0
  have lt0 : ∀ x ∈ p0, x.block < W.heap.size := by obtain ⟨m, hm⟩ := k0; exact DataW.trod_lt m _ _ _ hm
  obtain ⟨str0, rfl⟩ := okWide_string Tryd.underlying9 (hval 0 9 v0 rfl rfl)
  clear hA0 hval0
  refine (tileParses_any str0 W hE).mono fun e W' ⟨he, bel⟩ => ?_
  subst he
  exact ⟨_, rfl, _, _, _, [], _, [], hW', trodAll_mk1 (shut_bool Tryd.underlying4 _), (trodAll_cons_mk (Below.trod tile_laidOut (by kernel_rfl) (of_decide_eq_true (by kernel_rfl)) k0 bel lt0) trodAll_mk0), rfl, bel.frame _, fun h => by cases h⟩

noncomputable def tpW (os : Os) : World := World.laidAll Tryd.prog os laidL
def tpArgs : Array Value := #[.string ⟨#[]⟩]
theorem tp_met (os : Os) : laidMetH Tryd.prog laidL ((tpW os).forCall (fun _ _ => 0) ⟨#[], tpArgs, []⟩).memory := by
  rw [MakeChecks.laidMetH_plain _ _ _ (by kernel_rfl)]
  exact laidMet_laidAll _ (by kernel_rfl) (by kernel_rfl)
theorem tp_reads (os : Os) {H : Type} (enc : TypeId × Value → H) : DataW.whole enc Tryd.prog ((tpW os).forCall (fun _ _ => 0) ⟨#[], tpArgs, []⟩).memory Tryd.f4.params.toList Rows.tileParsesSpec.vars false tpArgs.toList 8 = some ([.lit (.string [])], [], []) := by kernel_rfl

set_option maxRecDepth 100000 in
theorem tp_lifted (os : Os) (started : os.Started) (H : Type) (enc : TypeId × Value → H) (F : Stop.Interp) :
    ReturnsInHanded {} Tryd.checked os 4 .any ((OpenSpec.ofChange Rows.tileParsesSpec).preRow enc Tryd.prog Tryd.f4 Rows.tileParsesRow.domain false Rows.tileParsesRow.laid) (((OpenSpec.ofChange Rows.tileParsesSpec).at F).post enc Tryd.prog Tryd.f4 false true false false) := by
  refine returnsInHanded_of_row (C := Tryd.checked) (s := OpenSpec.ofChange Rows.tileParsesSpec) own_none started (by kernel_rfl) Tryd.func4
    (witness_row_at (enc := enc) (C := Tryd.checked) false (tpW os) tpArgs (World.laidAll_os _ _ _) (by kernel_rfl) (by kernel_rfl) (by kernel_rfl)
      (OpenSpec.preRow_of_cond 8 (tp_reads os enc) (by kernel_rfl) (fun k hk => by cases hk) (by kernel_rfl) (tp_met os))) ?_
  intro W base args ds gs before hval hW _ _ _ hL hsh _
  exact tp_contract H enc W base args ds gs before hval hW (env_of hL hsh)

theorem tileParses_said : Rows.TileParsesSaid :=
  OpenClaim.holds_of_cond 4 Tryd.f4 rfl rfl rfl rfl rfl rfl rfl ⟨rfl, rfl, rfl, rfl, rfl⟩ rfl rfl rfl rfl rfl (by kernel_rfl) Tryd.func4 (by kernel_rfl)
    (of_decide_eq_true (by kernel_rfl)) (by unfold Func.isWrapper; first | (rw [if_pos (by decide +kernel)]; kernel_rfl) | (rw [if_neg (by decide +kernel)]; exact ⟨rfl, rfl⟩))
    (fun os started H enc _ F => by rw [OpenClaim.pre_eq_preRow]; exact tp_lifted os started H enc F)
theorem tp_plain (f : FuncId) (fn : Func) (hf : Tryd.pinned.checked.prog.funcNamed "groutwork/groutworklaw01.TileParses" = some f) (hfn : Tryd.pinned.checked.prog.funcs[f]? = some fn) :
    true = Tryd.pinned.checked.prog.looks [] ∧ ∀ (j : Nat) t, fn.params[j]? = some t → Tryd.pinned.checked.prog.wantsStandIn t = false := by
  obtain rfl : f = 4 := Option.some.inj ((show Tryd.prog.funcNamed "groutwork/groutworklaw01.TileParses" = some 4 by kernel_rfl).symm.trans hf) |>.symm
  obtain rfl : fn = Tryd.f4 := (Option.some.inj (Tryd.func4.symm.trans hfn)).symm
  refine ⟨by kernel_rfl, fun j t ht => ?_⟩
  rw [Tryd.params4] at ht
  have hm : t ∈ [9] := by simpa using Array.mem_of_getElem? ht
  have hall : ([9].all fun u => !Tryd.prog.wantsStandIn u) = true := by kernel_rfl
  exact (show Tryd.prog.wantsStandIn t = false by simpa using List.all_eq_true.1 hall t hm)
theorem tileParses_proved : Rows.TileParsesCardSaid :=
  Claim7.holds_tied_plain_at .later [] _ _ _ _ tileParses_said (fun _ h => by cases h) (by kernel_rfl) (fun _ h => by cases h) tileParses_row_tie rfl ⟨rfl, rfl⟩ (by kernel_rfl) rfl tp_plain (by kernel_rfl)
#print axioms tileParses_proved
end Go.Proofs.YtmmpdniafmhjpaaDoor
