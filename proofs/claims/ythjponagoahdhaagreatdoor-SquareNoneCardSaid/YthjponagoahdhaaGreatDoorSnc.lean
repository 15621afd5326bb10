/-
  'groutworklaw05.SquareNone' returns true for every input, and each argument reads afterwards as it read before. Conditions: the listed package-level variables hold what the program's text lays (the card ties them).
-/
import Derived.Test.YthjponagoahdhaaGreatDoorSnt
import Derived.Test.YthjponagoahdhaaGreatDoorFr
import Derived.Test.YthjponagoahdhaaGreatDoorCards
import Derived.Test.YthjponagoahdhaaGreatDoorTie
import Derived.SevenTiedAt
namespace Go.Proofs.YthjponagoahdhaaGreatDoor
open Go.ChangeShapes Go.WideShapes Go.ChangeAt Go.RowKit
set_option linter.unusedVariables false

set_option maxRecDepth 100000 in
theorem sqn_contract (H : Type) (enc : TypeId × Value → H) (W : World) (base : Nat) (args : Array Value) (ds gs : List (DataW H)) (before : List MemPlace)
    (hval0 : ∀ (j : Nat) t v, Tryz.f3.params[j]? = some t → args[j]? = some v → Value.okWide Tryz.prog W .any base t v)
    (hW : DataW.Whole enc Tryz.prog Tryz.f3.params.toList Rows.squareNoneSpec.vars false W args.toList ds gs before) (hE : Env W) :
    Calls Tryz.prog 3 args W fun e W' => ∃ v, e = .returned v ∧ Rows.squareNoneSpec.post enc Tryz.prog Tryz.f3 false true false false W args v W' := by
  have hval := hval0
  have hW' := hW
  obtain ⟨p, q, hA0, hV, rfl, hfz, hnd⟩ := hW
  have hA : DataW.TrodAll enc Tryz.prog W 0 (fun _ => true) true Tryz.f3.params.toList args.toList ds p := hA0
  rw [Tryz.params3] at hA hval
  obtain ⟨v0, vs0, d0, ds0, p0, q0, hargs, rfl, rfl, h0, r0⟩ := trodAll_cons hA
  obtain ⟨v1, vs1, d1, ds1, p1, q1, rfl, rfl, rfl, h1, r1⟩ := trodAll_cons r0
  obtain ⟨v2, vs2, d2, ds2, p2, q2, rfl, rfl, rfl, h2, r2⟩ := trodAll_cons r1
  obtain ⟨rfl, rfl, rfl⟩ := trodAll_nil r2
  obtain rfl : args = #[v0, v1, v2] := by cases args; simp_all
  obtain ⟨rfl, rfl⟩ := trodVars_none hV
  have k0 := h0
  have k1 := h1
  have k2 := h2
  have lt0 : ∀ x ∈ p0, x.block < W.heap.size := by obtain ⟨m, hm⟩ := k0; exact DataW.trod_lt m _ _ _ hm
  have lt1 : ∀ x ∈ p1, x.block < W.heap.size := by obtain ⟨m, hm⟩ := k1; exact DataW.trod_lt m _ _ _ hm
  have lt2 : ∀ x ∈ p2, x.block < W.heap.size := by obtain ⟨m, hm⟩ := k2; exact DataW.trod_lt m _ _ _ hm
  obtain ⟨S0, len0, cap0, rfl⟩ := okWide_slice Tryz.underlying22 (hval 0 22 v0 rfl rfl)
  obtain ⟨fuel0, hf0⟩ := h0
  obtain ⟨hlc0, hcm0⟩ := open_cap hf0
  obtain ⟨s0, hm0, hml0, hwf0, hS0⟩ := open_set hf0
  obtain ⟨a1, b1, A1, n1, c1, cs1, rfl, _, _, hn1, hnl1, _, hP1⟩ := open_pat (hval 1 25 v1 rfl rfl) h1
  obtain ⟨z2, rfl⟩ := okWide_int Tryz.underlying5 (hval 2 5 v2 rfl rfl)
  obtain ⟨fuel2, hf2⟩ := h2
  obtain ⟨z2', ez2, _, wz2⟩ := DataW.trod_int Tryz.underlying5 hf2
  obtain rfl : z2 = z2' := by simpa [Value.cells] using ez2
  unfold Lit.wf at wz2
  rw [Bool.and_eq_true] at wz2
  obtain ⟨hz2, hz2'⟩ : _ ∧ _ := ⟨of_decide_eq_true wz2.1, of_decide_eq_true wz2.2⟩
  obtain ⟨x2, rfl⟩ := Int.eq_ofNat_of_zero_le (show (0 : Int) ≤ z2 by first | exact hz2 | simpa using hz2)
  have hx2 : x2 < 256 := by have : ((x2 : Nat) : Int) ≤ 255 := (by first | exact hz2' | simpa using hz2'); omega
  clear hA0 hval0
  refine (sqnone_any a1 b1 cs1 s0 A1 S0 len0 n1 c1 cap0 x2 W hE hm0 hlc0 (by simp only [maxLen] at hcm0; omega) hn1 (by simp only [maxLen] at hnl1; omega) hS0 hP1 hwf0 (by simp only [maxLen] at hcm0; omega) (by omega)).mono fun e W' ⟨he, bel⟩ => ?_
  subst he
  exact ⟨_, rfl, _, _, _, [], _, [], hW', trodAll_mk1 (shut_bool Tryz.underlying4 _), (trodAll_cons_mk (Below.trod tile_laidOut (by kernel_rfl) (of_decide_eq_true (by kernel_rfl)) k0 bel lt0) (trodAll_cons_mk (Below.trod tile_laidOut (by kernel_rfl) (of_decide_eq_true (by kernel_rfl)) k1 bel lt1) (trodAll_cons_mk (Below.trod tile_laidOut (by kernel_rfl) (of_decide_eq_true (by kernel_rfl)) k2 bel lt2) trodAll_mk0))), rfl, bel.frame _, fun h => by cases h⟩

noncomputable def sqnW (os : Os) : World := World.laidAll Tryz.prog os laidL
def sqnArgs : Array Value := #[.slice none 0 0, .agg #[.int .i64 0, .int .i64 0, .slice none 0 0], .int .u8 0]
theorem sqn_met (os : Os) : laidMetH Tryz.prog laidL ((sqnW os).forCall (fun _ _ => 0) ⟨#[], sqnArgs, []⟩).memory := by
  rw [MakeChecks.laidMetH_plain _ _ _ (by kernel_rfl)]
  exact laidMet_laidAll _ (by kernel_rfl) (by kernel_rfl)
theorem sqn_reads (os : Os) {H : Type} (enc : TypeId × Value → H) : DataW.whole enc Tryz.prog ((sqnW os).forCall (fun _ _ => 0) ⟨#[], sqnArgs, []⟩).memory Tryz.f3.params.toList Rows.squareNoneSpec.vars false sqnArgs.toList 8 = some ([.nil, .agg [.lit (.int .i64 0), .lit (.int .i64 0), .nil], .lit (.int .u8 0)], [], []) := by kernel_rfl

set_option maxRecDepth 100000 in
theorem sqn_lifted (os : Os) (started : os.Started) (H : Type) (enc : TypeId × Value → H) (F : Stop.Interp) :
    ReturnsInHanded {} Tryz.checked os 3 .any ((OpenSpec.ofChange Rows.squareNoneSpec).preRow enc Tryz.prog Tryz.f3 Rows.squareNoneRow.domain false Rows.squareNoneRow.laid) (((OpenSpec.ofChange Rows.squareNoneSpec).at F).post enc Tryz.prog Tryz.f3 false true false false) := by
  refine returnsInHanded_of_row (C := Tryz.checked) (s := OpenSpec.ofChange Rows.squareNoneSpec) own_none started (by kernel_rfl) Tryz.func3
    (witness_row_at (enc := enc) (C := Tryz.checked) false (sqnW os) sqnArgs (World.laidAll_os _ _ _) (by kernel_rfl) (by kernel_rfl) (by kernel_rfl)
      (OpenSpec.preRow_of_cond 8 (sqn_reads os enc) (by kernel_rfl) (fun k hk => by cases hk) (by kernel_rfl) (sqn_met os))) ?_
  intro W base args ds gs before hval hW _ _ _ hL hsh _
  exact sqn_contract H enc W base args ds gs before hval hW (env_of hL hsh)

theorem squareNone_said : Rows.SquareNoneSaid :=
  OpenClaim.holds_of_cond 3 Tryz.f3 rfl rfl rfl rfl rfl rfl rfl ⟨rfl, rfl, rfl, rfl, rfl⟩ rfl rfl rfl rfl rfl (by kernel_rfl) Tryz.func3 (by kernel_rfl)
    (of_decide_eq_true (by kernel_rfl)) (by unfold Func.isWrapper; first | (rw [if_pos (by decide +kernel)]; kernel_rfl) | (rw [if_neg (by decide +kernel)]; exact ⟨rfl, rfl⟩))
    (fun os started H enc _ F => by rw [OpenClaim.pre_eq_preRow]; exact sqn_lifted os started H enc F)
theorem sqn_plain (f : FuncId) (fn : Func) (hf : Tryz.pinned.checked.prog.funcNamed "groutwork/groutworklaw05.SquareNone" = some f) (hfn : Tryz.pinned.checked.prog.funcs[f]? = some fn) :
    true = Tryz.pinned.checked.prog.looks [] ∧ ∀ (j : Nat) t, fn.params[j]? = some t → Tryz.pinned.checked.prog.wantsStandIn t = false := by
  obtain rfl : f = 3 := Option.some.inj ((show Tryz.prog.funcNamed "groutwork/groutworklaw05.SquareNone" = some 3 by kernel_rfl).symm.trans hf) |>.symm
  obtain rfl : fn = Tryz.f3 := (Option.some.inj (Tryz.func3.symm.trans hfn)).symm
  refine ⟨by kernel_rfl, fun j t ht => ?_⟩
  rw [Tryz.params3] at ht
  have hm : t ∈ [22, 25, 5] := by simpa using Array.mem_of_getElem? ht
  have hall : ([22, 25, 5].all fun u => !Tryz.prog.wantsStandIn u) = true := by kernel_rfl
  exact (show Tryz.prog.wantsStandIn t = false by simpa using List.all_eq_true.1 hall t hm)
theorem squareNone_proved : Rows.SquareNoneCardSaid :=
  Claim7.holds_tied_plain_at .later [] _ _ _ _ squareNone_said (fun _ h => by cases h) (by kernel_rfl) (fun _ h => by cases h) squareNone_row_tie rfl ⟨rfl, rfl⟩ (by kernel_rfl) rfl sqn_plain (by kernel_rfl)
#print axioms squareNone_proved
end Go.Proofs.YthjponagoahdhaaGreatDoor
