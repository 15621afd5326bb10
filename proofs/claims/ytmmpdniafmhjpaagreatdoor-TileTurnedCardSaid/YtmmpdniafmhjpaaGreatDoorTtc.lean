/-
  'groutworklaw01.TileTurned' returns true for every input, and each argument reads afterwards as it read before. Conditions: the listed package-level variables hold what the program's text lays (the card ties them).
-/
import Derived.Test.YtmmpdniafmhjpaaGreatDoorTt
import Derived.Test.YtmmpdniafmhjpaaGreatDoorFr
import Derived.Test.YtmmpdniafmhjpaaGreatDoorCards
import Derived.Test.YtmmpdniafmhjpaaGreatDoorTie
import Derived.SevenTiedAt
namespace Go.Proofs.YtmmpdniafmhjpaaGreatDoor
open Go.ChangeShapes Go.WideShapes Go.ChangeAt Go.RowKit
set_option linter.unusedVariables false

set_option maxRecDepth 100000 in
theorem tt_contract (H : Type) (enc : TypeId × Value → H) (W : World) (base : Nat) (args : Array Value) (ds gs : List (DataW H)) (before : List MemPlace)
    (hval0 : ∀ (j : Nat) t v, Tryz.f4.params[j]? = some t → args[j]? = some v → Value.okWide Tryz.prog W .any base t v)
    (hW : DataW.Whole enc Tryz.prog Tryz.f4.params.toList Rows.tileTurnedSpec.vars false W args.toList ds gs before) (hE : Env W) :
    Calls Tryz.prog 4 args W fun e W' => ∃ v, e = .returned v ∧ Rows.tileTurnedSpec.post enc Tryz.prog Tryz.f4 false true false false W args v W' := by
  have hval := hval0
  have hW' := hW
  obtain ⟨p, q, hA0, hV, rfl, hfz, hnd⟩ := hW
  have hA : DataW.TrodAll enc Tryz.prog W 0 (fun _ => true) true Tryz.f4.params.toList args.toList ds p := hA0
  rw [Tryz.params4] at hA hval
  obtain ⟨v0, vs0, d0, ds0, p0, q0, hargs, rfl, rfl, h0, r0⟩ := trodAll_cons hA
  obtain ⟨v1, vs1, d1, ds1, p1, q1, rfl, rfl, rfl, h1, r1⟩ := trodAll_cons r0
  obtain ⟨v2, vs2, d2, ds2, p2, q2, rfl, rfl, rfl, h2, r2⟩ := trodAll_cons r1
  obtain ⟨v3, vs3, d3, ds3, p3, q3, rfl, rfl, rfl, h3, r3⟩ := trodAll_cons r2
  obtain ⟨v4, vs4, d4, ds4, p4, q4, rfl, rfl, rfl, h4, r4⟩ := trodAll_cons r3
  obtain ⟨v5, vs5, d5, ds5, p5, q5, rfl, rfl, rfl, h5, r5⟩ := trodAll_cons r4
  obtain ⟨rfl, rfl, rfl⟩ := trodAll_nil r5
  obtain rfl : args = #[v0, v1, v2, v3, v4, v5] := by cases args; simp_all
  obtain ⟨rfl, rfl⟩ := trodVars_none hV
  have k0 := h0
  have k1 := h1
  have k2 := h2
  have k3 := h3
  have k4 := h4
  have k5 := h5
  have lt0 : ∀ x ∈ p0, x.block < W.heap.size := by obtain ⟨m, hm⟩ := k0; exact DataW.trod_lt m _ _ _ hm
  have lt1 : ∀ x ∈ p1, x.block < W.heap.size := by obtain ⟨m, hm⟩ := k1; exact DataW.trod_lt m _ _ _ hm
  have lt2 : ∀ x ∈ p2, x.block < W.heap.size := by obtain ⟨m, hm⟩ := k2; exact DataW.trod_lt m _ _ _ hm
  have lt3 : ∀ x ∈ p3, x.block < W.heap.size := by obtain ⟨m, hm⟩ := k3; exact DataW.trod_lt m _ _ _ hm
  have lt4 : ∀ x ∈ p4, x.block < W.heap.size := by obtain ⟨m, hm⟩ := k4; exact DataW.trod_lt m _ _ _ hm
  have lt5 : ∀ x ∈ p5, x.block < W.heap.size := by obtain ⟨m, hm⟩ := k5; exact DataW.trod_lt m _ _ _ hm
  obtain ⟨S0, len0, cap0, rfl⟩ := okWide_slice Tryz.underlying37 (hval 0 37 v0 rfl rfl)
  obtain ⟨fuel0, hf0⟩ := h0
  obtain ⟨hlc0, hcm0⟩ := open_cap hf0
  obtain ⟨s0, hm0, hml0, hwf0, hS0⟩ := open_set hf0
  obtain ⟨a1, b1, A1, n1, c1, cs1, rfl, _, _, hn1, hnl1, _, hP1⟩ := open_pat (hval 1 24 v1 rfl rfl) h1
  obtain ⟨z2, rfl⟩ := okWide_int Tryz.underlying5 (hval 2 5 v2 rfl rfl)
  obtain ⟨fuel2, hf2⟩ := h2
  obtain ⟨z2', ez2, _, wz2⟩ := DataW.trod_int Tryz.underlying5 hf2
  obtain rfl : z2 = z2' := by simpa [Value.cells] using ez2
  unfold Lit.wf at wz2
  rw [Bool.and_eq_true] at wz2
  obtain ⟨hz2, hz2'⟩ : _ ∧ _ := ⟨of_decide_eq_true wz2.1, of_decide_eq_true wz2.2⟩
  obtain ⟨x2, rfl⟩ := Int.eq_ofNat_of_zero_le (show (0 : Int) ≤ z2 by first | exact hz2 | simpa using hz2)
  have hx2 : x2 < 256 := by have : ((x2 : Nat) : Int) ≤ 255 := (by first | exact hz2' | simpa using hz2'); omega
  obtain ⟨z3, rfl⟩ := okWide_int Tryz.underlying5 (hval 3 5 v3 rfl rfl)
  obtain ⟨fuel3, hf3⟩ := h3
  obtain ⟨z3', ez3, _, wz3⟩ := DataW.trod_int Tryz.underlying5 hf3
  obtain rfl : z3 = z3' := by simpa [Value.cells] using ez3
  unfold Lit.wf at wz3
  rw [Bool.and_eq_true] at wz3
  obtain ⟨hz3, hz3'⟩ : _ ∧ _ := ⟨of_decide_eq_true wz3.1, of_decide_eq_true wz3.2⟩
  obtain ⟨x3, rfl⟩ := Int.eq_ofNat_of_zero_le (show (0 : Int) ≤ z3 by first | exact hz3 | simpa using hz3)
  have hx3 : x3 < 256 := by have : ((x3 : Nat) : Int) ≤ 255 := (by first | exact hz3' | simpa using hz3'); omega
  obtain ⟨z4, rfl⟩ := okWide_int Tryz.underlying5 (hval 4 5 v4 rfl rfl)
  obtain ⟨fuel4, hf4⟩ := h4
  obtain ⟨z4', ez4, _, wz4⟩ := DataW.trod_int Tryz.underlying5 hf4
  obtain rfl : z4 = z4' := by simpa [Value.cells] using ez4
  unfold Lit.wf at wz4
  rw [Bool.and_eq_true] at wz4
  obtain ⟨hz4, hz4'⟩ : _ ∧ _ := ⟨of_decide_eq_true wz4.1, of_decide_eq_true wz4.2⟩
  obtain ⟨x4, rfl⟩ := Int.eq_ofNat_of_zero_le (show (0 : Int) ≤ z4 by first | exact hz4 | simpa using hz4)
  have hx4 : x4 < 256 := by have : ((x4 : Nat) : Int) ≤ 255 := (by first | exact hz4' | simpa using hz4'); omega
  obtain ⟨z5, rfl⟩ := okWide_int Tryz.underlying5 (hval 5 5 v5 rfl rfl)
  obtain ⟨fuel5, hf5⟩ := h5
  obtain ⟨z5', ez5, _, wz5⟩ := DataW.trod_int Tryz.underlying5 hf5
  obtain rfl : z5 = z5' := by simpa [Value.cells] using ez5
  unfold Lit.wf at wz5
  rw [Bool.and_eq_true] at wz5
  obtain ⟨hz5, hz5'⟩ : _ ∧ _ := ⟨of_decide_eq_true wz5.1, of_decide_eq_true wz5.2⟩
  obtain ⟨x5, rfl⟩ := Int.eq_ofNat_of_zero_le (show (0 : Int) ≤ z5 by first | exact hz5 | simpa using hz5)
  have hx5 : x5 < 256 := by have : ((x5 : Nat) : Int) ≤ 255 := (by first | exact hz5' | simpa using hz5'); omega
  clear hA0 hval0
  refine (tileTurned_any a1 b1 cs1 s0 A1 S0 len0 n1 c1 cap0 x2 x3 x4 x5 W hm0 hn1 hlc0 hx2 hx3 hx4 hx5 hS0 hP1 hwf0 (by simp only [maxLen] at hcm0; omega) (by simp only [maxLen] at hnl1; omega) hE).mono fun e W' ⟨he, bel⟩ => ?_
  subst he
  exact ⟨_, rfl, _, _, _, [], _, [], hW', trodAll_mk1 (shut_bool Tryz.underlying4 _), (trodAll_cons_mk (Below.trod tile_laidOut (by kernel_rfl) (of_decide_eq_true (by kernel_rfl)) k0 bel lt0) (trodAll_cons_mk (Below.trod tile_laidOut (by kernel_rfl) (of_decide_eq_true (by kernel_rfl)) k1 bel lt1) (trodAll_cons_mk (Below.trod tile_laidOut (by kernel_rfl) (of_decide_eq_true (by kernel_rfl)) k2 bel lt2) (trodAll_cons_mk (Below.trod tile_laidOut (by kernel_rfl) (of_decide_eq_true (by kernel_rfl)) k3 bel lt3) (trodAll_cons_mk (Below.trod tile_laidOut (by kernel_rfl) (of_decide_eq_true (by kernel_rfl)) k4 bel lt4) (trodAll_cons_mk (Below.trod tile_laidOut (by kernel_rfl) (of_decide_eq_true (by kernel_rfl)) k5 bel lt5) trodAll_mk0)))))), rfl, bel.frame _, fun h => by cases h⟩

noncomputable def ttW (os : Os) : World := World.laidAll Tryz.prog os laidL
def ttArgs : Array Value := #[.slice none 0 0, .agg #[.int .i64 0, .int .i64 0, .slice none 0 0], .int .u8 0, .int .u8 0, .int .u8 0, .int .u8 0]
theorem tt_met (os : Os) : laidMetH Tryz.prog laidL ((ttW os).forCall (fun _ _ => 0) ⟨#[], ttArgs, []⟩).memory := by
  rw [MakeChecks.laidMetH_plain _ _ _ (by kernel_rfl)]
  exact laidMet_laidAll _ (by kernel_rfl) (by kernel_rfl)
theorem tt_reads (os : Os) {H : Type} (enc : TypeId × Value → H) : DataW.whole enc Tryz.prog ((ttW os).forCall (fun _ _ => 0) ⟨#[], ttArgs, []⟩).memory Tryz.f4.params.toList Rows.tileTurnedSpec.vars false ttArgs.toList 8 = some ([.nil, .agg [.lit (.int .i64 0), .lit (.int .i64 0), .nil], .lit (.int .u8 0), .lit (.int .u8 0), .lit (.int .u8 0), .lit (.int .u8 0)], [], []) := by kernel_rfl

set_option maxRecDepth 100000 in
theorem tt_lifted (os : Os) (started : os.Started) (H : Type) (enc : TypeId × Value → H) (F : Stop.Interp) :
    ReturnsInHanded {} Tryz.checked os 4 .any ((OpenSpec.ofChange Rows.tileTurnedSpec).preRow enc Tryz.prog Tryz.f4 Rows.tileTurnedRow.domain false Rows.tileTurnedRow.laid) (((OpenSpec.ofChange Rows.tileTurnedSpec).at F).post enc Tryz.prog Tryz.f4 false true false false) := by
  refine returnsInHanded_of_row (C := Tryz.checked) (s := OpenSpec.ofChange Rows.tileTurnedSpec) own_none started (by kernel_rfl) Tryz.func4
    (witness_row_at (enc := enc) (C := Tryz.checked) false (ttW os) ttArgs (World.laidAll_os _ _ _) (by kernel_rfl) (by kernel_rfl) (by kernel_rfl)
      (OpenSpec.preRow_of_cond 8 (tt_reads os enc) (by kernel_rfl) (fun k hk => by cases hk) (by kernel_rfl) (tt_met os))) ?_
  intro W base args ds gs before hval hW _ _ _ hL hsh _
  exact tt_contract H enc W base args ds gs before hval hW (env_of hL hsh)

theorem tileTurned_said : Rows.TileTurnedSaid :=
  OpenClaim.holds_of_cond 4 Tryz.f4 rfl rfl rfl rfl rfl rfl rfl ⟨rfl, rfl, rfl, rfl, rfl⟩ rfl rfl rfl rfl rfl (by kernel_rfl) Tryz.func4 (by kernel_rfl)
    (of_decide_eq_true (by kernel_rfl)) (by unfold Func.isWrapper; first | (rw [if_pos (by decide +kernel)]; kernel_rfl) | (rw [if_neg (by decide +kernel)]; exact ⟨rfl, rfl⟩))
    (fun os started H enc _ F => by rw [OpenClaim.pre_eq_preRow]; exact tt_lifted os started H enc F)
theorem tt_plain (f : FuncId) (fn : Func) (hf : Tryz.pinned.checked.prog.funcNamed "groutwork/groutworklaw01.TileTurned" = some f) (hfn : Tryz.pinned.checked.prog.funcs[f]? = some fn) :
    true = Tryz.pinned.checked.prog.looks [] ∧ ∀ (j : Nat) t, fn.params[j]? = some t → Tryz.pinned.checked.prog.wantsStandIn t = false := by
  obtain rfl : f = 4 := Option.some.inj ((show Tryz.prog.funcNamed "groutwork/groutworklaw01.TileTurned" = some 4 by kernel_rfl).symm.trans hf) |>.symm
  obtain rfl : fn = Tryz.f4 := (Option.some.inj (Tryz.func4.symm.trans hfn)).symm
  refine ⟨by kernel_rfl, fun j t ht => ?_⟩
  rw [Tryz.params4] at ht
  have hm : t ∈ [37, 24, 5, 5, 5, 5] := by simpa using Array.mem_of_getElem? ht
  have hall : ([37, 24, 5, 5, 5, 5].all fun u => !Tryz.prog.wantsStandIn u) = true := by kernel_rfl
  exact (show Tryz.prog.wantsStandIn t = false by simpa using List.all_eq_true.1 hall t hm)
theorem tileTurned_proved : Rows.TileTurnedCardSaid :=
  Claim7.holds_tied_plain_at .later [] _ _ _ _ tileTurned_said (fun _ h => by cases h) (by kernel_rfl) (fun _ h => by cases h) tileTurned_row_tie rfl ⟨rfl, rfl⟩ (by kernel_rfl) rfl tt_plain (by kernel_rfl)
#print axioms tileTurned_proved
end Go.Proofs.YtmmpdniafmhjpaaGreatDoor
