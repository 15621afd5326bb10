/-
  'groutworklaw04.StripRows' is true at every input.
-/
import Derived.Test.YtgadfmknjpanpaaGreatDoorSoe
import Derived.Test.YtgadfmknjpanpaaGreatDoorSab
import Derived.Test.YtgadfmknjpanpaaGreatDoorFz
import Derived.Test.YtgadfmknjpanpaaGreatDoorFb
namespace Go.Proofs.YtgadfmknjpanpaaGreatDoor
open Go.RowKit Go.Maps
set_option linter.unusedVariables false
set_option linter.unusedSimpArgs false
set_option maxRecDepth 100000

theorem first_row (s : List Tl) (S : Option Addr) (m d k : Nat) (w : World) (hm : m = s.length) (hv : vld s = true) (hS : SetIn w w.heap.size S s) (hwf : ∀ t ∈ s, twf t) (hk : k + 1 ≤ 8) (hr : rounds (leadP s) k (List.range s.length) = []) :
    Calls Tryz.prog 8 #[.slice S m d, .int .i64 ((k : Int) + 1), .int .i64 1, .agg #[.slice none 0 0, .slice none 0 0, .slice none 0 0, .slice none 0 0]] w fun e w' => e = .returned (.tuple #[.agg #[.int .i64 0, .int .i64 0, .slice none 0 0], .int .i64 (if tooM m (k + 1) then 4 else 6)]) ∧ Below w.heap.size w w' := by
  have hq := first_any s ⟨[], [], [], []⟩ S m d ((k : Int) + 1) 1 none none none none 0 0 0 0 w hm hS hwf (by have := (vld_iff.1 hv).1; omega) (by decide) (by decide) (by decide) (by decide) ⟨fun h => absurd rfl h, fun h => absurd rfl h, fun h => absurd rfl h, fun h => absurd rfl h⟩
  refine hq.mono ?_
  rintro e w' ⟨hb, h⟩
  refine ⟨?_, hb⟩
  have hz : ((k : Int) + 1).toNat = k + 1 := by omega
  have hf : faultE s ((k : Int) + 1) 1 0 0 0 0 = 0 := by
    unfold faultE
    rw [if_neg (by rw [hv]; decide), if_neg (by omega)]
    rfl
  have hc : checkE s ((k : Int) + 1) 1 0 0 0 0 = if tooM m (k + 1) = true then 4 else 0 := by
    unfold checkE
    rw [hf, if_neg (by decide), hz, hm]
  have h' : if checkE s ((k : Int) + 1) 1 0 0 0 0 ≠ 0 then e = .returned (.tuple #[.agg #[.int .i64 0, .int .i64 0, .slice none 0 0], .int .i64 (checkE s ((k : Int) + 1) 1 0 0 0 0)])
    else match firstE s ((k : Int) + 1).toNat (1 : Int).toNat ⟨[], [], [], []⟩ with
    | none => e = .returned (.tuple #[.agg #[.int .i64 0, .int .i64 0, .slice none 0 0], .int .i64 6])
    | some c => ∃ v, e = .returned (.tuple #[.agg #[.int .i64 ((k : Int) + 1), .int .i64 1, v], .int .i64 0]) ∧ w'.ownsRow w.heap.size 3 1 v c.length (vals (idxI c)) := h
  rw [hc] at h'
  by_cases ht : tooM m (k + 1) = true
  · rw [if_pos ht] at h' ⊢
    rw [if_pos (by decide)] at h'
    exact h'
  · rw [if_neg ht] at h' ⊢
    rw [if_neg (by decide), hz, show (1 : Int).toNat = 1 from rfl, first_none1 s (k + 1) _ (rws_none s k hr)] at h'
    exact h'
theorem some_int (s : List Tl) (S : Option Addr) (m d n : Nat) (z : Int) (r : Bool) (w W : World) (hz : z = (n : Int)) (hr : someE s n = r) (hm : m = s.length) (hv : vld s = true) (hS : SetIn w w.heap.size S s) (hwf : ∀ t ∈ s, twf t) (hn1 : 1 ≤ n) (hn : n ≤ 40000) (hb : Below w.heap.size w W) :
    Calls Tryz.prog 7 #[.slice S m d, .int .i64 z] W fun e w' => e = .returned (.bool r) ∧ Below W.heap.size W w' := by
  rw [hz, ← hr]
  exact some_any s S m d n W hm hv (hS.keep hb hb.size) hwf hn1 hn
set_option maxHeartbeats 4000000 in
theorem strows_any (s : List Tl) (S : Option Addr) (m cp : Nat) (w : World) (hEnv : Env w) (hm : m = s.length) (hmd : m ≤ cp) (hdl : cp ≤ 9223372036854775807) (hS : SetIn w w.heap.size S s) (hwf : ∀ t ∈ s, twf t) (hml : m ≤ 9223372036854775807) :
    Calls Tryz.prog 3 #[.slice S m cp] w fun e w' => e = .returned (.bool true) ∧ Below w.heap.size w w' := by
  have HAW : Hid (∀ W, Below w.heap.size w W → Calls Tryz.prog 5 #[] W fun e w' => e = .returned (.bool true) ∧ Below w.heap.size w w') := fun W hb => (awake4_any W (hEnv.keep hb)).mono fun e w' ⟨h1, h2⟩ => ⟨h1, hb.trans (h2.mono hb.size)⟩
  by_cases c1 : m ≤ 12
  rotate_left
  · clear hm hS hwf hEnv
    go_enter Tryz.func3, Tryz.ntmps3
    go_wp2_with (go_at_call 5; refine (HAW.out _ (Below.refl _ _)).mono ?_; rintro e wz ⟨rfl, hbz⟩)
    go_ret
    exact ⟨rfl, hbz⟩
  have hva := rvalid_any s S m cp w hm hmd hdl hS
  cases hv : vld s
  · rw [hv] at hva
    have HVA := Lib.hid hva
    clear hm hS hwf hEnv hv hva
    go_enter Tryz.func3, Tryz.ntmps3
    go_wp2_with (first | (go_at_call 4; refine HVA.out.mono ?_; rintro e w1 ⟨rfl, hb1⟩) | (go_at_call 5; refine (HAW.out _ (by first | assumption | exact Below.alloc hb05 hb05.size _)).mono ?_; rintro e wz ⟨rfl, hbz⟩))
    go_ret
    exact ⟨rfl, hbz⟩
  rw [hv] at hva
  have HVA := Lib.hid hva
  have hro : ∀ W, Below w.heap.size w W → Calls Tryz.prog 6 #[.slice S m cp] W fun e w' => (match rowsL s with | none => e = .returned (.tuple #[.int .i64 0, .int .i64 6]) | some n => e = .returned (.tuple #[.int .i64 (n : Int), .int .i64 0])) ∧ Below w.heap.size w w' := fun W hb => (rows_anyS s S m cp W hm (hS.keep hb hb.size) hwf hml).mono fun e w' ⟨h1, h2⟩ => ⟨by rw [if_neg (by rw [hv]; decide)] at h2; exact h2, hb.trans (h1.mono hb.size)⟩
  cases hrl : rowsL s with
  | none =>
    rw [hrl] at hro
    have h13 : someE s 13 = true := by
      rw [some_rounds s hv 12]
      have := rowsL_none hrl (n := 12) (by rw [← hm]; exact c1)
      cases hc : rounds (leadP s) 12 (List.range s.length) with
      | nil => exact absurd hc this
      | cons a l => rfl
    have HSO := Lib.hid (fun W (hb : Below w.heap.size w W) => some_int s S m cp 13 13 true w W rfl h13 hm hv hS hwf (by decide) (by decide) hb)
    have HRO := Lib.hid hro
    clear hm hS hwf hEnv hv hva hro hrl h13
    go_enter Tryz.func3, Tryz.ntmps3
    go_wp2_with (first | (go_at_call 4; refine HVA.out.mono ?_; rintro e w1 ⟨rfl, hb1⟩) | (go_at_call 6; refine (HRO.out _ (by assumption)).mono ?_; rintro e w2 ⟨rfl, hb2⟩) | (go_at_call 7; refine (HSO.out _ (by assumption)).mono ?_; rintro e w3 ⟨rfl, hb3⟩; have hb03 := Below.trans (by assumption) (hb3.mono (Below.size (by assumption)))) | (go_at_call 5; refine (HAW.out _ (by first | assumption | exact Below.alloc hb05 hb05.size _)).mono ?_; rintro e wz ⟨rfl, hbz⟩))
    go_ret
    exact ⟨rfl, hbz⟩
  | some j =>
    rw [hrl] at hro
    obtain ⟨hj, hje, hjn⟩ := rowsL_some hrl
    have hj12 : j ≤ 12 := by omega
    have hjm : (j : Int) ≤ (m : Int) := by omega
    have hj0 : (0 : Int) ≤ (j : Int) := by omega
    have hjt : (j : Int) ≤ 12 := by omega
    have h1 : someE s (j + 1) = false := by rw [some_rounds s hv j, hje]; rfl
    have HSO := Lib.hid (fun W (hb : Below w.heap.size w W) => some_int s S m cp (j + 1) ((j : Int) + 1) false w W (by omega) h1 hm hv hS hwf (by omega) (by omega) hb)
    have HFI := Lib.hid (fun W (hb : Below w.heap.size w W) (h8 : j + 1 ≤ 8) => first_row s S m cp j W hm hv (hS.keep hb hb.size) hwf h8 hje)
    obtain ⟨g, hg⟩ : ∃ g, g = tooM m (j + 1) := ⟨_, rfl⟩
    have HGR := Lib.hid (fun W => show Calls Tryz.prog 9 #[.slice S m cp, .int .i64 ((j : Int) + 1)] W fun e w' => e = .returned (.bool g) ∧ W = w' by
      have := rgreat_any S m cp (j + 1) (tooM m (j + 1)) W rfl (by omega) (by omega)
      rw [← hg] at this
      exact this)
    rw [← hg] at HFI
    have HRO := Lib.hid hro
    have hj3 : (j : Int) + 1 ≤ 13 := by omega
    rcases Nat.eq_zero_or_pos j with hz | hp
    · have h8 : j + 1 ≤ 8 := by omega
      have HFI' := Lib.hid (fun W hb => HFI.out W hb h8)
      have h8' : (j : Int) + 1 ≤ 8 := by omega
      have hz0 : (j : Int) ≤ 0 := by omega
      clear HFI hm hS hwf hEnv hv hva hro hrl hg hj hje hjn h1 h8 hz
      cases g
      all_goals
        go_enter Tryz.func3, Tryz.ntmps3
        go_wp2_with (first | (go_at_call 4; refine HVA.out.mono ?_; rintro e w1 ⟨rfl, hb1⟩) | (go_at_call 6; refine (HRO.out _ (by assumption)).mono ?_; rintro e w2 ⟨rfl, hb2⟩) | (go_at_call 7; with_reducible refine (HSO.out _ (by assumption)).mono ?_; rintro e w3 ⟨rfl, hb3⟩; have hb03 := Below.trans (by assumption) (hb3.mono (Below.size (by assumption)))) | (go_at_call 7; with_reducible refine (HSO2.out _ (by assumption)).mono ?_; rintro e w4 ⟨rfl, hb4⟩; have hb04 := Below.trans (by assumption) (hb4.mono (Below.size (by assumption)))) | (go_at_call 8; refine (HFI'.out _ (by assumption)).mono ?_; rintro e w5 ⟨rfl, hb5⟩; have hb05 := Below.trans (by assumption) (hb5.mono (Below.size (by assumption)))) | (go_at_call 9; refine (HGR.out _).mono ?_; rintro e w6 ⟨rfl, rfl⟩) | (go_at_call 5; refine (HAW.out _ (by first | assumption | exact Below.alloc hb05 hb05.size _)).mono ?_; rintro e wz ⟨rfl, hbz⟩))
        go_ret
        exact ⟨rfl, hbz⟩
    have h2 : someE s j = true := by
      obtain ⟨i, hi⟩ : ∃ i, j = i + 1 := ⟨j - 1, by omega⟩
      rw [hi, some_rounds s hv i]
      have := hjn i (by omega)
      cases hc : rounds (leadP s) i (List.range s.length) with
      | nil => exact absurd hc this
      | cons a l => rfl
    have hp0 : (0 : Int) < (j : Int) := by omega
    have HSO2 := Lib.hid (fun W (hb : Below w.heap.size w W) => some_int s S m cp j (j : Int) true w W rfl h2 hm hv hS hwf (by omega) (by omega) hb)
    by_cases h8 : j + 1 ≤ 8
    · have HFI' := Lib.hid (fun W hb => HFI.out W hb h8)
      have h8' : (j : Int) + 1 ≤ 8 := by omega
      clear HFI hm hS hwf hEnv hv hva hro hrl hg hj hje hjn h1 h2 h8
      cases g
      all_goals
        go_enter Tryz.func3, Tryz.ntmps3
        go_wp2_with (first | (go_at_call 4; refine HVA.out.mono ?_; rintro e w1 ⟨rfl, hb1⟩) | (go_at_call 6; refine (HRO.out _ (by assumption)).mono ?_; rintro e w2 ⟨rfl, hb2⟩) | (go_at_call 7; with_reducible refine (HSO.out _ (by assumption)).mono ?_; rintro e w3 ⟨rfl, hb3⟩; have hb03 := Below.trans (by assumption) (hb3.mono (Below.size (by assumption)))) | (go_at_call 7; with_reducible refine (HSO2.out _ (by assumption)).mono ?_; rintro e w4 ⟨rfl, hb4⟩; have hb04 := Below.trans (by assumption) (hb4.mono (Below.size (by assumption)))) | (go_at_call 8; refine (HFI'.out _ (by assumption)).mono ?_; rintro e w5 ⟨rfl, hb5⟩; have hb05 := Below.trans (by assumption) (hb5.mono (Below.size (by assumption)))) | (go_at_call 9; refine (HGR.out _).mono ?_; rintro e w6 ⟨rfl, rfl⟩) | (go_at_call 5; refine (HAW.out _ (by first | assumption | exact Below.alloc hb05 hb05.size _)).mono ?_; rintro e wz ⟨rfl, hbz⟩))
        go_ret
        exact ⟨rfl, hbz⟩
    · have h8' : 8 < (j : Int) + 1 := by omega
      clear HFI hm hS hwf hEnv hv hva hro hrl hg hj hje hjn h1 h2
      go_enter Tryz.func3, Tryz.ntmps3
      go_wp2_with (first | (go_at_call 4; refine HVA.out.mono ?_; rintro e w1 ⟨rfl, hb1⟩) | (go_at_call 6; refine (HRO.out _ (by assumption)).mono ?_; rintro e w2 ⟨rfl, hb2⟩) | (go_at_call 7; with_reducible refine (HSO.out _ (by assumption)).mono ?_; rintro e w3 ⟨rfl, hb3⟩; have hb03 := Below.trans (by assumption) (hb3.mono (Below.size (by assumption)))) | (go_at_call 7; with_reducible refine (HSO2.out _ (by assumption)).mono ?_; rintro e w4 ⟨rfl, hb4⟩; have hb04 := Below.trans (by assumption) (hb4.mono (Below.size (by assumption)))) | (go_at_call 8; refine (HFI'.out _ (by assumption)).mono ?_; rintro e w5 ⟨rfl, hb5⟩; have hb05 := Below.trans (by assumption) (hb5.mono (Below.size (by assumption)))) | (go_at_call 9; refine (HGR.out _).mono ?_; rintro e w6 ⟨rfl, rfl⟩) | (go_at_call 5; refine (HAW.out _ (by first | assumption | exact Below.alloc hb05 hb05.size _)).mono ?_; rintro e wz ⟨rfl, hbz⟩))
      go_ret
      exact ⟨rfl, hbz⟩
end Go.Proofs.YtgadfmknjpanpaaGreatDoor
