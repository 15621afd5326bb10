/-
  ref02: at, with, Colours.
-/
import Derived.Test.YteaoaglgoeichaaDoorFp
import Derived.Test.YteaoaglgoeichaaDoorSw
import Derived.Test.YteaoaglgoeichaaDoorTw
import Derived.Maps.AppendAt
namespace Go.Proofs.YteaoaglgoeichaaDoor
open Go.RowKit Go.Maps Go.BigFrame Go.Sort
set_option linter.unusedVariables false
set_option maxRecDepth 100000

theorem getD_take_mem {l : List Int} {v : Int} {k : Nat} (hk : k < l.length) (h : v ∉ l.take k) (e : l.getD k 0 = v) : atL l v = k := by
  have hv : v ∈ l := by
    rw [List.getD_eq_getElem?_getD, List.getElem?_eq_getElem hk] at e
    have e' : l[k] = v := by simpa using e
    rw [← e']
    exact List.getElem_mem hk
  unfold atL
  rw [if_pos hv]
  have e1 : l = l.take k ++ v :: l.drop (k + 1) := by
    rw [List.getD_eq_getElem?_getD, List.getElem?_eq_getElem hk] at e
    have e' : l[k] = v := by simpa using e
    rw [← e', ← List.drop_eq_getElem_cons hk, List.take_append_drop]
  have : l.idxOf v = k := by
    conv => lhs; rw [e1]
    rw [List.idxOf_append, if_neg h, List.idxOf_cons_self, List.length_take]
    omega
  rw [this]
set_option maxHeartbeats 1000000 in
theorem rat_any (l : List Int) (A : Option Addr) (n c : Nat) (v : Int) (w : World) (hn : n = l.length) (hl : n ≤ 9223372036854775807) (hI : IntsIn w w.heap.size A l) :
    Calls Tryd.prog 43 #[.slice A n c, .int .i64 v] w fun e w' => e = .returned (.int .i64 (atL l v)) ∧ w = w' := by
  have HN := Lib.hid hn
  clear hn
  go_enter Tryd.func43, Tryd.ntmps43
  go_wp2
  go_loop [5] (fun i => ∃ k : Nat, k ≤ n ∧ i = .int .i64 k ∧ Hid (v ∉ l.take k)) (fun i => n - (intOf i).toNat)
  case atStart => exact ⟨0, Nat.zero_le _, rfl, by simp [Hid]⟩
  case round =>
    obtain ⟨k, hk, rfl, hno⟩ := hrel
    by_cases hlt : k < n
    · have hkl : k < l.length := by rw [← HN.out]; exact hlt
      obtain ⟨b, off, rfl, hb, hc⟩ := hI (ne_nil_of_lt hkl)
      obtain ⟨u, hu⟩ : ∃ u, u = l.getD k 0 := ⟨_, rfl⟩
      have hcell := hc k hkl
      rw [← hu] at hcell
      clear hc hI
      by_cases e : u = v
      · have HA : Hid (atL l v = k) := getD_take_mem hkl hno.out (by rw [← hu]; exact e)
        have he : (u == v) = true := beq_iff_eq.2 e
        clear hu e hno hkl
        go_wp2
        go_ret
        exact ⟨by rw [HA.out]; rfl, rfl⟩
      · have HA : Hid (v ∉ l.take (k + 1)) := by
          show ¬ _
          rw [List.take_succ_eq_append_getElem hkl]
          intro h
          rcases List.mem_append.1 h with h1 | h1
          · exact hno.out h1
          · rw [List.mem_singleton] at h1
            apply e
            rw [hu, List.getD_eq_getElem?_getD, List.getElem?_eq_getElem hkl, h1]
            rfl
        have he : (u == v) = false := beq_eq_false_iff_ne.2 e
        clear hu e hno hkl
        go_wp2
        go_round
        case rel => exact ⟨k + 1, by omega, by go_num, HA⟩
        case measure => simp [intOf]; omega
    · have HA : Hid (atL l v = -1) := by
        show _ = _
        unfold atL
        have := hno.out
        rw [List.take_of_length_le (by rw [← HN.out]; omega)] at this
        rw [if_neg this]
      clear hno
      go_wp2
      go_ret
      exact ⟨by rw [HA.out]; rfl, rfl⟩
/-- a row of integers of the call's own -/
theorem own_ints {w : World} {base n : Nat} {e : TypeId} {v : Value} {l : List Int} (h : w.ownsRow base e 1 v n (l.map (Value.int .i64))) : ∃ A c, v = .slice A n c ∧ n = l.length ∧ n ≤ c ∧ n ≤ maxLen ∧ IntsIn w w.heap.size A l ∧ ∀ b, A = some b → base ≤ b.block := by
  have hl : l.length = n := by have := h.1; simp at this; omega
  rcases h.2 with ⟨rfl, h0⟩ | ⟨g, cap, cur, rfl, hb, hh, hnc, hm, hs, hx⟩
  · subst h0
    have : l = [] := List.eq_nil_of_length_eq_zero hl
    subst this
    exact ⟨none, 0, rfl, rfl, Nat.le_refl _, by simp [maxLen], fun hne => absurd rfl hne, fun b hb => by cases hb⟩
  · refine ⟨_, cap, rfl, hl.symm, hnc, Nat.le_trans hnc hm, fun _ => ⟨g, 0, rfl, (Array.getElem?_eq_some_iff.1 hh).1, fun i hi => ?_⟩, fun b hb' => by cases hb'; exact hb⟩
    rw [Nat.zero_add, h.cellAt i (by omega), List.getElem?_map, List.getElem?_eq_getElem hi, List.getD_eq_getElem?_getD, List.getElem?_eq_getElem hi]
    rfl
theorem int_info : (Tryd.prog.info? 3).map (fun i => (i.zero, i.size, i.bytes)) = some (some (.int .i64 0), 1, 8) := by kernel_rfl
set_option maxHeartbeats 1000000 in
theorem rwith_any (l : List Int) (V : Value) (n : Nat) (v : Int) (base : Nat) (w : World) (hn : n = l.length) (hl : n ≤ 1000000000) (hb : base ≤ w.heap.size) (hown : w.ownsRow base 3 1 V n (l.map (Value.int .i64))) :
    Calls Tryd.prog 37 #[V, .int .i64 v] w fun e w' => ∃ V', e = .returned V' ∧ w'.ownsRow base 3 1 V' (addIf l v).length ((addIf l v).map (Value.int .i64)) ∧ Below base w w' := by
  obtain ⟨A, c, rfl, hnl, hnc, hnm, hI, hA⟩ := own_ints hown
  obtain ⟨i0, hi, hz0, hz1, hz2⟩ := info_parts int_info
  have hat := fun (W : World) (h : IntsIn W W.heap.size A l) => rat_any l A n c v W hn (by omega) h
  have HO := Lib.hid hown
  by_cases h : v ∈ l
  · have hp := (atL_range h).1
    have e : addIf l v = l := by unfold addIf; rw [if_pos h]
    have hres := hat w hI
    obtain ⟨p, hpe⟩ : ∃ p, p = atL l v := ⟨_, rfl⟩
    rw [← hpe] at hp hres
    rw [e]
    rw [hn] at HO
    subst hn
    clear hpe hat e h hnl hown
    go_enter Tryd.func37, Tryd.ntmps37
    go_wp2_with fail
    refine hres.mono ?_
    rintro e w1 ⟨rfl, rfl⟩
    go_wp2_with fail
    go_ret
    exact ⟨_, rfl, HO.out, Below.refl _ _⟩
  · have hm1 : atL l v = -1 := by unfold atL; rw [if_neg h]
    have e : addIf l v = l ++ [v] := by unfold addIf; rw [if_neg h]
    have hres := hat w hI
    rw [hm1] at hres
    rw [e]
    have HE : Hid (n = l.length) := hn
    clear hat hm1 e h hnl hown hn
    go_enter Tryd.func37, Tryd.ntmps37
    go_wp2_with fail
    refine hres.mono ?_
    rintro e w1 ⟨rfl, rfl⟩
    go_wp2_with (at_builtin; refine wpList_append_own_at _ rfl _ _ 25 rfl base 3 i0 _ 1 8 Tryd.underlying25 hi hz0 hz1 hz2 rfl (by decide) _ _ _ rfl (HO.out.alloc _) ⟨w.heap.size, 0, none⟩ 1 1 [.int .i64 v] rfl rfl (cell_one_new _ _ _) (by simp [Value.oneCell']) (by simp only [maxLen]; omega) (by omega) (by simp; omega) ?_; intro v' w4 hown4 hgrow4 hnil4 hat4)
    go_ret
    refine ⟨_, rfl, ?_, ?_⟩
    · rw [List.length_append, ← HE.out, List.map_append]
      exact hown4
    · exact ((Below.refl _ _).alloc hb _).grown hgrow4 (by simp; omega) (fun k hk => (HO.out.lt k hk).1)
end Go.Proofs.YteaoaglgoeichaaDoor
