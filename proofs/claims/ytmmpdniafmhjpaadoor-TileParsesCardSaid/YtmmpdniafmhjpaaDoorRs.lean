/-
  groutworkref01: Mirror, Upturn, Turn.
-/
import Derived.Test.YtmmpdniafmhjpaaDoorRq
import Derived.Test.YtmmpdniafmhjpaaDoorCs
namespace Go.Proofs.YtmmpdniafmhjpaaDoor
open Go.RowKit Go.Maps Go.BigFrame
set_option linter.unusedVariables false
set_option maxRecDepth 100000

theorem own_cap {w : World} {base n : Nat} {e : TypeId} {s : List Tl} {A : Option Addr} {c : Nat} (h : w.ownsRow base e 4 (.slice A n c) n (tcells s)) : n ≤ c ∧ c ≤ maxLen := by
  rcases h.2 with ⟨h0, hn⟩ | ⟨g, cap, cur, hv, hb, hh, hnc, hm, hs, hx⟩
  · simp at h0; rw [hn, h0.2.2]; exact ⟨Nat.le_refl _, Nat.zero_le _⟩
  · simp at hv; rw [hv.2]; exact ⟨hnc, hm⟩
def IsRSet (s' : List Tl) (W : World) (e : Ending) (w' : World) : Prop := Below W.heap.size W w' ∧ ∃ A c, e = .returned (.slice A s'.length c) ∧ s'.length ≤ c ∧ c ≤ maxLen ∧ SetNew w' W.heap.size A s'
theorem map_take_snoc (s : List Tl) (g : Tl → Tl) (k : Nat) (hk : k < s.length) : tcells ((s.map g).take k) ++ tc (g (s.getD k ⟨0, 0, 0, 0⟩)) = tcells ((s.map g).take (k + 1)) := by
  rw [tcells_snoc, ← List.map_take, ← List.map_take, take_snoc s k hk ⟨0, 0, 0, 0⟩, List.map_append]; rfl

set_option maxHeartbeats 2000000 in
theorem rmir_any (s : List Tl) (A : Option Addr) (m c : Nat) (w : World) (hm : m = s.length) (hml : m ≤ 1000000) (hS : SetIn w w.heap.size A s) :
    Calls Tryd.prog 23 #[.slice A m c] w (IsRSet (s.map mirT) w) := by
  have HM := Lib.hid hm
  have HS := Lib.hid hS
  obtain ⟨i0, hi, hz0, hz1, hz2⟩ := info_parts tile_info
  clear hm hS
  go_enter Tryd.func23, Tryd.ntmps23
  go_wp2
  go_loopw [3, 4] (fun v i wr => ∃ k : Nat, k ≤ m ∧ i = .int .i64 k ∧ wr.ownsRow w.heap.size 58 4 v k (tcells ((s.map mirT).take k)) ∧ Below w.heap.size w wr) (fun _ i _ => m - (intOf i).toNat)
  case atStart => exact ⟨0, Nat.zero_le _, rfl, by simpa [tcells] using World.ownsRow_nil w _ _ 4, Below.refl _ _⟩
  case round =>
    obtain ⟨k, hk, rfl, hown, hbr⟩ := hrel
    obtain ⟨wo, rfl⟩ : ∃ wo : World, wo = wr := ⟨_, rfl⟩
    by_cases hlt : k < m
    · have hkc : k < s.length := by rw [← HM.out]; exact hlt
      obtain ⟨bk, off, rfl, hbk, d0, d1, d2, d3⟩ := set_at HS.out hbr hkc
      obtain ⟨t, ht⟩ : ∃ t, t = s.getD k ⟨0, 0, 0, 0⟩ := ⟨_, rfl⟩
      have hst := map_take_snoc s mirT k hkc
      rw [← ht] at d0 d1 d2 d3 hst
      simp only [tc, mirT] at hst
      have HST := Lib.hid hst
      have hbs : bk < wo.heap.size := Nat.lt_of_lt_of_le hbk hbr.size
      have hsz := hbr.size
      clear hkc ht hst
      go_wp2_with (at_builtin; refine wpList_append_own _ rfl _ _ 22 rfl w.heap.size 58 i0 (.agg #[.int .i64 0, .int .i64 0, .int .i64 0, .int .i64 0]) 4 32 Tryd.underlying22 hi hz0 hz1 hz2 rfl (by decide) _ _ _ rfl ((hown.alloc _).alloc _) ⟨_, 0, none⟩ 1 1 [_, _, _, _] rfl rfl (cell_four_new _ _ (by simp) _ _ _ _ _) (four_one _ _ _ _) (by simp only [maxLen]; omega) (by omega) (by simp; omega) ?_; intro v' w4 hown4 hgrow4 hnil4)
      have hb4 : Below w.heap.size w w4 := ((hbr.alloc hbr.size _).alloc (by simp; omega) _).grown hgrow4 (by simp; omega) (fun k hk => (hown.lt k hk).1)
      rw [HST.out] at hown4
      clear hnil4 hgrow4
      go_roundw
      case rel => exact ⟨k + 1, by omega, by go_num, hown4, hb4⟩
      case measure => simp [intOf]; omega
    · have e : k = m := by omega
      subst e
      rw [List.take_of_length_le (by rw [List.length_map, ← HM.out]; omega)] at hown
      obtain ⟨B, d, rfl, hkl, hkm, hnew⟩ := own_set hown
      have hcap := own_cap hown
      have HKL := Lib.hid hkl
      clear hown hkl hkm
      go_wp2
      go_ret
      exact ⟨hbr, B, d, by rw [← HKL.out]; rfl, by rw [← HKL.out]; exact hcap.1, hcap.2, hnew⟩

set_option maxHeartbeats 2000000 in
theorem rup_any (s : List Tl) (A : Option Addr) (m c : Nat) (w : World) (hm : m = s.length) (hml : m ≤ 1000000) (hS : SetIn w w.heap.size A s) :
    Calls Tryd.prog 24 #[.slice A m c] w (IsRSet (s.map upT) w) := by
  have HM := Lib.hid hm
  have HS := Lib.hid hS
  obtain ⟨i0, hi, hz0, hz1, hz2⟩ := info_parts tile_info
  clear hm hS
  go_enter Tryd.func24, Tryd.ntmps24
  go_wp2
  go_loopw [3, 4] (fun v i wr => ∃ k : Nat, k ≤ m ∧ i = .int .i64 k ∧ wr.ownsRow w.heap.size 58 4 v k (tcells ((s.map upT).take k)) ∧ Below w.heap.size w wr) (fun _ i _ => m - (intOf i).toNat)
  case atStart => exact ⟨0, Nat.zero_le _, rfl, by simpa [tcells] using World.ownsRow_nil w _ _ 4, Below.refl _ _⟩
  case round =>
    obtain ⟨k, hk, rfl, hown, hbr⟩ := hrel
    obtain ⟨wo, rfl⟩ : ∃ wo : World, wo = wr := ⟨_, rfl⟩
    by_cases hlt : k < m
    · have hkc : k < s.length := by rw [← HM.out]; exact hlt
      obtain ⟨bk, off, rfl, hbk, d0, d1, d2, d3⟩ := set_at HS.out hbr hkc
      obtain ⟨t, ht⟩ : ∃ t, t = s.getD k ⟨0, 0, 0, 0⟩ := ⟨_, rfl⟩
      have hst := map_take_snoc s upT k hkc
      rw [← ht] at d0 d1 d2 d3 hst
      simp only [tc, upT] at hst
      have HST := Lib.hid hst
      have hbs : bk < wo.heap.size := Nat.lt_of_lt_of_le hbk hbr.size
      have hsz := hbr.size
      clear hkc ht hst
      go_wp2_with (at_builtin; refine wpList_append_own _ rfl _ _ 22 rfl w.heap.size 58 i0 (.agg #[.int .i64 0, .int .i64 0, .int .i64 0, .int .i64 0]) 4 32 Tryd.underlying22 hi hz0 hz1 hz2 rfl (by decide) _ _ _ rfl ((hown.alloc _).alloc _) ⟨_, 0, none⟩ 1 1 [_, _, _, _] rfl rfl (cell_four_new _ _ (by simp) _ _ _ _ _) (four_one _ _ _ _) (by simp only [maxLen]; omega) (by omega) (by simp; omega) ?_; intro v' w4 hown4 hgrow4 hnil4)
      have hb4 : Below w.heap.size w w4 := ((hbr.alloc hbr.size _).alloc (by simp; omega) _).grown hgrow4 (by simp; omega) (fun k hk => (hown.lt k hk).1)
      rw [HST.out] at hown4
      clear hnil4 hgrow4
      go_roundw
      case rel => exact ⟨k + 1, by omega, by go_num, hown4, hb4⟩
      case measure => simp [intOf]; omega
    · have e : k = m := by omega
      subst e
      rw [List.take_of_length_le (by rw [List.length_map, ← HM.out]; omega)] at hown
      obtain ⟨B, d, rfl, hkl, hkm, hnew⟩ := own_set hown
      have hcap := own_cap hown
      have HKL := Lib.hid hkl
      clear hown hkl hkm
      go_wp2
      go_ret
      exact ⟨hbr, B, d, by rw [← HKL.out]; rfl, by rw [← HKL.out]; exact hcap.1, hcap.2, hnew⟩

set_option maxHeartbeats 2000000 in
theorem rtur_any (s : List Tl) (A : Option Addr) (m c : Nat) (w : World) (hm : m = s.length) (hml : m ≤ 1000000) (hS : SetIn w w.heap.size A s) :
    Calls Tryd.prog 25 #[.slice A m c] w (IsRSet (s.map turT) w) := by
  have HM := Lib.hid hm
  have HS := Lib.hid hS
  obtain ⟨i0, hi, hz0, hz1, hz2⟩ := info_parts tile_info
  clear hm hS
  go_enter Tryd.func25, Tryd.ntmps25
  go_wp2
  go_loopw [3, 4] (fun v i wr => ∃ k : Nat, k ≤ m ∧ i = .int .i64 k ∧ wr.ownsRow w.heap.size 58 4 v k (tcells ((s.map turT).take k)) ∧ Below w.heap.size w wr) (fun _ i _ => m - (intOf i).toNat)
  case atStart => exact ⟨0, Nat.zero_le _, rfl, by simpa [tcells] using World.ownsRow_nil w _ _ 4, Below.refl _ _⟩
  case round =>
    obtain ⟨k, hk, rfl, hown, hbr⟩ := hrel
    obtain ⟨wo, rfl⟩ : ∃ wo : World, wo = wr := ⟨_, rfl⟩
    by_cases hlt : k < m
    · have hkc : k < s.length := by rw [← HM.out]; exact hlt
      obtain ⟨bk, off, rfl, hbk, d0, d1, d2, d3⟩ := set_at HS.out hbr hkc
      obtain ⟨t, ht⟩ : ∃ t, t = s.getD k ⟨0, 0, 0, 0⟩ := ⟨_, rfl⟩
      have hst := map_take_snoc s turT k hkc
      rw [← ht] at d0 d1 d2 d3 hst
      simp only [tc, turT] at hst
      have HST := Lib.hid hst
      have hbs : bk < wo.heap.size := Nat.lt_of_lt_of_le hbk hbr.size
      have hsz := hbr.size
      clear hkc ht hst
      go_wp2_with (at_builtin; refine wpList_append_own _ rfl _ _ 22 rfl w.heap.size 58 i0 (.agg #[.int .i64 0, .int .i64 0, .int .i64 0, .int .i64 0]) 4 32 Tryd.underlying22 hi hz0 hz1 hz2 rfl (by decide) _ _ _ rfl ((hown.alloc _).alloc _) ⟨_, 0, none⟩ 1 1 [_, _, _, _] rfl rfl (cell_four_new _ _ (by simp) _ _ _ _ _) (four_one _ _ _ _) (by simp only [maxLen]; omega) (by omega) (by simp; omega) ?_; intro v' w4 hown4 hgrow4 hnil4)
      have hb4 : Below w.heap.size w w4 := ((hbr.alloc hbr.size _).alloc (by simp; omega) _).grown hgrow4 (by simp; omega) (fun k hk => (hown.lt k hk).1)
      rw [HST.out] at hown4
      clear hnil4 hgrow4
      go_roundw
      case rel => exact ⟨k + 1, by omega, by go_num, hown4, hb4⟩
      case measure => simp [intOf]; omega
    · have e : k = m := by omega
      subst e
      rw [List.take_of_length_le (by rw [List.length_map, ← HM.out]; omega)] at hown
      obtain ⟨B, d, rfl, hkl, hkm, hnew⟩ := own_set hown
      have hcap := own_cap hown
      have HKL := Lib.hid hkl
      clear hown hkl hkm
      go_wp2
      go_ret
      exact ⟨hbr, B, d, by rw [← HKL.out]; rfl, by rw [← HKL.out]; exact hcap.1, hcap.2, hnew⟩

end Go.Proofs.YtmmpdniafmhjpaaDoor
