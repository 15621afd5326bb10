/-
  groutworkref03.Heavy.
-/
import Derived.Test.YteaoaglgoeichaaDoorFi
namespace Go.Proofs.YteaoaglgoeichaaDoor
open Go.RowKit Go.Maps
set_option linter.unusedVariables false
set_option maxRecDepth 100000

def heavyR (s : List Tl) (k : Nat) : Bool := decide (40 < s.length) || (decide (800 < pw (colsOf s).length k) || decide (8000 < pw s.length k))
set_option maxHeartbeats 1000000 in
theorem rheavy_any (s : List Tl) (S : Option Addr) (m d k : Nat) (r : Bool) (w : World) (hm : m = s.length) (hS : SetIn w w.heap.size S s) (hml : m ≤ 1100) (hk : k ≤ 1000) (hr : heavyR s k = r) :
    Calls Tryd.prog 9 #[.slice S m d, .int .i64 k] w fun e w' => e = .returned (.bool r) ∧ Below w.heap.size w w' := by
  have hc := rcolours_any s S m d w hm hS (by omega)
  have hcl := cols_len s
  obtain ⟨n, hn⟩ : ∃ n, n = (colsOf s).length := ⟨_, rfl⟩
  have hr' : (decide (40 < m) || (decide (800 < pw n k) || decide (8000 < pw m k))) = r := by rw [← hr, hn, hm]; rfl
  have hnl : n ≤ 2200 := by omega
  rw [← hn] at hc
  have p1 := fun (W : World) => rpower_any n k W (by omega) (by omega)
  have p2 := fun (W : World) => rpower_any m k W (by omega) (by omega)
  obtain ⟨x, hx⟩ : ∃ x, x = pw n k := ⟨_, rfl⟩
  obtain ⟨y, hy⟩ : ∃ y, y = pw m k := ⟨_, rfl⟩
  rw [← hx] at hr' p1
  rw [← hy] at hr' p2
  clear hm hn hx hy hr hS hcl
  have own_len : ∀ (W : World) V, W.ownsRow w.heap.size 3 1 V n ((colsOf s).map (Value.int .i64)) → ∃ A c, V = .slice A n c := fun W V h => by
    rcases h.2 with ⟨rfl, h0⟩ | ⟨g, cap, cur, rfl, _⟩
    · exact ⟨none, 0, by rw [h0]⟩
    · exact ⟨_, _, rfl⟩
  by_cases h0 : 40 < m
  · have d0 : decide ((40 : Int) < (m : Int)) = true := by simp; omega
    have hr2 : r = true := by rw [← hr']; simp [h0]
    subst hr2
    clear hr' hc p1 p2
    go_enter Tryd.func9, Tryd.ntmps9
    go_wp2_with fail
    go_ret
    exact ⟨rfl, Below.refl _ _⟩
  have d0 : decide ((40 : Int) < (m : Int)) = false := by simp; omega
  by_cases h1 : 800 < x
  · have d1 : decide ((800 : Int) < (x : Int)) = true := by simp; omega
    have hr2 : r = true := by rw [← hr']; simp [h1]
    subst hr2
    clear hr'
    go_enter Tryd.func9, Tryd.ntmps9
    go_wp2_with fail
    refine hc.mono ?_
    rintro e w1 ⟨V, rfl, hown, hb⟩
    obtain ⟨A, c, rfl⟩ := own_len _ _ hown
    clear hown own_len
    go_wp2_with fail
    refine (p1 _).mono ?_
    rintro e w2 ⟨rfl, rfl⟩
    go_wp2_with fail
    go_ret
    exact ⟨rfl, hb⟩
  have d1 : decide ((800 : Int) < (x : Int)) = false := by simp; omega
  have hr2 : r = decide (8000 < y) := by rw [← hr']; simp [h0, h1]
  have hr3 : decide ((8000 : Int) < (y : Int)) = r := by rw [hr2, Bool.eq_iff_iff, decide_eq_true_eq, decide_eq_true_eq]; omega
  clear hr' hr2
  go_enter Tryd.func9, Tryd.ntmps9
  go_wp2_with fail
  refine hc.mono ?_
  rintro e w1 ⟨V, rfl, hown, hb⟩
  obtain ⟨A, c, rfl⟩ := own_len _ _ hown
  clear hown own_len
  go_wp2_with fail
  refine (p1 _).mono ?_
  rintro e w2 ⟨rfl, rfl⟩
  go_wp2_with fail
  refine (p2 _).mono ?_
  rintro e w2 ⟨rfl, rfl⟩
  go_wp2_with fail
  go_ret
  exact ⟨rfl, hb⟩
end Go.Proofs.YteaoaglgoeichaaDoor
