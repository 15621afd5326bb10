/-
  groutworklaw03.TorusFinds and groutworklaw03.TorusLeast return true, for every set, size and limit.
-/
import Derived.Test.YteaoaglgoeichaaDoorRy
import Derived.Test.YteaoaglgoeichaaDoorRh
import Derived.Test.YteaoaglgoeichaaDoorEx
import Derived.Test.YteaoaglgoeichaaDoorTaw
namespace Go.Proofs.YteaoaglgoeichaaDoor
open Go.RowKit Go.Maps Go.BigFrame
set_option linter.unusedVariables false
set_option linter.unusedSimpArgs false
set_option maxRecDepth 100000

theorem pw_lower {b a k L : Nat} (h1 : 1 ≤ a) (hak : a ≤ k) (hL : L < 1000000) (h : pw b k ≤ L) : pw b a ≤ L := by
  unfold pw at h ⊢
  rcases Nat.eq_zero_or_pos b with rfl | hb
  · rw [Nat.zero_pow (by omega)]; omega
  · have := Nat.pow_le_pow_right hb hak
    omega
theorem heavy_facts {s : List Tl} {k : Nat} (h : heavyR s k = false) {a : Nat} (h1 : 1 ≤ a) (hak : a ≤ k) : pw (colsOf s).length a ≤ 1500 ∧ pw s.length a ≤ 40000 ∧ (rws s a).length ≤ 1000000000 := by
  unfold heavyR at h
  simp only [Bool.or_eq_false_iff, decide_eq_false_iff_not] at h
  have h2 := pw_lower h1 hak (L := 800) (by omega) (by omega : pw (colsOf s).length k ≤ 800)
  have h3 := pw_lower h1 hak (L := 8000) (by omega) (by omega : pw s.length k ≤ 8000)
  refine ⟨by omega, by omega, Nat.le_trans (rws_countT s a) ?_⟩
  unfold pw at h3
  omega
set_option maxHeartbeats 1000000 in
theorem no3_any (n : Int) (w : World) : Calls Tryd.prog 8 #[.agg #[.int .i64 0, .int .i64 0, .slice none 0 0], .int .i64 n, .int .i64 n] w fun e w' => e = .returned (.bool true) ∧ Below w.heap.size w w' := by
  have hs := fun (W : World) => rsameP_any 0 0 [] none none 0 0 0 0 W rfl rfl (by omega) (fun h => absurd rfl h) (fun h => absurd rfl h)
  go_enter Tryd.func8, Tryd.ntmps8
  go_wp2_with (go_at_call 16; refine (hs _).mono ?_; rintro e w2 ⟨rfl, hb2⟩)
  go_ret
  exact ⟨rfl, ((Below.refl w.heap.size w).alloc (Nat.le_refl _) _).trans (hb2.mono (by simp))⟩
set_option maxHeartbeats 1000000 in
theorem is3_no (w : World) : Calls Tryd.prog 12 #[.agg #[.int .i64 0, .int .i64 0, .slice none 0 0], .int .i64 6, .agg #[.int .i64 0, .int .i64 0, .slice none 0 0], .bool false] w fun e w' => e = .returned (.bool true) ∧ Below w.heap.size w w' := by
  have hs := fun (W : World) => rsameP_any 0 0 [] none none 0 0 0 0 W rfl rfl (by omega) (fun h => absurd rfl h) (fun h => absurd rfl h)
  go_enter Tryd.func12, Tryd.ntmps12
  go_wp2_with (go_at_call 16; refine (hs _).mono ?_; rintro e w2 ⟨rfl, hb2⟩)
  go_ret
  exact ⟨rfl, (((Below.refl w.heap.size w).alloc (Nat.le_refl _) _).alloc (by simp) _).trans (hb2.mono (by simp; omega))⟩
set_option maxHeartbeats 1000000 in
theorem is3_yes (a b : Nat) (l : List Int) (A C : Option Addr) (L c d : Nat) (w : World) (hL : L = l.length) (hLm : L ≤ 9223372036854775807) (hA : IntsIn w w.heap.size A l) (hC : IntsIn w w.heap.size C l) :
    Calls Tryd.prog 12 #[.agg #[.int .i64 (a : Int), .int .i64 (b : Int), .slice A L c], .int .i64 0, .agg #[.int .i64 (a : Int), .int .i64 (b : Int), .slice C L d], .bool true] w fun e w' => e = .returned (.bool true) ∧ Below w.heap.size w w' := by
  have hs := fun (W : World) (hb : Below w.heap.size w W) => rsameP_any (a : Int) (b : Int) l A C L L c d W hL hL hLm (hA.keep hb hb.size) (hC.keep hb hb.size)
  have HS := Lib.hid hs
  have hb0 : Below w.heap.size w ((w.alloc (.cells #[.int .i64 (a : Int), .int .i64 (b : Int), .slice A L c] 27)).alloc (.cells #[.int .i64 (a : Int), .int .i64 (b : Int), .slice C L d] 27)) := ((Below.refl w.heap.size w).alloc (Nat.le_refl _) _).alloc (by simp) _
  clear hs hA hC hL
  go_enter Tryd.func12, Tryd.ntmps12
  go_wp2_with (go_at_call 16; refine (HS.out _ hb0).mono ?_; rintro e w2 ⟨rfl, hb2⟩)
  go_ret
  exact ⟨rfl, hb0.trans (hb2.mono (by simp; omega))⟩

/-- Find where an error is due whatever tori there are -/
theorem find_err (s : List Tl) (S : Option Addr) (m d : Nat) (wd hg c : Int) (w : World) (hm : m = s.length) (hS : SetIn w w.heap.size S s) (hwf : ∀ t ∈ s, twf t) (hml : m ≤ 9223372036854775807) (hc : tcheckE s wd hg = c) (h0 : c ≠ 0) :
    Calls Tryd.prog 7 #[.slice S m d, .int .i64 wd, .int .i64 hg] w fun e w' => e = .returned (.tuple #[.agg #[.int .i64 0, .int .i64 0, .slice none 0 0], .int .i64 c]) ∧ Below w.heap.size w w' :=
  (find_anyT s S m d wd hg w hm hS hwf hml).mono fun e w' h => by
    obtain ⟨h1, h2⟩ := h
    rw [hc, if_pos h0] at h2
    exact ⟨h2, h1⟩
theorem least_err (s : List Tl) (S : Option Addr) (m d : Nat) (mo c : Int) (w : World) (hm : m = s.length) (hS : SetIn w w.heap.size S s) (hwf : ∀ t ∈ s, twf t) (hml : m ≤ 9223372036854775807) (hc : tcheckE s mo mo = c) (h0 : c ≠ 0) :
    Calls Tryd.prog 13 #[.slice S m d, .int .i64 mo] w fun e w' => e = .returned (.tuple #[.agg #[.int .i64 0, .int .i64 0, .slice none 0 0], .int .i64 c]) ∧ Below w.heap.size w w' :=
  (least_anyT s S m d mo w hm hS hwf hml).mono fun e w' h => by
    obtain ⟨h1, h2⟩ := h
    rw [hc, if_pos h0] at h2
    exact ⟨h2, h1⟩
theorem per_no {n : Int} (h : n < 1 ∨ 6 < n) : perB n = false := by
  unfold perB
  rcases h with h | h
  · rw [decide_eq_false (by omega), Bool.false_and]
  · rw [decide_eq_false (by omega : ¬ n ≤ 6), Bool.and_false]
theorem per_yes {n : Int} (h1 : 1 ≤ n) (h2 : n ≤ 6) : perB n = true := by
  unfold perB
  rw [decide_eq_true h1, decide_eq_true h2, Bool.and_true]
set_option maxHeartbeats 8000000 in
theorem tfinds_any (s : List Tl) (S : Option Addr) (m cp : Nat) (wd hg : Int) (w : World) (hEnv : Env w) (hm : m = s.length) (hmd : m ≤ cp) (hdl : cp ≤ 9223372036854775807) (hS : SetIn w w.heap.size S s) (hwf : ∀ t ∈ s, twf t) (hml : m ≤ 9223372036854775807) :
    Calls Tryd.prog 3 #[.slice S m cp, .int .i64 wd, .int .i64 hg] w fun e w' => e = .returned (.bool true) ∧ Below w.heap.size w w' := by
  have HAW : Hid (∀ W, Below w.heap.size w W → Calls Tryd.prog 5 #[] W fun e w' => e = .returned (.bool true) ∧ Below W.heap.size W w') := fun W hb => awake3_any W (hEnv.keep hb)
  by_cases c1 : m ≤ 1100
  rotate_left
  · clear hm hS hwf hEnv
    go_enter Tryd.func3, Tryd.ntmps3
    go_wp2_with (go_at_call 5; refine (HAW.out _ (Below.refl _ _)).mono ?_; rintro e w2 ⟨rfl, hb2⟩)
    go_ret
    exact ⟨rfl, hb2⟩
  have hvA := fun (W : World) (hb : Below w.heap.size w W) => rvalid_any s S m cp W hm hmd hdl (hS.keep hb hb.size)
  have hbad : ∀ c : Int, tcheckE s wd hg = c → c ≠ 0 → Hid (∀ W, Below w.heap.size w W → Calls Tryd.prog 7 #[.slice S m cp, .int .i64 wd, .int .i64 hg] W fun e w' => e = .returned (.tuple #[.agg #[.int .i64 0, .int .i64 0, .slice none 0 0], .int .i64 c]) ∧ Below W.heap.size W w') := fun c hc h0 W hb => find_err s S m cp wd hg c W hm (hS.keep hb hb.size) hwf hml hc h0
  cases hV : vld s
  · have HVA : Hid (∀ W, Below w.heap.size w W → Calls Tryd.prog 6 #[.slice S m cp] W fun e w' => e = .returned (.bool false) ∧ Below W.heap.size W w') := fun W hb => by have := hvA W hb; rw [hV] at this; exact this
    have HFD := hbad 1 (by unfold tcheckE; rw [if_pos hV]) (by decide)
    have hno := no3_any 1
    have HNO := Lib.hid hno
    clear hm hS hwf hEnv hvA hbad hV hno
    go_enter Tryd.func3, Tryd.ntmps3
    go_upto_region 4 with (go_at_call 6; refine (HVA.out _ (Below.refl _ _)).mono ?_; rintro e w2 ⟨rfl, hb2⟩)
    go_upto_region 5 with (go_at_call 7; refine (HFD.out _ hb2).mono ?_; rintro e w3 ⟨rfl, hb3⟩; have hb03 := hb2.trans (hb3.mono hb2.size))
    obtain ⟨W4, hW4⟩ : ∃ W4, W4 = w3.alloc (.cells #[.int .i64 0, .int .i64 0, .slice none 0 0] 27) := ⟨_, rfl⟩
    have hb04 : Below w.heap.size w W4 := by rw [hW4]; exact hb03.alloc hb03.size _
    have hp4 := heap_at w3 (.cells #[.int .i64 0, .int .i64 0, .slice none 0 0] 27) _ rfl
    rw [← hW4] at hp4 ⊢
    have hlt4 : w3.heap.size < W4.heap.size := (Array.getElem?_eq_some_iff.1 hp4).1
    have HP4 := Lib.hid hp4
    clear hW4 hp4
    go_wp2_with (first
      | (go_at_call 6; refine (HVA.out _ hb04).mono ?_; rintro e w5 ⟨rfl, hb5⟩; have hb05 := hb04.trans (hb5.mono hb04.size); obtain ⟨y0, y1, y2, y3⟩ := zcells ((hb5.block w3.heap.size hlt4).trans HP4.out))
      | (go_at_call 8; refine (HNO.out _).mono ?_; rintro e w6 ⟨rfl, hb6⟩; have hb06 := hb05.trans (hb6.mono hb05.size))
      | (go_at_call 5; refine (HAW.out _ hb06).mono ?_; rintro e w7 ⟨rfl, hb7⟩)
      | fail)
    go_ret
    exact ⟨rfl, hb06.trans (hb7.mono hb06.size)⟩
  have HVA : Hid (∀ W, Below w.heap.size w W → Calls Tryd.prog 6 #[.slice S m cp] W fun e w' => e = .returned (.bool true) ∧ Below W.heap.size W w') := fun W hb => by have := hvA W hb; rw [hV] at this; exact this
  by_cases hd1 : wd < 1
  · have HFD := hbad 2 (by unfold tcheckE; rw [if_neg (by rw [hV]; decide), if_pos (Or.inl (per_no (Or.inl hd1)))]) (by decide)
    have hno := no3_any 2
    have HNO := Lib.hid hno
    clear hm hS hwf hEnv hvA hbad hV hno
    go_enter Tryd.func3, Tryd.ntmps3
    go_upto_region 4 with (go_at_call 6; refine (HVA.out _ (Below.refl _ _)).mono ?_; rintro e w2 ⟨rfl, hb2⟩)
    go_upto_region 5 with (go_at_call 7; refine (HFD.out _ hb2).mono ?_; rintro e w3 ⟨rfl, hb3⟩; have hb03 := hb2.trans (hb3.mono hb2.size))
    obtain ⟨W4, hW4⟩ : ∃ W4, W4 = w3.alloc (.cells #[.int .i64 0, .int .i64 0, .slice none 0 0] 27) := ⟨_, rfl⟩
    have hb04 : Below w.heap.size w W4 := by rw [hW4]; exact hb03.alloc hb03.size _
    have hp4 := heap_at w3 (.cells #[.int .i64 0, .int .i64 0, .slice none 0 0] 27) _ rfl
    rw [← hW4] at hp4 ⊢
    have hlt4 : w3.heap.size < W4.heap.size := (Array.getElem?_eq_some_iff.1 hp4).1
    have HP4 := Lib.hid hp4
    clear hW4 hp4
    go_wp2_with (first
      | (go_at_call 6; refine (HVA.out _ hb04).mono ?_; rintro e w5 ⟨rfl, hb5⟩; have hb05 := hb04.trans (hb5.mono hb04.size); obtain ⟨y0, y1, y2, y3⟩ := zcells ((hb5.block w3.heap.size hlt4).trans HP4.out))
      | (go_at_call 8; refine (HNO.out _).mono ?_; rintro e w6 ⟨rfl, hb6⟩; have hb06 := hb05.trans (hb6.mono hb05.size))
      | (go_at_call 5; refine (HAW.out _ hb06).mono ?_; rintro e w7 ⟨rfl, hb7⟩)
      | fail)
    go_ret
    exact ⟨rfl, hb06.trans (hb7.mono hb06.size)⟩
  by_cases hd2 : 6 < wd
  · have HFD := hbad 2 (by unfold tcheckE; rw [if_neg (by rw [hV]; decide), if_pos (Or.inl (per_no (Or.inr hd2)))]) (by decide)
    have hno := no3_any 2
    have HNO := Lib.hid hno
    clear hm hS hwf hEnv hvA hbad hV hno
    go_enter Tryd.func3, Tryd.ntmps3
    go_upto_region 4 with (go_at_call 6; refine (HVA.out _ (Below.refl _ _)).mono ?_; rintro e w2 ⟨rfl, hb2⟩)
    go_upto_region 5 with (go_at_call 7; refine (HFD.out _ hb2).mono ?_; rintro e w3 ⟨rfl, hb3⟩; have hb03 := hb2.trans (hb3.mono hb2.size))
    obtain ⟨W4, hW4⟩ : ∃ W4, W4 = w3.alloc (.cells #[.int .i64 0, .int .i64 0, .slice none 0 0] 27) := ⟨_, rfl⟩
    have hb04 : Below w.heap.size w W4 := by rw [hW4]; exact hb03.alloc hb03.size _
    have hp4 := heap_at w3 (.cells #[.int .i64 0, .int .i64 0, .slice none 0 0] 27) _ rfl
    rw [← hW4] at hp4 ⊢
    have hlt4 : w3.heap.size < W4.heap.size := (Array.getElem?_eq_some_iff.1 hp4).1
    have HP4 := Lib.hid hp4
    clear hW4 hp4
    go_wp2_with (first
      | (go_at_call 6; refine (HVA.out _ hb04).mono ?_; rintro e w5 ⟨rfl, hb5⟩; have hb05 := hb04.trans (hb5.mono hb04.size); obtain ⟨y0, y1, y2, y3⟩ := zcells ((hb5.block w3.heap.size hlt4).trans HP4.out))
      | (go_at_call 8; refine (HNO.out _).mono ?_; rintro e w6 ⟨rfl, hb6⟩; have hb06 := hb05.trans (hb6.mono hb05.size))
      | (go_at_call 5; refine (HAW.out _ hb06).mono ?_; rintro e w7 ⟨rfl, hb7⟩)
      | fail)
    go_ret
    exact ⟨rfl, hb06.trans (hb7.mono hb06.size)⟩
  by_cases hd3 : hg < 1
  · have HFD := hbad 2 (by unfold tcheckE; rw [if_neg (by rw [hV]; decide), if_pos (Or.inr (per_no (Or.inl hd3)))]) (by decide)
    have hno := no3_any 2
    have HNO := Lib.hid hno
    clear hm hS hwf hEnv hvA hbad hV hno
    go_enter Tryd.func3, Tryd.ntmps3
    go_upto_region 4 with (go_at_call 6; refine (HVA.out _ (Below.refl _ _)).mono ?_; rintro e w2 ⟨rfl, hb2⟩)
    go_upto_region 5 with (go_at_call 7; refine (HFD.out _ hb2).mono ?_; rintro e w3 ⟨rfl, hb3⟩; have hb03 := hb2.trans (hb3.mono hb2.size))
    obtain ⟨W4, hW4⟩ : ∃ W4, W4 = w3.alloc (.cells #[.int .i64 0, .int .i64 0, .slice none 0 0] 27) := ⟨_, rfl⟩
    have hb04 : Below w.heap.size w W4 := by rw [hW4]; exact hb03.alloc hb03.size _
    have hp4 := heap_at w3 (.cells #[.int .i64 0, .int .i64 0, .slice none 0 0] 27) _ rfl
    rw [← hW4] at hp4 ⊢
    have hlt4 : w3.heap.size < W4.heap.size := (Array.getElem?_eq_some_iff.1 hp4).1
    have HP4 := Lib.hid hp4
    clear hW4 hp4
    go_wp2_with (first
      | (go_at_call 6; refine (HVA.out _ hb04).mono ?_; rintro e w5 ⟨rfl, hb5⟩; have hb05 := hb04.trans (hb5.mono hb04.size); obtain ⟨y0, y1, y2, y3⟩ := zcells ((hb5.block w3.heap.size hlt4).trans HP4.out))
      | (go_at_call 8; refine (HNO.out _).mono ?_; rintro e w6 ⟨rfl, hb6⟩; have hb06 := hb05.trans (hb6.mono hb05.size))
      | (go_at_call 5; refine (HAW.out _ hb06).mono ?_; rintro e w7 ⟨rfl, hb7⟩)
      | fail)
    go_ret
    exact ⟨rfl, hb06.trans (hb7.mono hb06.size)⟩
  by_cases hd4 : 6 < hg
  · have HFD := hbad 2 (by unfold tcheckE; rw [if_neg (by rw [hV]; decide), if_pos (Or.inr (per_no (Or.inr hd4)))]) (by decide)
    have hno := no3_any 2
    have HNO := Lib.hid hno
    clear hm hS hwf hEnv hvA hbad hV hno
    go_enter Tryd.func3, Tryd.ntmps3
    go_upto_region 4 with (go_at_call 6; refine (HVA.out _ (Below.refl _ _)).mono ?_; rintro e w2 ⟨rfl, hb2⟩)
    go_upto_region 5 with (go_at_call 7; refine (HFD.out _ hb2).mono ?_; rintro e w3 ⟨rfl, hb3⟩; have hb03 := hb2.trans (hb3.mono hb2.size))
    obtain ⟨W4, hW4⟩ : ∃ W4, W4 = w3.alloc (.cells #[.int .i64 0, .int .i64 0, .slice none 0 0] 27) := ⟨_, rfl⟩
    have hb04 : Below w.heap.size w W4 := by rw [hW4]; exact hb03.alloc hb03.size _
    have hp4 := heap_at w3 (.cells #[.int .i64 0, .int .i64 0, .slice none 0 0] 27) _ rfl
    rw [← hW4] at hp4 ⊢
    have hlt4 : w3.heap.size < W4.heap.size := (Array.getElem?_eq_some_iff.1 hp4).1
    have HP4 := Lib.hid hp4
    clear hW4 hp4
    go_wp2_with (first
      | (go_at_call 6; refine (HVA.out _ hb04).mono ?_; rintro e w5 ⟨rfl, hb5⟩; have hb05 := hb04.trans (hb5.mono hb04.size); obtain ⟨y0, y1, y2, y3⟩ := zcells ((hb5.block w3.heap.size hlt4).trans HP4.out))
      | (go_at_call 8; refine (HNO.out _).mono ?_; rintro e w6 ⟨rfl, hb6⟩; have hb06 := hb05.trans (hb6.mono hb05.size))
      | (go_at_call 5; refine (HAW.out _ hb06).mono ?_; rintro e w7 ⟨rfl, hb7⟩)
      | fail)
    go_ret
    exact ⟨rfl, hb06.trans (hb7.mono hb06.size)⟩
  obtain ⟨k, rfl⟩ := Int.eq_ofNat_of_zero_le (show 0 ≤ wd by omega)
  obtain ⟨h, rfl⟩ := Int.eq_ofNat_of_zero_le (show 0 ≤ hg by omega)
  have hk1 : 1 ≤ k := by omega
  have hk6 : k ≤ 6 := by omega
  have hh1 : 1 ≤ h := by omega
  have hh6 : h ≤ 6 := by omega
  have hm1 : m ≤ 1000 := by rw [hm]; exact (vld_iff.1 hV).1
  have hhv := fun (W : World) (hb : Below w.heap.size w W) => rheavy_any s S m cp k _ W hm (hS.keep hb hb.size) (by omega) (by omega) rfl
  cases hH : heavyR s k
  rotate_left
  · rw [hH] at hhv
    have HHV := Lib.hid hhv
    clear hm hS hwf hEnv hvA hbad hV hhv hH
    go_enter Tryd.func3, Tryd.ntmps3
    go_wp2_with (first
      | (go_at_call 6; refine (HVA.out _ (Below.refl _ _)).mono ?_; rintro e w2 ⟨rfl, hb2⟩)
      | (go_at_call 9; refine (HHV.out _ hb2).mono ?_; rintro e w3 ⟨rfl, hb3⟩; have hb03 := hb2.trans (hb3.mono hb2.size))
      | (go_at_call 5; refine (HAW.out _ hb03).mono ?_; rintro e w7 ⟨rfl, hb7⟩)
      | fail)
    go_ret
    exact ⟨rfl, hb03.trans (hb7.mono hb03.size)⟩
  rw [hH] at hhv
  have HHV := Lib.hid hhv
  cases hT : tooM s.length k
  rotate_left
  · have HFD := hbad 4 (by unfold tcheckE; rw [if_neg (by rw [hV]; decide), if_neg (by rintro (h | h) <;> rw [per_yes (by omega) (by omega)] at h <;> cases h), Int.toNat_natCast, if_pos hT]) (by decide)
    have hg := fun (W : World) => rgreat_any S m cp k true W (by rw [hm]; exact hT) (by omega) (by omega)
    have HG := Lib.hid hg
    have hno := no3_any 4
    have HNO := Lib.hid hno
    clear hm hS hwf hEnv hvA hbad hV hno hhv hH hT hg
    go_enter Tryd.func3, Tryd.ntmps3
    go_upto_region 10 with (first
      | (go_at_call 6; refine (HVA.out _ (Below.refl _ _)).mono ?_; rintro e w2 ⟨rfl, hb2⟩)
      | (go_at_call 9; refine (HHV.out _ hb2).mono ?_; rintro e w3 ⟨rfl, hb3⟩; have hb03 := hb2.trans (hb3.mono hb2.size))
      | fail)
    go_upto_region 11 with (go_at_call 7; refine (HFD.out _ hb03).mono ?_; rintro e w4 ⟨rfl, hb4⟩; have hb04 := hb03.trans (hb4.mono hb03.size))
    obtain ⟨W5, hW5⟩ : ∃ W5, W5 = w4.alloc (.cells #[.int .i64 0, .int .i64 0, .slice none 0 0] 27) := ⟨_, rfl⟩
    have hb05 : Below w.heap.size w W5 := by rw [hW5]; exact hb04.alloc hb04.size _
    obtain ⟨y0, y1, y2, y3⟩ := zcells (heap_at w4 (.cells #[.int .i64 0, .int .i64 0, .slice none 0 0] 27) _ rfl)
    rw [← hW5] at y0 y1 y2 ⊢
    clear hW5 y3
    go_wp2_with (first
      | (go_at_call 10; refine (HG.out _).mono ?_; rintro e w6 ⟨rfl, rfl⟩)
      | (go_at_call 8; refine (HNO.out _).mono ?_; rintro e w7 ⟨rfl, hb7⟩; have hb07 := hb05.trans (hb7.mono hb05.size))
      | (go_at_call 5; refine (HAW.out _ hb07).mono ?_; rintro e w8 ⟨rfl, hb8⟩)
      | fail)
    go_ret
    exact ⟨rfl, hb07.trans (hb8.mono hb07.size)⟩
  have htc : tcheckE s (k : Int) (h : Int) = 0 := by unfold tcheckE; rw [if_neg (by rw [hV]; decide), if_neg (by rintro (h | h) <;> rw [per_yes (by omega) (by omega)] at h <;> cases h), Int.toNat_natCast, if_neg (by rw [hT]; decide)]
  have hfd := fun (W : World) (hb : Below w.heap.size w W) => find_anyT s S m cp (k : Int) (h : Int) W hm (hS.keep hb hb.size) hwf hml
  have hrf := fun (W : World) (hb : Below w.heap.size w W) => rfind_any s S m cp k h W (fun W' hb' => rows_done s S m cp k W' hm hm1 (hS.keep (hb.trans (hb'.mono hb.size)) (hb.trans (hb'.mono hb.size)).size) hk1 (by omega) (heavy_facts hH hk1 (Nat.le_refl k)).1 (heavy_facts hH hk1 (Nat.le_refl k)).2.1) hm hm1 (hS.keep hb hb.size) hk1 (by omega) hh1 (by omega) (heavy_facts hH hk1 (Nat.le_refl k)).1 (heavy_facts hH hk1 (Nat.le_refl k)).2.2
  cases ht : (torsE s k h).head? with
  | none =>
    have HFD : Hid (∀ W, Below w.heap.size w W → Calls Tryd.prog 7 #[.slice S m cp, .int .i64 (k : Int), .int .i64 (h : Int)] W fun e w' => e = .returned (.tuple #[.agg #[.int .i64 0, .int .i64 0, .slice none 0 0], .int .i64 6]) ∧ Below W.heap.size W w') := fun W hb => (hfd W hb).mono fun e w' h => by
      obtain ⟨h1, h2⟩ := h
      rw [if_neg (by rw [htc]; decide), Int.toNat_natCast, Int.toNat_natCast, ht] at h2
      exact ⟨h2, h1⟩
    have HRF : Hid (∀ W, Below w.heap.size w W → Calls Tryd.prog 11 #[.slice S m cp, .int .i64 (k : Int), .int .i64 (h : Int)] W fun e w' => e = .returned (.tuple #[.agg #[.int .i64 0, .int .i64 0, .slice none 0 0], .bool false]) ∧ Below W.heap.size W w') := fun W hb => (hrf W hb).mono fun e w' h => by
      obtain ⟨h1, h2⟩ := h
      rw [ht] at h2
      exact ⟨h2, h1⟩
    have his := is3_no
    have HIS := Lib.hid his
    clear hm hS hwf hEnv hvA hbad hV hhv hH hT htc hfd hrf ht his
    go_enter Tryd.func3, Tryd.ntmps3
    go_upto_region 10 with (first
      | (go_at_call 6; refine (HVA.out _ (Below.refl _ _)).mono ?_; rintro e w2 ⟨rfl, hb2⟩)
      | (go_at_call 9; refine (HHV.out _ hb2).mono ?_; rintro e w3 ⟨rfl, hb3⟩; have hb03 := hb2.trans (hb3.mono hb2.size))
      | fail)
    go_upto_region 13 with (go_at_call 7; refine (HFD.out _ hb03).mono ?_; rintro e w4 ⟨rfl, hb4⟩; have hb04 := hb03.trans (hb4.mono hb03.size))
    obtain ⟨W5, hW5⟩ : ∃ W5, W5 = w4.alloc (.cells #[.int .i64 0, .int .i64 0, .slice none 0 0] 27) := ⟨_, rfl⟩
    have hb45 : Below w4.heap.size w4 W5 := by rw [hW5]; exact (Below.refl _ _).alloc (Nat.le_refl _) _
    have hb05 : Below w.heap.size w W5 := hb04.trans (hb45.mono hb04.size)
    have hp5 := heap_at w4 (.cells #[.int .i64 0, .int .i64 0, .slice none 0 0] 27) _ rfl
    rw [← hW5] at hp5 ⊢
    have hlt5 := (Array.getElem?_eq_some_iff.1 hp5).1
    have HP5 := Lib.hid hp5
    clear hW5 hp5 hb45
    go_upto_region 14 with (go_at_call 11; refine (HRF.out _ hb05).mono ?_; rintro e w6 ⟨rfl, hb6⟩; have hb06 := hb05.trans (hb6.mono hb05.size))
    obtain ⟨W7, hW7⟩ : ∃ W7, W7 = w6.alloc (.cells #[.int .i64 0, .int .i64 0, .slice none 0 0] 27) := ⟨_, rfl⟩
    have hb67 : Below w6.heap.size w6 W7 := by rw [hW7]; exact (Below.refl _ _).alloc (Nat.le_refl _) _
    have hb07 : Below w.heap.size w W7 := hb06.trans (hb67.mono hb06.size)
    obtain ⟨x0, x1, x2, x3⟩ := zcells (heap_at w6 (.cells #[.int .i64 0, .int .i64 0, .slice none 0 0] 27) _ rfl)
    rw [← hW7] at x0 x1 x2 ⊢
    have hb57 := hb6.trans (hb67.mono hb6.size)
    obtain ⟨y0, y1, y2, y3⟩ := zcells ((hb57.block w4.heap.size hlt5).trans HP5.out)
    clear hW7 x3 y3
    go_wp2_with (first
      | (go_at_call 12; refine (HIS.out _).mono ?_; rintro e w8 ⟨rfl, hb8⟩; have hb08 := hb07.trans (hb8.mono hb07.size))
      | (go_at_call 5; refine (HAW.out _ hb08).mono ?_; rintro e w9 ⟨rfl, hb9⟩)
      | fail)
    go_ret
    exact ⟨rfl, hb08.trans (hb9.mono hb08.size)⟩
  | some t =>
    obtain ⟨l, hl⟩ : ∃ l, l = t.flatten := ⟨_, rfl⟩
    obtain ⟨L, hL⟩ : ∃ L, L = (idxI l).length := ⟨_, rfl⟩
    have hLl : l.length = L := by rw [hL]; simp [idxI]
    have hLM : L ≤ 9223372036854775807 := by
      have hmem : t ∈ torsE s k h := List.mem_of_mem_head? (by rw [ht]; rfl)
      have hsh := ((mem_torsE s k h hk1 hh1 t).1 hmem).1
      rw [← hLl, hl, flat_len_row t k hsh.2, hsh.1]
      have := Nat.mul_le_mul hh6 hk6
      omega
    have HFD : Hid (∀ W, Below w.heap.size w W → Calls Tryd.prog 7 #[.slice S m cp, .int .i64 (k : Int), .int .i64 (h : Int)] W fun e w' => ∃ A c, e = .returned (.tuple #[.agg #[.int .i64 (k : Int), .int .i64 (h : Int), .slice A L c], .int .i64 0]) ∧ Hid (IntsIn w' w'.heap.size A (idxI l)) ∧ Below W.heap.size W w') := fun W hb => (hfd W hb).mono fun e w' h => by
      obtain ⟨h1, h2⟩ := h
      rw [if_neg (by rw [htc]; decide), Int.toNat_natCast, Int.toNat_natCast, ht] at h2
      obtain ⟨A, c, h3, h4⟩ := h2
      rw [← hl] at h3 h4
      rw [hLl] at h3
      exact ⟨A, c, h3, h4, h1⟩
    have HRF : Hid (∀ W, Below w.heap.size w W → Calls Tryd.prog 11 #[.slice S m cp, .int .i64 (k : Int), .int .i64 (h : Int)] W fun e w' => ∃ A c, e = .returned (.tuple #[.agg #[.int .i64 (k : Int), .int .i64 (h : Int), .slice A L c], .bool true]) ∧ Hid (IntsIn w' w'.heap.size A (idxI l)) ∧ Below W.heap.size W w') := fun W hb => (hrf W hb).mono fun e w' h => by
      obtain ⟨h1, h2⟩ := h
      rw [ht] at h2
      obtain ⟨A, c, h3, h4, -⟩ := h2
      rw [← hl] at h3 h4
      rw [hLl] at h3
      exact ⟨A, c, h3, h4, h1⟩
    have HL := Lib.hid hL
    have HLM := Lib.hid hLM
    clear hm hS hwf hEnv hvA hbad hV hhv hH hT htc hfd hrf ht hl hL hLl hLM
    go_enter Tryd.func3, Tryd.ntmps3
    go_upto_region 10 with (first
      | (go_at_call 6; refine (HVA.out _ (Below.refl _ _)).mono ?_; rintro e w2 ⟨rfl, hb2⟩)
      | (go_at_call 9; refine (HHV.out _ hb2).mono ?_; rintro e w3 ⟨rfl, hb3⟩; have hb03 := hb2.trans (hb3.mono hb2.size))
      | fail)
    go_upto_region 13 with (go_at_call 7; refine (HFD.out _ hb03).mono ?_; rintro e w4 ⟨A4, c4, rfl, HI4, hb4⟩; have hb04 := hb03.trans (hb4.mono hb03.size))
    obtain ⟨W5, hW5⟩ : ∃ W5, W5 = w4.alloc (.cells #[.int .i64 (k : Int), .int .i64 (h : Int), .slice A4 L c4] 27) := ⟨_, rfl⟩
    have hb45 : Below w4.heap.size w4 W5 := by rw [hW5]; exact (Below.refl _ _).alloc (Nat.le_refl _) _
    have hb05 : Below w.heap.size w W5 := hb04.trans (hb45.mono hb04.size)
    have hp5 := heap_at w4 (.cells #[.int .i64 (k : Int), .int .i64 (h : Int), .slice A4 L c4] 27) _ rfl
    rw [← hW5] at hp5 ⊢
    have hlt5 := (Array.getElem?_eq_some_iff.1 hp5).1
    have HP5 := Lib.hid hp5
    have HI5 := Lib.hid (HI4.out.keep hb45 hb45.size)
    clear hW5 hp5 hb45
    go_upto_region 14 with (go_at_call 11; refine (HRF.out _ hb05).mono ?_; rintro e w6 ⟨A6, c6, rfl, HI6, hb6⟩; have hb06 := hb05.trans (hb6.mono hb05.size))
    obtain ⟨W7, hW7⟩ : ∃ W7, W7 = w6.alloc (.cells #[.int .i64 (k : Int), .int .i64 (h : Int), .slice A6 L c6] 27) := ⟨_, rfl⟩
    have hb67 : Below w6.heap.size w6 W7 := by rw [hW7]; exact (Below.refl _ _).alloc (Nat.le_refl _) _
    have hb07 : Below w.heap.size w W7 := hb06.trans (hb67.mono hb06.size)
    obtain ⟨x0, x1, x2, x3⟩ := zcells (heap_at w6 (.cells #[.int .i64 (k : Int), .int .i64 (h : Int), .slice A6 L c6] 27) _ rfl)
    rw [← hW7] at x0 x1 x2 ⊢
    have hb57 := hb6.trans (hb67.mono hb6.size)
    obtain ⟨y0, y1, y2, y3⟩ := zcells ((hb57.block w4.heap.size hlt5).trans HP5.out)
    have HIS := Lib.hid (is3_yes k h (idxI l) A4 A6 L c4 c6 W7 HL.out HLM.out (HI5.out.keep hb57 hb57.size) (HI6.out.keep hb67 hb67.size))
    clear hW7 x3 y3
    go_wp2_with (first
      | (go_at_call 12; refine HIS.out.mono ?_; rintro e w8 ⟨rfl, hb8⟩; have hb08 := hb07.trans (hb8.mono hb07.size))
      | (go_at_call 5; refine (HAW.out _ hb08).mono ?_; rintro e w9 ⟨rfl, hb9⟩)
      | fail)
    go_ret
    exact ⟨rfl, hb08.trans (hb9.mono hb08.size)⟩
set_option maxHeartbeats 8000000 in
theorem tleast_any (s : List Tl) (S : Option Addr) (m cp : Nat) (mo : Int) (w : World) (hEnv : Env w) (hm : m = s.length) (hmd : m ≤ cp) (hdl : cp ≤ 9223372036854775807) (hS : SetIn w w.heap.size S s) (hwf : ∀ t ∈ s, twf t) (hml : m ≤ 9223372036854775807) :
    Calls Tryd.prog 4 #[.slice S m cp, .int .i64 mo] w fun e w' => e = .returned (.bool true) ∧ Below w.heap.size w w' := by
  have HAW : Hid (∀ W, Below w.heap.size w W → Calls Tryd.prog 5 #[] W fun e w' => e = .returned (.bool true) ∧ Below W.heap.size W w') := fun W hb => awake3_any W (hEnv.keep hb)
  by_cases c1 : m ≤ 1100
  rotate_left
  · clear hm hS hwf hEnv
    go_enter Tryd.func4, Tryd.ntmps4
    go_wp2_with (go_at_call 5; refine (HAW.out _ (Below.refl _ _)).mono ?_; rintro e w2 ⟨rfl, hb2⟩)
    go_ret
    exact ⟨rfl, hb2⟩
  have hvA := fun (W : World) (hb : Below w.heap.size w W) => rvalid_any s S m cp W hm hmd hdl (hS.keep hb hb.size)
  have hbad : ∀ c : Int, tcheckE s mo mo = c → c ≠ 0 → Hid (∀ W, Below w.heap.size w W → Calls Tryd.prog 13 #[.slice S m cp, .int .i64 mo] W fun e w' => e = .returned (.tuple #[.agg #[.int .i64 0, .int .i64 0, .slice none 0 0], .int .i64 c]) ∧ Below W.heap.size W w') := fun c hc h0 W hb => least_err s S m cp mo c W hm (hS.keep hb hb.size) hwf hml hc h0
  cases hV : vld s
  · have HVA : Hid (∀ W, Below w.heap.size w W → Calls Tryd.prog 6 #[.slice S m cp] W fun e w' => e = .returned (.bool false) ∧ Below W.heap.size W w') := fun W hb => by have := hvA W hb; rw [hV] at this; exact this
    have HFD := hbad 1 (by unfold tcheckE; rw [if_pos hV]) (by decide)
    have hno := no3_any 1
    have HNO := Lib.hid hno
    clear hm hS hwf hEnv hvA hbad hV hno
    go_enter Tryd.func4, Tryd.ntmps4
    go_upto_region 4 with (go_at_call 6; refine (HVA.out _ (Below.refl _ _)).mono ?_; rintro e w2 ⟨rfl, hb2⟩)
    go_upto_region 5 with (go_at_call 13; refine (HFD.out _ hb2).mono ?_; rintro e w3 ⟨rfl, hb3⟩; have hb03 := hb2.trans (hb3.mono hb2.size))
    obtain ⟨W4, hW4⟩ : ∃ W4, W4 = w3.alloc (.cells #[.int .i64 0, .int .i64 0, .slice none 0 0] 27) := ⟨_, rfl⟩
    have hb04 : Below w.heap.size w W4 := by rw [hW4]; exact hb03.alloc hb03.size _
    have hp4 := heap_at w3 (.cells #[.int .i64 0, .int .i64 0, .slice none 0 0] 27) _ rfl
    rw [← hW4] at hp4 ⊢
    have hlt4 : w3.heap.size < W4.heap.size := (Array.getElem?_eq_some_iff.1 hp4).1
    have HP4 := Lib.hid hp4
    clear hW4 hp4
    go_wp2_with (first
      | (go_at_call 6; refine (HVA.out _ hb04).mono ?_; rintro e w5 ⟨rfl, hb5⟩; have hb05 := hb04.trans (hb5.mono hb04.size); obtain ⟨y0, y1, y2, y3⟩ := zcells ((hb5.block w3.heap.size hlt4).trans HP4.out))
      | (go_at_call 8; refine (HNO.out _).mono ?_; rintro e w6 ⟨rfl, hb6⟩; have hb06 := hb05.trans (hb6.mono hb05.size))
      | (go_at_call 5; refine (HAW.out _ hb06).mono ?_; rintro e w7 ⟨rfl, hb7⟩)
      | fail)
    go_ret
    exact ⟨rfl, hb06.trans (hb7.mono hb06.size)⟩
  have HVA : Hid (∀ W, Below w.heap.size w W → Calls Tryd.prog 6 #[.slice S m cp] W fun e w' => e = .returned (.bool true) ∧ Below W.heap.size W w') := fun W hb => by have := hvA W hb; rw [hV] at this; exact this
  by_cases hd1 : mo < 1
  · have HFD := hbad 2 (by unfold tcheckE; rw [if_neg (by rw [hV]; decide), if_pos (Or.inl (per_no (Or.inl hd1)))]) (by decide)
    have hno := no3_any 2
    have HNO := Lib.hid hno
    clear hm hS hwf hEnv hvA hbad hV hno
    go_enter Tryd.func4, Tryd.ntmps4
    go_upto_region 4 with (go_at_call 6; refine (HVA.out _ (Below.refl _ _)).mono ?_; rintro e w2 ⟨rfl, hb2⟩)
    go_upto_region 5 with (go_at_call 13; refine (HFD.out _ hb2).mono ?_; rintro e w3 ⟨rfl, hb3⟩; have hb03 := hb2.trans (hb3.mono hb2.size))
    obtain ⟨W4, hW4⟩ : ∃ W4, W4 = w3.alloc (.cells #[.int .i64 0, .int .i64 0, .slice none 0 0] 27) := ⟨_, rfl⟩
    have hb04 : Below w.heap.size w W4 := by rw [hW4]; exact hb03.alloc hb03.size _
    have hp4 := heap_at w3 (.cells #[.int .i64 0, .int .i64 0, .slice none 0 0] 27) _ rfl
    rw [← hW4] at hp4 ⊢
    have hlt4 : w3.heap.size < W4.heap.size := (Array.getElem?_eq_some_iff.1 hp4).1
    have HP4 := Lib.hid hp4
    clear hW4 hp4
    go_wp2_with (first
      | (go_at_call 6; refine (HVA.out _ hb04).mono ?_; rintro e w5 ⟨rfl, hb5⟩; have hb05 := hb04.trans (hb5.mono hb04.size); obtain ⟨y0, y1, y2, y3⟩ := zcells ((hb5.block w3.heap.size hlt4).trans HP4.out))
      | (go_at_call 8; refine (HNO.out _).mono ?_; rintro e w6 ⟨rfl, hb6⟩; have hb06 := hb05.trans (hb6.mono hb05.size))
      | (go_at_call 5; refine (HAW.out _ hb06).mono ?_; rintro e w7 ⟨rfl, hb7⟩)
      | fail)
    go_ret
    exact ⟨rfl, hb06.trans (hb7.mono hb06.size)⟩
  by_cases hd2 : 6 < mo
  · have HFD := hbad 2 (by unfold tcheckE; rw [if_neg (by rw [hV]; decide), if_pos (Or.inl (per_no (Or.inr hd2)))]) (by decide)
    have hno := no3_any 2
    have HNO := Lib.hid hno
    clear hm hS hwf hEnv hvA hbad hV hno
    go_enter Tryd.func4, Tryd.ntmps4
    go_upto_region 4 with (go_at_call 6; refine (HVA.out _ (Below.refl _ _)).mono ?_; rintro e w2 ⟨rfl, hb2⟩)
    go_upto_region 5 with (go_at_call 13; refine (HFD.out _ hb2).mono ?_; rintro e w3 ⟨rfl, hb3⟩; have hb03 := hb2.trans (hb3.mono hb2.size))
    obtain ⟨W4, hW4⟩ : ∃ W4, W4 = w3.alloc (.cells #[.int .i64 0, .int .i64 0, .slice none 0 0] 27) := ⟨_, rfl⟩
    have hb04 : Below w.heap.size w W4 := by rw [hW4]; exact hb03.alloc hb03.size _
    have hp4 := heap_at w3 (.cells #[.int .i64 0, .int .i64 0, .slice none 0 0] 27) _ rfl
    rw [← hW4] at hp4 ⊢
    have hlt4 : w3.heap.size < W4.heap.size := (Array.getElem?_eq_some_iff.1 hp4).1
    have HP4 := Lib.hid hp4
    clear hW4 hp4
    go_wp2_with (first
      | (go_at_call 6; refine (HVA.out _ hb04).mono ?_; rintro e w5 ⟨rfl, hb5⟩; have hb05 := hb04.trans (hb5.mono hb04.size); obtain ⟨y0, y1, y2, y3⟩ := zcells ((hb5.block w3.heap.size hlt4).trans HP4.out))
      | (go_at_call 8; refine (HNO.out _).mono ?_; rintro e w6 ⟨rfl, hb6⟩; have hb06 := hb05.trans (hb6.mono hb05.size))
      | (go_at_call 5; refine (HAW.out _ hb06).mono ?_; rintro e w7 ⟨rfl, hb7⟩)
      | fail)
    go_ret
    exact ⟨rfl, hb06.trans (hb7.mono hb06.size)⟩
  obtain ⟨k, rfl⟩ := Int.eq_ofNat_of_zero_le (show 0 ≤ mo by omega)
  have hk1 : 1 ≤ k := by omega
  have hk6 : k ≤ 6 := by omega
  have hm1 : m ≤ 1000 := by rw [hm]; exact (vld_iff.1 hV).1
  have hhv := fun (W : World) (hb : Below w.heap.size w W) => rheavy_any s S m cp k _ W hm (hS.keep hb hb.size) (by omega) (by omega) rfl
  cases hH : heavyR s k
  rotate_left
  · rw [hH] at hhv
    have HHV := Lib.hid hhv
    clear hm hS hwf hEnv hvA hbad hV hhv hH
    go_enter Tryd.func4, Tryd.ntmps4
    go_wp2_with (first
      | (go_at_call 6; refine (HVA.out _ (Below.refl _ _)).mono ?_; rintro e w2 ⟨rfl, hb2⟩)
      | (go_at_call 9; refine (HHV.out _ hb2).mono ?_; rintro e w3 ⟨rfl, hb3⟩; have hb03 := hb2.trans (hb3.mono hb2.size))
      | (go_at_call 5; refine (HAW.out _ hb03).mono ?_; rintro e w7 ⟨rfl, hb7⟩)
      | fail)
    go_ret
    exact ⟨rfl, hb03.trans (hb7.mono hb03.size)⟩
  rw [hH] at hhv
  have HHV := Lib.hid hhv
  cases hT : tooM s.length k
  rotate_left
  · have HFD := hbad 4 (by unfold tcheckE; rw [if_neg (by rw [hV]; decide), if_neg (by rintro (h | h) <;> rw [per_yes (by omega) (by omega)] at h <;> cases h), Int.toNat_natCast, if_pos hT]) (by decide)
    have hg := fun (W : World) => rgreat_any S m cp k true W (by rw [hm]; exact hT) (by omega) (by omega)
    have HG := Lib.hid hg
    have hno := no3_any 4
    have HNO := Lib.hid hno
    clear hm hS hwf hEnv hvA hbad hV hno hhv hH hT hg
    go_enter Tryd.func4, Tryd.ntmps4
    go_upto_region 10 with (first
      | (go_at_call 6; refine (HVA.out _ (Below.refl _ _)).mono ?_; rintro e w2 ⟨rfl, hb2⟩)
      | (go_at_call 9; refine (HHV.out _ hb2).mono ?_; rintro e w3 ⟨rfl, hb3⟩; have hb03 := hb2.trans (hb3.mono hb2.size))
      | fail)
    go_upto_region 11 with (go_at_call 13; refine (HFD.out _ hb03).mono ?_; rintro e w4 ⟨rfl, hb4⟩; have hb04 := hb03.trans (hb4.mono hb03.size))
    obtain ⟨W5, hW5⟩ : ∃ W5, W5 = w4.alloc (.cells #[.int .i64 0, .int .i64 0, .slice none 0 0] 27) := ⟨_, rfl⟩
    have hb05 : Below w.heap.size w W5 := by rw [hW5]; exact hb04.alloc hb04.size _
    obtain ⟨y0, y1, y2, y3⟩ := zcells (heap_at w4 (.cells #[.int .i64 0, .int .i64 0, .slice none 0 0] 27) _ rfl)
    rw [← hW5] at y0 y1 y2 ⊢
    clear hW5 y3
    go_wp2_with (first
      | (go_at_call 10; refine (HG.out _).mono ?_; rintro e w6 ⟨rfl, rfl⟩)
      | (go_at_call 8; refine (HNO.out _).mono ?_; rintro e w7 ⟨rfl, hb7⟩; have hb07 := hb05.trans (hb7.mono hb05.size))
      | (go_at_call 5; refine (HAW.out _ hb07).mono ?_; rintro e w8 ⟨rfl, hb8⟩)
      | fail)
    go_ret
    exact ⟨rfl, hb07.trans (hb8.mono hb07.size)⟩
  have htc : tcheckE s (k : Int) (k : Int) = 0 := by unfold tcheckE; rw [if_neg (by rw [hV]; decide), if_neg (by rintro (h | h) <;> rw [per_yes (by omega) (by omega)] at h <;> cases h), Int.toNat_natCast, if_neg (by rw [hT]; decide)]
  have hfd := fun (W : World) (hb : Below w.heap.size w W) => least_anyT s S m cp (k : Int) W hm (hS.keep hb hb.size) hwf hml
  have hfnd := fun (W : World) (a b : Nat) (hb : Below w.heap.size w W) (ha1 : 1 ≤ a) (hak : a ≤ k) (hb1 : 1 ≤ b) (hbk : b ≤ k) => rfind_any s S m cp a b W (fun W' hb' => rows_done s S m cp a W' hm hm1 (hS.keep (hb.trans (hb'.mono hb.size)) (hb.trans (hb'.mono hb.size)).size) ha1 (by omega) (heavy_facts hH ha1 hak).1 (heavy_facts hH ha1 hak).2.1) hm hm1 (hS.keep hb hb.size) ha1 (by omega) hb1 (by omega) (heavy_facts hH ha1 hak).1 (heavy_facts hH ha1 hak).2.2
  have hrf := fun (W : World) (hb : Below w.heap.size w W) => rleast_any s S m cp k W (fun W' a b hb' h1 h2 h3 h4 => hfnd W' a b (hb.trans (hb'.mono hb.size)) h1 h2 h3 h4) hk1 hk6
  cases ht : leastE s k with
  | none =>
    have HFD : Hid (∀ W, Below w.heap.size w W → Calls Tryd.prog 13 #[.slice S m cp, .int .i64 (k : Int)] W fun e w' => e = .returned (.tuple #[.agg #[.int .i64 0, .int .i64 0, .slice none 0 0], .int .i64 6]) ∧ Below W.heap.size W w') := fun W hb => (hfd W hb).mono fun e w' h => by
      obtain ⟨h1, h2⟩ := h
      rw [if_neg (by rw [htc]; decide), Int.toNat_natCast, ht] at h2
      exact ⟨h2, h1⟩
    have HRF : Hid (∀ W, Below w.heap.size w W → Calls Tryd.prog 14 #[.slice S m cp, .int .i64 (k : Int)] W fun e w' => e = .returned (.tuple #[.agg #[.int .i64 0, .int .i64 0, .slice none 0 0], .bool false]) ∧ Below W.heap.size W w') := fun W hb => (hrf W hb).mono fun e w' h => by
      obtain ⟨h1, h2⟩ := h
      rw [ht] at h2
      exact ⟨h2, h1⟩
    have his := is3_no
    have HIS := Lib.hid his
    clear hm hS hwf hEnv hvA hbad hV hhv hH hT htc hfd hrf ht his hfnd
    go_enter Tryd.func4, Tryd.ntmps4
    go_upto_region 10 with (first
      | (go_at_call 6; refine (HVA.out _ (Below.refl _ _)).mono ?_; rintro e w2 ⟨rfl, hb2⟩)
      | (go_at_call 9; refine (HHV.out _ hb2).mono ?_; rintro e w3 ⟨rfl, hb3⟩; have hb03 := hb2.trans (hb3.mono hb2.size))
      | fail)
    go_upto_region 13 with (go_at_call 13; refine (HFD.out _ hb03).mono ?_; rintro e w4 ⟨rfl, hb4⟩; have hb04 := hb03.trans (hb4.mono hb03.size))
    obtain ⟨W5, hW5⟩ : ∃ W5, W5 = w4.alloc (.cells #[.int .i64 0, .int .i64 0, .slice none 0 0] 27) := ⟨_, rfl⟩
    have hb45 : Below w4.heap.size w4 W5 := by rw [hW5]; exact (Below.refl _ _).alloc (Nat.le_refl _) _
    have hb05 : Below w.heap.size w W5 := hb04.trans (hb45.mono hb04.size)
    have hp5 := heap_at w4 (.cells #[.int .i64 0, .int .i64 0, .slice none 0 0] 27) _ rfl
    rw [← hW5] at hp5 ⊢
    have hlt5 := (Array.getElem?_eq_some_iff.1 hp5).1
    have HP5 := Lib.hid hp5
    clear hW5 hp5 hb45
    go_upto_region 14 with (go_at_call 14; refine (HRF.out _ hb05).mono ?_; rintro e w6 ⟨rfl, hb6⟩; have hb06 := hb05.trans (hb6.mono hb05.size))
    obtain ⟨W7, hW7⟩ : ∃ W7, W7 = w6.alloc (.cells #[.int .i64 0, .int .i64 0, .slice none 0 0] 27) := ⟨_, rfl⟩
    have hb67 : Below w6.heap.size w6 W7 := by rw [hW7]; exact (Below.refl _ _).alloc (Nat.le_refl _) _
    have hb07 : Below w.heap.size w W7 := hb06.trans (hb67.mono hb06.size)
    obtain ⟨x0, x1, x2, x3⟩ := zcells (heap_at w6 (.cells #[.int .i64 0, .int .i64 0, .slice none 0 0] 27) _ rfl)
    rw [← hW7] at x0 x1 x2 ⊢
    have hb57 := hb6.trans (hb67.mono hb6.size)
    obtain ⟨y0, y1, y2, y3⟩ := zcells ((hb57.block w4.heap.size hlt5).trans HP5.out)
    clear hW7 x3 y3
    go_wp2_with (first
      | (go_at_call 12; refine (HIS.out _).mono ?_; rintro e w8 ⟨rfl, hb8⟩; have hb08 := hb07.trans (hb8.mono hb07.size))
      | (go_at_call 5; refine (HAW.out _ hb08).mono ?_; rintro e w9 ⟨rfl, hb9⟩)
      | fail)
    go_ret
    exact ⟨rfl, hb08.trans (hb9.mono hb08.size)⟩
  | some q =>
    obtain ⟨a, b, t⟩ := q
    obtain ⟨l, hl⟩ : ∃ l, l = t.flatten := ⟨_, rfl⟩
    obtain ⟨L, hL⟩ : ∃ L, L = (idxI l).length := ⟨_, rfl⟩
    have hLl : l.length = L := by rw [hL]; simp [idxI]
    have hLM : L ≤ 9223372036854775807 := by
      obtain ⟨ha1, hak, hb1, hbk, hth, -⟩ := leastE_some ht
      have hmem : t ∈ torsE s a b := List.mem_of_mem_head? (by rw [hth]; rfl)
      have hsh := ((mem_torsE s a b ha1 hb1 t).1 hmem).1
      rw [← hLl, hl, flat_len_row t a hsh.2, hsh.1]
      have := Nat.mul_le_mul (show b ≤ 6 by omega) (show a ≤ 6 by omega)
      omega
    have HFD : Hid (∀ W, Below w.heap.size w W → Calls Tryd.prog 13 #[.slice S m cp, .int .i64 (k : Int)] W fun e w' => ∃ A c, e = .returned (.tuple #[.agg #[.int .i64 (a : Int), .int .i64 (b : Int), .slice A L c], .int .i64 0]) ∧ Hid (IntsIn w' w'.heap.size A (idxI l)) ∧ Below W.heap.size W w') := fun W hb => (hfd W hb).mono fun e w' h => by
      obtain ⟨h1, h2⟩ := h
      rw [if_neg (by rw [htc]; decide), Int.toNat_natCast, ht] at h2
      obtain ⟨A, c, h3, h4⟩ := h2
      rw [← hl] at h3 h4
      rw [hLl] at h3
      exact ⟨A, c, h3, h4, h1⟩
    have HRF : Hid (∀ W, Below w.heap.size w W → Calls Tryd.prog 14 #[.slice S m cp, .int .i64 (k : Int)] W fun e w' => ∃ A c, e = .returned (.tuple #[.agg #[.int .i64 (a : Int), .int .i64 (b : Int), .slice A L c], .bool true]) ∧ Hid (IntsIn w' w'.heap.size A (idxI l)) ∧ Below W.heap.size W w') := fun W hb => (hrf W hb).mono fun e w' h => by
      obtain ⟨h1, h2⟩ := h
      rw [ht] at h2
      obtain ⟨A, c, h3, h4, -⟩ := h2
      rw [← hl] at h3 h4
      rw [hLl] at h3
      exact ⟨A, c, h3, h4, h1⟩
    have HL := Lib.hid hL
    have HLM := Lib.hid hLM
    clear hm hS hwf hEnv hvA hbad hV hhv hH hT htc hfd hrf ht hl hL hLl hLM hfnd
    go_enter Tryd.func4, Tryd.ntmps4
    go_upto_region 10 with (first
      | (go_at_call 6; refine (HVA.out _ (Below.refl _ _)).mono ?_; rintro e w2 ⟨rfl, hb2⟩)
      | (go_at_call 9; refine (HHV.out _ hb2).mono ?_; rintro e w3 ⟨rfl, hb3⟩; have hb03 := hb2.trans (hb3.mono hb2.size))
      | fail)
    go_upto_region 13 with (go_at_call 13; refine (HFD.out _ hb03).mono ?_; rintro e w4 ⟨A4, c4, rfl, HI4, hb4⟩; have hb04 := hb03.trans (hb4.mono hb03.size))
    obtain ⟨W5, hW5⟩ : ∃ W5, W5 = w4.alloc (.cells #[.int .i64 (a : Int), .int .i64 (b : Int), .slice A4 L c4] 27) := ⟨_, rfl⟩
    have hb45 : Below w4.heap.size w4 W5 := by rw [hW5]; exact (Below.refl _ _).alloc (Nat.le_refl _) _
    have hb05 : Below w.heap.size w W5 := hb04.trans (hb45.mono hb04.size)
    have hp5 := heap_at w4 (.cells #[.int .i64 (a : Int), .int .i64 (b : Int), .slice A4 L c4] 27) _ rfl
    rw [← hW5] at hp5 ⊢
    have hlt5 := (Array.getElem?_eq_some_iff.1 hp5).1
    have HP5 := Lib.hid hp5
    have HI5 := Lib.hid (HI4.out.keep hb45 hb45.size)
    clear hW5 hp5 hb45
    go_upto_region 14 with (go_at_call 14; refine (HRF.out _ hb05).mono ?_; rintro e w6 ⟨A6, c6, rfl, HI6, hb6⟩; have hb06 := hb05.trans (hb6.mono hb05.size))
    obtain ⟨W7, hW7⟩ : ∃ W7, W7 = w6.alloc (.cells #[.int .i64 (a : Int), .int .i64 (b : Int), .slice A6 L c6] 27) := ⟨_, rfl⟩
    have hb67 : Below w6.heap.size w6 W7 := by rw [hW7]; exact (Below.refl _ _).alloc (Nat.le_refl _) _
    have hb07 : Below w.heap.size w W7 := hb06.trans (hb67.mono hb06.size)
    obtain ⟨x0, x1, x2, x3⟩ := zcells (heap_at w6 (.cells #[.int .i64 (a : Int), .int .i64 (b : Int), .slice A6 L c6] 27) _ rfl)
    rw [← hW7] at x0 x1 x2 ⊢
    have hb57 := hb6.trans (hb67.mono hb6.size)
    obtain ⟨y0, y1, y2, y3⟩ := zcells ((hb57.block w4.heap.size hlt5).trans HP5.out)
    have HIS := Lib.hid (is3_yes a b (idxI l) A4 A6 L c4 c6 W7 HL.out HLM.out (HI5.out.keep hb57 hb57.size) (HI6.out.keep hb67 hb67.size))
    clear hW7 x3 y3
    go_wp2_with (first
      | (go_at_call 12; refine HIS.out.mono ?_; rintro e w8 ⟨rfl, hb8⟩; have hb08 := hb07.trans (hb8.mono hb07.size))
      | (go_at_call 5; refine (HAW.out _ hb08).mono ?_; rintro e w9 ⟨rfl, hb9⟩)
      | fail)
    go_ret
    exact ⟨rfl, hb08.trans (hb9.mono hb08.size)⟩
end Go.Proofs.YteaoaglgoeichaaDoor
