/-
  slices.IndexFunc over tiles, strip.firstPath, strip.Path.
-/
import Derived.Test.YtgadfmknjpanpaaDoorSt
import Derived.Test.YtgadfmknjpanpaaDoorSc
namespace Go.Proofs.YtgadfmknjpanpaaDoor
open Go.RowKit Go.Maps Go.BigFrame Go.Sort
set_option linter.unusedVariables false
set_option linter.unusedSimpArgs false
set_option maxRecDepth 100000

/-- the first index of a tile of which something is true -/
def IsIx (s : List Tl) (p : Tl → Bool) (W : World) (e : Ending) (w' : World) : Prop :=
  ∃ i : Nat, e = .returned (.int .i64 (i : Int)) ∧ i < s.length ∧ p (ti s i) = true ∧ (∀ j, j < i → p (ti s j) = false) ∧ Below W.heap.size W w'
set_option maxHeartbeats 4000000 in
theorem tindex_any (s : List Tl) (p : Tl → Bool) (S : Option Addr) (m d : Nat) (ca cr : Value) (w : World) (hm : m = s.length) (hml : m ≤ 1000) (hS : SetIn w w.heap.size S s) (hex : ∃ i, i < s.length ∧ p (ti s i) = true)
    (hcl : ∀ W, Below w.heap.size w W → ∀ i, i < s.length → Calls Tryd.prog 51 #[.agg #[.int .i64 (ti s i).n, .int .i64 (ti s i).e, .int .i64 (ti s i).s, .int .i64 (ti s i).w], ca, cr] W fun e w' => e = .returned (.bool (p (ti s i))) ∧ Below W.heap.size W w') :
    Calls Tryd.prog 50 #[.slice S m d, .func (Fn.func 51) #[] #[ca, cr]] w (IsIx s p w) := by
  have HM := Lib.hid hm
  have HS := Lib.hid hS
  have HEX := Lib.hid hex
  have HCL := Lib.hid hcl
  clear hm hS hex hcl
  go_enter Tryd.func50, Tryd.ntmps50
  go_wp2_with fail
  go_loopw [8] (fun i wr => ∃ k : Nat, k ≤ m ∧ i = .int .i64 k ∧ Hid (∀ j, j < k → p (ti s j) = false) ∧ Below w.heap.size w wr) (fun i _ => m - (intOf i).toNat)
  case atStart => exact ⟨0, Nat.zero_le _, rfl, fun j hj => by omega, Below.refl _ _⟩
  case round =>
    obtain ⟨k, hk, rfl, hno, hbr⟩ := hrel
    obtain ⟨wo, rfl⟩ : ∃ wo : World, wo = wr := ⟨_, rfl⟩
    by_cases hlt : k < m
    · have hks : k < s.length := by rw [← HM.out]; exact hlt
      obtain ⟨x, hx⟩ : ∃ x, x = ti s k := ⟨_, rfl⟩
      obtain ⟨xa, xo, rfl, hxa, t0, t1, t2, t3⟩ := set_at HS.out hbr hks
      have t0' : wo.cell? ⟨xa, xo + k * 4, none⟩ = some (.int .i64 x.n) := by rw [t0, hx]; rfl
      have t1' : wo.cell? ⟨xa, xo + k * 4 + 1, none⟩ = some (.int .i64 x.e) := by rw [t1, hx]; rfl
      have t2' : wo.cell? ⟨xa, xo + k * 4 + 2, none⟩ = some (.int .i64 x.s) := by rw [t2, hx]; rfl
      have t3' : wo.cell? ⟨xa, xo + k * 4 + 3, none⟩ = some (.int .i64 x.w) := by rw [t3, hx]; rfl
      have hk0 : (0 : Int) ≤ (k : Int) := by omega
      have hcl := HCL.out wo hbr k hks
      obtain ⟨pr, hpr⟩ : ∃ pr, pr = p (ti s k) := ⟨_, rfl⟩
      rw [← hpr, ← hx] at hcl
      have HC := Lib.hid hcl
      have HPR := Lib.hid hpr
      clear hcl hpr hx t0 t1 t2 t3 hxa
      cases pr
      · have HNO : Hid (∀ j, j < k + 1 → p (ti s j) = false) := fun j hj => by
          rcases Nat.lt_succ_iff_lt_or_eq.1 hj with h | h
          · exact hno.out j h
          · subst h; exact HPR.out.symm
        clear hno
        go_wp2_with (go_at_call 51; refine HC.out.mono ?_; rintro e w2 ⟨rfl, hb2⟩)
        go_roundw
        case rel => exact ⟨k + 1, by omega, by go_num, HNO, hbr.trans (hb2.mono hbr.size)⟩
        case measure => simp [intOf]; omega
      · go_wp2_with (go_at_call 51; refine HC.out.mono ?_; rintro e w2 ⟨rfl, hb2⟩)
        go_ret
        exact ⟨k, rfl, hks, HPR.out.symm, hno.out, hbr.trans (hb2.mono hbr.size)⟩
    · exfalso
      obtain ⟨i, hi, hp⟩ := HEX.out
      have := hno.out i (by have := HM.out; omega)
      rw [hp] at this
      cases this
set_option maxHeartbeats 1000000 in
theorem fp1_any (t : Tl) (s : List Tl) (to' n c ab rb g : Nat) (w : World) (h0 : 0 ≤ t.e) (h1 : t.e < 1000) (ha : w.cell? ⟨ab, 0, none⟩ = some (.int .i64 (c : Int))) (hr : w.cell? ⟨rb, 0, none⟩ = some (.pointer (some ⟨g, n * 16, none⟩))) (hc : ColW w g (n * 16) (stP s to' n)) :
    Calls Tryd.prog 51 #[.agg #[.int .i64 t.n, .int .i64 t.e, .int .i64 t.s, .int .i64 t.w], .pointer (some ⟨ab, 0, none⟩), .pointer (some ⟨rb, 0, none⟩)] w fun e w' => e = .returned (.bool (decide (t.w = (c : Int)) && stP s to' n t.e.toNat)) ∧ Below w.heap.size w w' := by
  obtain ⟨ce, hce⟩ := Int.eq_ofNat_of_zero_le h0
  have hal := World.block_lt_of_cell? w _ ha
  have hrl := World.block_lt_of_cell? w _ hr
  obtain ⟨tn, tt, ts, tw⟩ := t
  simp only at hce h0 h1 ⊢
  subst hce
  have hb1 : Below w.heap.size w (w.alloc (.cells #[.int .i64 tn, .int .i64 (ce : Int), .int .i64 ts, .int .i64 tw] 53)) := (Below.refl _ _).alloc (Nat.le_refl _) _
  have ha1 := (hb1.cell hal).trans ha
  have hr1 := (hb1.cell hrl).trans hr
  have hhas := chas_any g (n * 16) ce (stP s to' n) _ (by omega) (hc.keep hb1)
  have HH := Lib.hid hhas
  obtain ⟨r, hr'⟩ : ∃ r, r = stP s to' n ce := ⟨_, rfl⟩
  rw [← hr'] at HH
  rw [Int.toNat_natCast, ← hr']
  clear hhas hc ha hr hal hrl hr'
  by_cases he : tw = (c : Int)
  · have d0 : (tw == (c : Int)) = true := by rw [beq_iff_eq]; exact he
    have d1 : Hid (decide (tw = (c : Int)) = true) := decide_eq_true he
    clear he
    go_enter Tryd.func51, Tryd.ntmps51
    go_wp2_with (go_at_call 38; refine HH.out.mono ?_; rintro e w2 ⟨rfl, rfl⟩)
    go_ret
    exact ⟨by rw [d1.out, Bool.true_and]; rfl, hb1⟩
  · have d0 : (tw == (c : Int)) = false := by rw [beq_eq_false_iff_ne]; exact he
    have d1 : Hid (decide (tw = (c : Int)) = false) := decide_eq_false he
    clear he
    go_enter Tryd.func51, Tryd.ntmps51
    go_wp2_with (go_at_call 38; refine HH.out.mono ?_; rintro e w2 ⟨rfl, rfl⟩)
    go_ret
    exact ⟨by rw [d1.out, Bool.false_and]; rfl, hb1⟩
/-- the first index of a tile with which a row goes on -/
def ixP (s : List Tl) (to' n c : Nat) : Nat := ((List.range s.length).find? fun i => decide ((ti s i).w = (c : Int)) && stP s to' n (ti s i).e.toNat).getD 0
/-- the first row from a colour -/
def fpP (s : List Tl) (to' : Nat) : Nat → Nat → List Nat
  | 0, _ => []
  | n + 1, c => ixP s to' n c :: fpP s to' n (ti s (ixP s to' n c)).e.toNat
theorem ixP_is (s : List Tl) (to' n c i : Nat) (hi : i < s.length) (hp : (decide ((ti s i).w = (c : Int)) && stP s to' n (ti s i).e.toNat) = true) (hno : ∀ j, j < i → (decide ((ti s j).w = (c : Int)) && stP s to' n (ti s j).e.toNat) = false) : ixP s to' n c = i := by
  unfold ixP
  have : (List.range s.length).find? (fun i => decide ((ti s i).w = (c : Int)) && stP s to' n (ti s i).e.toNat) = some i := by
    rw [List.find?_eq_some_iff_getElem]
    refine ⟨hp, i, by simpa using hi, by simp, fun j hj => ?_⟩
    simp only [List.getElem_range]
    rw [hno j hj]; rfl
  rw [this]; rfl
theorem stP_there (s : List Tl) (to' n c : Nat) (h : stP s to' (n + 1) c = true) : ∃ i, i < s.length ∧ (decide ((ti s i).w = (c : Int)) && stP s to' n (ti s i).e.toNat) = true := by
  unfold stP at h
  obtain ⟨t, ht, hp⟩ := List.any_eq_true.1 h
  obtain ⟨i, hi, e⟩ := List.mem_iff_getElem.1 ht
  refine ⟨i, hi, ?_⟩
  have : ti s i = t := by unfold ti; simp [hi, e]
  rw [this, Bool.and_comm]
  exact hp
theorem fpP_len (s : List Tl) (to' : Nat) : ∀ n c, (fpP s to' n c).length = n
  | 0, _ => rfl
  | n + 1, c => by show (fpP s to' n _).length + 1 = n + 1; rw [fpP_len s to' n]

/-- what firstPath returns -/
def IsFP (s : List Tl) (to' n f : Nat) (W : World) (e : Ending) (w' : World) : Prop :=
  ∃ A c, e = .returned (.slice A n c) ∧ IntsIn w' w'.heap.size A (idxI (fpP s to' n f)) ∧ Below W.heap.size W w'
set_option maxHeartbeats 4000000 in
theorem fpath_any (s : List Tl) (S : Option Addr) (m d to' n f g cp n1 : Nat) (w : World) (hm : m = s.length) (hv : vld s = true) (hS : SetIn w w.heap.size S s) (hn1 : n1 = n + 1) (hnp : 1 ≤ n) (hn : n ≤ 40000) (hg : ∀ j, j ≤ n → ColW w g (j * 16) (stP s to' j)) (hst : stP s to' n f = true) (hf : f < 1000) :
    Calls Tryd.prog 39 #[.slice S m d, .int .i64 (f : Int), .slice (some ⟨g, 0, none⟩) n1 cp] w (IsFP s to' n f w) := by
  obtain ⟨i0, hi, hz0, hz1, hz2⟩ := info_parts int_info
  have hby : i0.bytes * n ≤ 281474976710656 := by rw [hz2]; omega
  have hm1 : m ≤ 1000 := by rw [hm]; exact (vld_iff.1 hv).1
  have hn1b : n1 ≤ 40001 := by omega
  have hn1c : 1 ≤ n1 := by omega
  have e1 : (n1 : Int) - 1 = (n : Int) := by omega
  have HM := Lib.hid hm
  have HV := Lib.hid hv
  have HS := Lib.hid hS
  have HN1 := Lib.hid hn1
  have HG := Lib.hid hg
  have HST := Lib.hid hst
  obtain ⟨pb, hpb⟩ : ∃ pb, pb = w.heap.size := ⟨_, rfl⟩
  have HPB := Lib.hid hpb
  clear hm hv hS hn1 hg hst hpb
  go_enter Tryd.func39, Tryd.ntmps39
  go_upto_region 2 with (at_make; refine wpList_make_full _ rfl _ _ 25 rfl w.heap.size 3 i0 (.int .i64 0) 1 Tryd.underlying25 hi hz0 hz1 .i64 .i64 _ _ n rfl rfl rfl rfl hby (by simp only [maxLen]; omega) (by omega) ?_; intro w5 hown5 hgrow5)
  have hb5 : Below w.heap.size w w5 := ⟨hgrow5.os, hgrow5.tape, hgrow5.output, hgrow5.size, fun k hk => hgrow5.block k hk (by simp)⟩
  have hc5 : ∀ j, j < n → ∃ u, w5.cell? ⟨pb, j, none⟩ = some u := fun j hj => ⟨.int .i64 0, by rw [HPB.out, hown5.cellAt j (by omega), Nat.mul_one]; exact made_at _ _ _ hj⟩
  have hf5 : ∀ o, w5.frozen? ⟨pb, o, none⟩ = false := fun o => by rw [HPB.out]; exact hown5.frozenAt o
  have hlt5 : pb < w5.heap.size := by rw [HPB.out]; exact (hown5.lt _ rfl).2
  obtain ⟨ab, hab⟩ : ∃ ab, ab = w5.heap.size := ⟨_, rfl⟩
  obtain ⟨W6, hW6⟩ : ∃ W6, W6 = w5.alloc (.cells #[.int .i64 (f : Int)] 3) := ⟨_, rfl⟩
  have hb56 : Below w5.heap.size w5 W6 := by rw [hW6]; exact (Below.refl _ _).alloc (Nat.le_refl _) _
  have hat6 : W6.heap[ab]? = some (.cells #[.int .i64 (f : Int)] 3 (0, 0)) := by rw [hW6, hab]; exact heap_at _ _ _ rfl
  have hb6 : Below w.heap.size w W6 := hb5.trans (hb56.mono hb5.size)
  have hc6 : ∀ j, j < n → ∃ u, W6.cell? ⟨pb, j, none⟩ = some u := fun j hj => by obtain ⟨u, hu⟩ := hc5 j hj; exact ⟨u, (hb56.cell (p := ⟨pb, j, none⟩) hlt5).trans hu⟩
  have hf6 : ∀ o, W6.frozen? ⟨pb, o, none⟩ = false := fun o => (hb56.frozen (p := ⟨pb, o, none⟩) hlt5).trans (hf5 o)
  have hpa : pb ≠ ab := by omega
  have hwab : w.heap.size ≤ ab := by have := hb5.size; omega
  have HAB := Lib.hid hab
  have HW6 := Lib.hid hW6
  have HAT6 := Lib.hid hat6
  have HB6 := Lib.hid hb6
  have HC6 := Lib.hid hc6
  have HF6 := Lib.hid hf6
  rw [← HPB.out]
  clear hown5 hgrow5 hb5 hc5 hf5 hab hW6 hb56 hat6 hb6 hc6 hf6
  go_upto_region 4 with fail
  rw [← HAB.out, ← HW6.out]
  go_loopw [18] (fun iv wr => ∃ (i c : Nat) (P : List Nat), i ≤ n ∧ c < 1000 ∧ iv = .int .i64 (i : Int) ∧ Hid (fpP s to' n f = P ++ fpP s to' (n - i) c ∧ P.length = i ∧ stP s to' (n - i) c = true) ∧ Hid (∀ j, j < i → wr.cell? ⟨pb, j, none⟩ = some (.int .i64 ((P.getD j 0 : Nat) : Int))) ∧ Hid (wr.heap[ab]? = some (.cells #[.int .i64 (c : Int)] 3 (0, 0))) ∧ Hid (Below w.heap.size w wr) ∧ Hid (∀ j, j < n → ∃ u, wr.cell? ⟨pb, j, none⟩ = some u) ∧ Hid (∀ o, wr.frozen? ⟨pb, o, none⟩ = false)) (fun iv _ => n - (intOf iv).toNat)
  case atStart => exact ⟨0, f, [], Nat.zero_le _, hf, rfl, ⟨rfl, rfl, HST.out⟩, fun j hj => by omega, HAT6.out, HB6.out, HC6.out, HF6.out⟩
  case round =>
    clear HC6 HF6 HAT6 HB6
    obtain ⟨i, c, P, hin, hc1000, rfl, hP, hcells, hat, hbr, hcl, hfr⟩ := hrel
    obtain ⟨wo, rfl⟩ : ∃ wo : World, wo = wr := ⟨_, rfl⟩
    by_cases hlt : i < n
    · obtain ⟨x, hx⟩ : ∃ x, x = n - 1 - i := ⟨_, rfl⟩
      have hxi : (n : Int) - 1 - (i : Int) = (x : Int) := by omega
      have hxn : n - i = x + 1 := by omega
      have hx0 : (0 : Int) ≤ (x : Int) := by omega
      have hx1 : (x : Int) < (n1 : Int) := by have := HN1.out; omega
      have hi0 : (0 : Int) ≤ (i : Int) := by omega
      rw [hxn] at hP
      obtain ⟨rb, hrb⟩ : ∃ rb, rb = wo.heap.size := ⟨_, rfl⟩
      obtain ⟨W7, hW7⟩ : ∃ W7, W7 = wo.alloc (.cells #[.pointer (some ⟨g, x * 16, none⟩)] 96) := ⟨_, rfl⟩
      have HRB := Lib.hid hrb
      have HW7 := Lib.hid hW7
      have HX := Lib.hid hx
      clear hx hxn hrb hW7
      go_upto_region 7 with fail
      rw [← HRB.out, ← HW7.out]
      have hb7 : Below wo.heap.size wo W7 := by rw [HW7.out]; exact (Below.refl _ _).alloc (Nat.le_refl _) _
      have hrb7 : W7.heap[rb]? = some (.cells #[.pointer (some ⟨g, x * 16, none⟩)] 96 (0, 0)) := by rw [HW7.out, HRB.out]; exact heap_at _ _ _ rfl
      have hat7 := (hb7.block ab (Array.getElem?_eq_some_iff.1 hat.out).1).trans hat.out
      have hbw7 : Below w.heap.size w W7 := hbr.out.trans (hb7.mono hbr.out.size)
      have hpl : pb < wo.heap.size := by have := (Array.getElem?_eq_some_iff.1 hat.out).1; have := HAB.out; omega
      have hcl7 : ∀ j, j < n → ∃ u, W7.cell? ⟨pb, j, none⟩ = some u := fun j hj => by obtain ⟨u, hu⟩ := hcl.out j hj; exact ⟨u, (hb7.cell (p := ⟨pb, j, none⟩) hpl).trans hu⟩
      have hfr7 : ∀ o, W7.frozen? ⟨pb, o, none⟩ = false := fun o => (hb7.frozen (p := ⟨pb, o, none⟩) hpl).trans (hfr.out o)
      have hcells7 : ∀ j, j < i → W7.cell? ⟨pb, j, none⟩ = some (.int .i64 ((P.getD j 0 : Nat) : Int)) := fun j hj => (hb7.cell (p := ⟨pb, j, none⟩) hpl).trans (hcells.out j hj)
      have hgx := HG.out x (by omega)
      have hix := tindex_any s (fun t => decide (t.w = (c : Int)) && stP s to' x t.e.toNat) S m d (.pointer (some ⟨ab, 0, none⟩)) (.pointer (some ⟨rb, 0, none⟩)) W7 HM.out hm1 (HS.out.keep hbw7 hbw7.size) (stP_there s to' x c hP.out.2.2) (fun W hb k hk => by
        obtain ⟨-, ⟨h10, h11⟩, -, -⟩ := okt_bounds HV.out hk
        refine fp1_any (ti s k) s to' x c ab rb g W h10 h11 ?_ ?_ (hgx.keep (hbw7.trans (hb.mono hbw7.size)))
        · exact (hb.cell (p := ⟨ab, 0, none⟩) (Array.getElem?_eq_some_iff.1 hat7).1).trans (by simp [World.cell?, hat7])
        · exact (hb.cell (p := ⟨rb, 0, none⟩) (Array.getElem?_eq_some_iff.1 hrb7).1).trans (by simp [World.cell?, hrb7]))
      have HIX := Lib.hid hix
      have HAT7 := Lib.hid hat7
      have HBW7 := Lib.hid hbw7
      have HCL7 := Lib.hid hcl7
      have HFR7 := Lib.hid hfr7
      have HCELLS7 := Lib.hid hcells7
      have hpl7 : pb < W7.heap.size := Nat.lt_of_lt_of_le hpl hb7.size
      clear hb7 hrb7 hat7 hbw7 hcl7 hfr7 hcells7 hgx hix hat hbr hcl hfr hcells hxi
      go_upto_region 8 with (go_at_call 50; refine HIX.out.mono ?_; rintro e w8 ⟨ix, rfl, hixs, hixp, hixn, hb8⟩; have HIXP := Lib.hid hixp; have HIXN := Lib.hid hixn; obtain ⟨u8, hu8⟩ := HCL7.out i hlt; have hu8' := (hb8.cell (p := ⟨pb, i, none⟩) hpl7).trans hu8; have hz8 := (hb8.frozen (p := ⟨pb, i, none⟩) hpl7).trans (HFR7.out i); clear hixp hixn hu8)
      obtain ⟨W9, hW9⟩ : ∃ W9, W9 = w8.setCell ⟨pb, i, none⟩ (.int .i64 (ix : Int)) := ⟨_, rfl⟩
      rw [← hW9]
      have hbw9 : Below w.heap.size w W9 := by rw [hW9]; exact (HBW7.out.trans (hb8.mono HBW7.out.size)).setCell (p := ⟨pb, i, none⟩) (by rw [HPB.out]; exact Nat.le_refl _) _
      have hp9 : W9.cell? ⟨pb, i, none⟩ = some (.int .i64 (ix : Int)) := by rw [hW9]; exact World.cell?_setCell_same _ _ _ hu8'
      have hat9 : W9.heap[ab]? = some (.cells #[.int .i64 (c : Int)] 3 (0, 0)) := by
        rw [hW9, Below.heap_setCell _ _ _ _ (by intro e; exact hpa e.symm)]
        exact (hb8.block ab (Array.getElem?_eq_some_iff.1 HAT7.out).1).trans HAT7.out
      have hcl9 : ∀ j, j < n → ∃ u, W9.cell? ⟨pb, j, none⟩ = some u := fun j hj => by
        rw [hW9]
        by_cases e : j = i
        · subst e; exact ⟨_, World.cell?_setCell_same _ _ _ hu8'⟩
        · obtain ⟨u, hu⟩ := HCL7.out j hj
          exact ⟨u, (World.cell?_setCell_other _ _ _ _ (fun e' => by injection e' with _ e2; omega)).trans ((hb8.cell (p := ⟨pb, j, none⟩) hpl7).trans hu)⟩
      have hfr9 : ∀ o, W9.frozen? ⟨pb, o, none⟩ = false := fun o => by rw [hW9, World.frozen?_setCell]; exact (hb8.frozen (p := ⟨pb, o, none⟩) hpl7).trans (HFR7.out o)
      have hcells9 : ∀ j, j < i + 1 → W9.cell? ⟨pb, j, none⟩ = some (.int .i64 (((P ++ [ix]).getD j 0 : Nat) : Int)) := fun j hj => by
        rw [hW9]
        by_cases e : j = i
        · subst e
          rw [World.cell?_setCell_same _ _ _ hu8']
          have : (P ++ [ix]).getD j 0 = ix := by rw [List.getD_eq_getElem?_getD, List.getElem?_append_right (by rw [hP.out.2.1]; exact Nat.le_refl _), hP.out.2.1]; simp
          rw [this]
        · rw [World.cell?_setCell_other _ _ _ _ (fun e' => by injection e' with _ e2; omega), hb8.cell (p := ⟨pb, j, none⟩) hpl7, HCELLS7.out j (by omega)]
          have : (P ++ [ix]).getD j 0 = P.getD j 0 := by rw [List.getD_eq_getElem?_getD, List.getElem?_append_left (by rw [hP.out.2.1]; omega), ← List.getD_eq_getElem?_getD]
          rw [this]
      obtain ⟨sa, so, rfl, hsa, t0, t1, t2, t3⟩ := set_at HS.out hbw9 hixs
      obtain ⟨-, ⟨h10, h11⟩, -, -⟩ := okt_bounds HV.out hixs
      obtain ⟨ce, hce⟩ := Int.eq_ofNat_of_zero_le h10
      have t1' : W9.cell? ⟨sa, so + ix * 4 + 1, none⟩ = some (.int .i64 (ce : Int)) := by rw [t1, ← hce]; rfl
      have hce1 : ce < 1000 := by omega
      have hix0 : (0 : Int) ≤ (ix : Int) := by omega
      have hixm : (ix : Int) < (m : Int) := by have := HM.out; omega
      have ha9 : W9.cell? ⟨ab, 0, none⟩ = some (.int .i64 (c : Int)) := by simp [World.cell?, hat9]
      have hz9 : W9.frozen? ⟨ab, 0, none⟩ = false := by simp [World.frozen?, hat9]
      have hIX : ixP s to' x c = ix := ixP_is s to' x c ix hixs HIXP.out HIXN.out
      have hPn : Hid (fpP s to' n f = (P ++ [ix]) ++ fpP s to' x ce ∧ (P ++ [ix]).length = i + 1 ∧ stP s to' x ce = true) := by
        have h1 := hP.out.1
        have h2 : fpP s to' (x + 1) c = ix :: fpP s to' x ce := by
          show ixP s to' x c :: fpP s to' x (ti s (ixP s to' x c)).e.toNat = _
          rw [hIX, hce]; rfl
        refine ⟨by rw [h1, h2]; simp, by rw [List.length_append, hP.out.2.1]; rfl, ?_⟩
        have h3 := HIXP.out
        rw [Bool.and_eq_true] at h3
        have h4 := h3.2
        rw [hce] at h4
        exact h4
      have HBW9 := Lib.hid hbw9
      have HAT9 := Lib.hid hat9
      have HCL9 := Lib.hid hcl9
      have HFR9 := Lib.hid hfr9
      have HCELLS9 := Lib.hid hcells9
      have hab9 : ab < W9.heap.size := (Array.getElem?_eq_some_iff.1 hat9).1
      clear hW9 hbw9 hat9 hcl9 hfr9 hcells9 t0 t1 t2 t3 h10 h11 hce hIX hP hu8' hz8 hsa
      go_wp2_with fail
      have hrel1 : Hid (∀ j, j < i + 1 → (W9.setCell ⟨ab, 0, none⟩ (.int .i64 (ce : Int))).cell? ⟨pb, j, none⟩ = some (.int .i64 (((P ++ [ix]).getD j 0 : Nat) : Int))) := fun j hj => (World.cell?_setCell_other _ _ _ _ (fun e' => by injection e' with e2 _; exact hpa e2.symm)).trans (HCELLS9.out j hj)
      have hrel2 : Hid ((W9.setCell ⟨ab, 0, none⟩ (.int .i64 (ce : Int))).heap[ab]? = some (.cells #[.int .i64 (ce : Int)] 3 (0, 0))) := by show _ = _; rw [heap_setCell_same _ _ 0 _ _ _ HAT9.out]; rfl
      have hrel3 : Hid (Below w.heap.size w (W9.setCell ⟨ab, 0, none⟩ (.int .i64 (ce : Int)))) := HBW9.out.setCell (p := ⟨ab, 0, none⟩) hwab _
      have hrel4 : Hid (∀ j, j < n → ∃ u, (W9.setCell ⟨ab, 0, none⟩ (.int .i64 (ce : Int))).cell? ⟨pb, j, none⟩ = some u) := fun j hj => by obtain ⟨u, hu⟩ := HCL9.out j hj; exact ⟨u, (World.cell?_setCell_other _ _ _ _ (fun e' => by injection e' with e2 _; exact hpa e2.symm)).trans hu⟩
      have hrel5 : Hid (∀ o, (W9.setCell ⟨ab, 0, none⟩ (.int .i64 (ce : Int))).frozen? ⟨pb, o, none⟩ = false) := fun o => (World.frozen?_setCell _ _ _ _).trans (HFR9.out o)
      go_roundw
      case rel => exact ⟨i + 1, ce, P ++ [ix], by omega, hce1, by go_num, by show _ ∧ _ ∧ _; rw [show n - (i + 1) = x by have := HX.out; omega]; exact hPn.out, hrel1, hrel2, hrel3, hrel4, hrel5⟩
      case measure => simp [intOf]; omega
    · have hie : i = n := by omega
      have hfin : Hid (IntsIn wo wo.heap.size (some ⟨pb, 0, none⟩) (idxI (fpP s to' n f))) := fun _ => by
        have hPP : fpP s to' n f = P := by
          have h1 := hP.out.1
          rw [hie, Nat.sub_self] at h1
          rw [h1]; exact List.append_nil P
        have hpl : pb < wo.heap.size := by have := (Array.getElem?_eq_some_iff.1 hat.out).1; have := HAB.out; omega
        refine ⟨pb, 0, rfl, hpl, fun j hj => ?_⟩
        have hjn : j < n := by simpa [idxI, fpP_len] using hj
        rw [Nat.zero_add, hcells.out j (by omega), hPP]
        congr 2
        have hjP : j < P.length := by rw [hP.out.2.1]; omega
        unfold idxI
        rw [List.getD_eq_getElem?_getD, List.getD_eq_getElem?_getD, List.getElem?_map, List.getElem?_eq_getElem hjP]
        rfl
      have HBR := hbr
      clear hP hcells hat hbr hcl hfr hie
      go_wp2_with fail
      go_ret
      exact ⟨_, _, rfl, hfin.out, HBR.out⟩
end Go.Proofs.YtgadfmknjpanpaaDoor
