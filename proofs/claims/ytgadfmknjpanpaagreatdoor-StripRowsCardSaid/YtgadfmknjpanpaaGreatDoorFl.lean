/-
  fill.rectangle.admits: the edges allow a row.
-/
import Derived.Test.YtgadfmknjpanpaaGreatDoorFk
import Derived.Test.YtgadfmknjpanpaaGreatDoorFa
import Derived.Deep.Cut
import Derived.Deep.CutRange
namespace Go.Proofs.YtgadfmknjpanpaaGreatDoor
open Go.RowKit Go.Maps Go.BigFrame Go.Sort
set_option linter.unusedVariables false
set_option linter.unusedSimpArgs false
set_option maxRecDepth 100000

/-- the four edges lie below block B -/
structure EdIn (w : World) (B : Nat) (N E S W : Option Addr) (d : Ed) : Prop where
  n : IntsIn w B N d.n
  e : IntsIn w B E d.e
  s : IntsIn w B S d.s
  w : IntsIn w B W d.w
theorem EdIn.keep {w w' : World} {B B' : Nat} {N E S W : Option Addr} {d : Ed} (h : EdIn w B N E S W d) (hb : Below B w w') (hB : B ≤ B') : EdIn w' B' N E S W d := ⟨h.n.keep hb hB, h.e.keep hb hB, h.s.keep hb hB, h.w.keep hb hB⟩
theorem len8 (l : List Int) (h : l.length = 8) : ∃ a b c d e f g i, l = [a, b, c, d, e, f, g, i] := by
  match l, h with
  | [a, b, c, d, e, f, g, i], _ => exact ⟨a, b, c, d, e, f, g, i, rfl⟩
theorem row_lines (s : List Tl) (r : List Nat) (h : r.length ≤ 8) (i : Nat) (hi : i < 8) : (rowA s r)[8 + i]? = some (.int .i64 ((north s r).getD i 0)) ∧ (rowA s r)[16 + i]? = some (.int .i64 ((south s r).getD i 0)) ∧ (rowA s r)[i]? = some (.int .i64 ((pad8 (r.map fun i : Nat => (i : Int))).getD i 0)) := by
  have h1 := pad8_len (r.map fun i : Nat => (i : Int)) (by rw [List.length_map]; exact h)
  have h2 := north_len s r h
  have h3 := south_len s r h
  have e : ∀ j : Nat, (rowA s r)[j]? = (rowInts s r)[j]?.map (Value.int .i64) := fun j => by
    show ((rowInts s r).map (Value.int .i64)).toArray[j]? = _
    rw [List.getElem?_toArray, List.getElem?_map]
  refine ⟨?_, ?_, ?_⟩
  · rw [e, rowInts, List.getElem?_append_right (by omega), h1, List.getElem?_append_left (by omega), show 8 + i - 8 = i by omega, getD_of_lt _ i 0 (by omega), List.getElem?_eq_getElem (by omega)]
    rfl
  · rw [e, rowInts, List.getElem?_append_right (by omega), h1, List.getElem?_append_right (by omega), h2, List.getElem?_append_left (by omega), show 16 + i - 8 - 8 = i by omega, getD_of_lt _ i 0 (by omega), List.getElem?_eq_getElem (by omega)]
    rfl
  · rw [e, rowInts, List.getElem?_append_left (by omega), getD_of_lt _ i 0 (by omega), List.getElem?_eq_getElem (by omega)]
    rfl
/-- the lines of a row that lies in a block of its own -/
theorem row_cells {w : World} {g : Nat} {s : List Tl} {r : List Nat} {t : TypeId} {a0 a1 a2 a3 a4 a5 a6 a7 b0 b1 b2 b3 b4 b5 b6 b7 : Int} (h : w.heap[g]? = some (.cells (rowA s r) t (0, 0))) (h8 : r.length ≤ 8) (ha : north s r = [a0, a1, a2, a3, a4, a5, a6, a7]) (hb : south s r = [b0, b1, b2, b3, b4, b5, b6, b7]) :
    w.cell? ⟨g, 8, none⟩ = some (.int .i64 a0) ∧ w.cell? ⟨g, 9, none⟩ = some (.int .i64 a1) ∧ w.cell? ⟨g, 10, none⟩ = some (.int .i64 a2) ∧ w.cell? ⟨g, 11, none⟩ = some (.int .i64 a3) ∧ w.cell? ⟨g, 12, none⟩ = some (.int .i64 a4) ∧ w.cell? ⟨g, 13, none⟩ = some (.int .i64 a5) ∧ w.cell? ⟨g, 14, none⟩ = some (.int .i64 a6) ∧ w.cell? ⟨g, 15, none⟩ = some (.int .i64 a7) ∧ w.cell? ⟨g, 16, none⟩ = some (.int .i64 b0) ∧ w.cell? ⟨g, 17, none⟩ = some (.int .i64 b1) ∧ w.cell? ⟨g, 18, none⟩ = some (.int .i64 b2) ∧ w.cell? ⟨g, 19, none⟩ = some (.int .i64 b3) ∧ w.cell? ⟨g, 20, none⟩ = some (.int .i64 b4) ∧ w.cell? ⟨g, 21, none⟩ = some (.int .i64 b5) ∧ w.cell? ⟨g, 22, none⟩ = some (.int .i64 b6) ∧ w.cell? ⟨g, 23, none⟩ = some (.int .i64 b7) := by
  have g0 := row_lines s r h8
  have p0 := (cell_of_row _ _ 8 _ _ _ h).trans (g0 0 (by omega)).1
  have p1 := (cell_of_row _ _ 9 _ _ _ h).trans (g0 1 (by omega)).1
  have p2 := (cell_of_row _ _ 10 _ _ _ h).trans (g0 2 (by omega)).1
  have p3 := (cell_of_row _ _ 11 _ _ _ h).trans (g0 3 (by omega)).1
  have p4 := (cell_of_row _ _ 12 _ _ _ h).trans (g0 4 (by omega)).1
  have p5 := (cell_of_row _ _ 13 _ _ _ h).trans (g0 5 (by omega)).1
  have p6 := (cell_of_row _ _ 14 _ _ _ h).trans (g0 6 (by omega)).1
  have p7 := (cell_of_row _ _ 15 _ _ _ h).trans (g0 7 (by omega)).1
  have q0 := (cell_of_row _ _ 16 _ _ _ h).trans (g0 0 (by omega)).2.1
  have q1 := (cell_of_row _ _ 17 _ _ _ h).trans (g0 1 (by omega)).2.1
  have q2 := (cell_of_row _ _ 18 _ _ _ h).trans (g0 2 (by omega)).2.1
  have q3 := (cell_of_row _ _ 19 _ _ _ h).trans (g0 3 (by omega)).2.1
  have q4 := (cell_of_row _ _ 20 _ _ _ h).trans (g0 4 (by omega)).2.1
  have q5 := (cell_of_row _ _ 21 _ _ _ h).trans (g0 5 (by omega)).2.1
  have q6 := (cell_of_row _ _ 22 _ _ _ h).trans (g0 6 (by omega)).2.1
  have q7 := (cell_of_row _ _ 23 _ _ _ h).trans (g0 7 (by omega)).2.1
  simp only [ha, hb, List.getD_cons_zero, List.getD_cons_succ] at p0 p1 p2 p3 p4 p5 p6 p7 q0 q1 q2 q3 q4 q5 q6 q7
  exact ⟨p0, p1, p2, p3, p4, p5, p6, p7, q0, q1, q2, q3, q4, q5, q6, q7⟩
theorem sideE_nil {l : List Int} {y : Nat} {c : Int} (h : l = []) : sideE l y c = true := by unfold sideE; simp [h]
theorem sideE_eq {l : List Int} {y : Nat} {c : Int} (h : l ≠ []) : sideE l y c = decide (l.getD y 0 = c) := by unfold sideE; simp [h]

set_option maxHeartbeats 8000000 in
theorem admits_any (s : List Tl) (d : Ed) (r : List Nat) (wd h y : Nat) (N E S W R : Option Addr) (nn nc en ec sn sc wn wcap rn rc : Nat) (res : Bool) (w : World)
    (hr : r.length = wd) (hw1 : 1 ≤ wd) (hw : wd ≤ 8) (hh : h ≤ 60) (hy : y < h) (hd : EdOk wd h d) (hn : nn = d.n.length) (he : en = d.e.length) (hs : sn = d.s.length) (hwl : wn = d.w.length) (hE : EdIn w w.heap.size N E S W d) (hres : admE s d h y r = res) :
    Calls Tryz.prog 46 #[.agg #[.int .i64 h, .slice N nn nc, .slice E en ec, .slice S sn sc, .slice W wn wcap, .slice R rn rc], .agg (rowA s r), .int .i64 y] w fun e w' => e = .returned (.bool res) ∧ Below w.heap.size w w' := by
  have g := row_lines s r (by omega)
  obtain ⟨a0, a1, a2, a3, a4, a5, a6, a7, ha⟩ := len8 (north s r) (north_len s r (by omega))
  obtain ⟨b0, b1, b2, b3, b4, b5, b6, b7, hb⟩ := len8 (south s r) (south_len s r (by omega))
  have p0 := (g 0 (by omega)).1
  have p1 := (g 1 (by omega)).1
  have p2 := (g 2 (by omega)).1
  have p3 := (g 3 (by omega)).1
  have p4 := (g 4 (by omega)).1
  have p5 := (g 5 (by omega)).1
  have p6 := (g 6 (by omega)).1
  have p7 := (g 7 (by omega)).1
  have q0 := (g 0 (by omega)).2.1
  have q1 := (g 1 (by omega)).2.1
  have q2 := (g 2 (by omega)).2.1
  have q3 := (g 3 (by omega)).2.1
  have q4 := (g 4 (by omega)).2.1
  have q5 := (g 5 (by omega)).2.1
  have q6 := (g 6 (by omega)).2.1
  have q7 := (g 7 (by omega)).2.1
  simp only [ha, hb, List.getD_cons_zero, List.getD_cons_succ] at p0 p1 p2 p3 p4 p5 p6 p7 q0 q1 q2 q3 q4 q5 q6 q7
  obtain ⟨t24, t25⟩ := rowA_at s r (by omega)
  obtain ⟨V, hV⟩ : ∃ V, V = rowA s r := ⟨_, rfl⟩
  rw [← hV] at p0 p1 p2 p3 p4 p5 p6 p7 q0 q1 q2 q3 q4 q5 q6 q7 t24 t25 ⊢
  obtain ⟨eV, heV⟩ : ∃ eV, eV = east s r := ⟨_, rfl⟩
  obtain ⟨wV, hwV⟩ : ∃ wV, wV = west s r := ⟨_, rfl⟩
  rw [← heV] at t24
  rw [← hwV] at t25
  have hres' : ((sideE d.w y wV && sideE d.e y eV) && ((decide (0 < y) || hasE d.s (lineS s r)) && (decide (y + 1 < h) || hasE d.n (lineN s r)))) = res := by rw [← hres, heV, hwV]; rfl
  have hcs := fun (r1 : Bool) (hr1 : hasE d.s (lineS s r) = r1) (W' : World) (hI : IntsIn W' W'.heap.size S d.s) => has_any (lineS s r) d.s S sn sc r1 W' hs (hd.2.2.1.imp id fun e => by simp [lineS, hr, e]) (by simp [lineS]; omega) hI hr1
  have hcn := fun (r1 : Bool) (hr1 : hasE d.n (lineN s r) = r1) (W' : World) (hI : IntsIn W' W'.heap.size N d.n) => has_any (lineN s r) d.n N nn nc r1 W' hn (hd.1.imp id fun e => by simp [lineN, hr, e]) (by simp [lineN]; omega) hI hr1
  have eS : (vals (pad8 (lineS s r))).toArray = #[.int .i64 b0, .int .i64 b1, .int .i64 b2, .int .i64 b3, .int .i64 b4, .int .i64 b5, .int .i64 b6, .int .i64 b7] := by
    show (vals (south s r)).toArray = _
    rw [hb]
    rfl
  have eN : (vals (pad8 (lineN s r))).toArray = #[.int .i64 a0, .int .i64 a1, .int .i64 a2, .int .i64 a3, .int .i64 a4, .int .i64 a5, .int .i64 a6, .int .i64 a7] := by
    show (vals (north s r)).toArray = _
    rw [ha]
    rfl
  rw [eS] at hcs
  rw [eN] at hcn
  obtain ⟨rs, hrs⟩ : ∃ rs, hasE d.s (lineS s r) = rs := ⟨_, rfl⟩
  obtain ⟨rn', hrn⟩ : ∃ rn', hasE d.n (lineN s r) = rn' := ⟨_, rfl⟩
  rw [hrs, hrn] at hres'
  have hcs' := hcs rs hrs
  have hcn' := hcn rn' hrn
  have hbw := below_two w (.cells #[.int .i64 (h : Int), .slice N nn nc, .slice E en ec, .slice S sn sc, .slice W wn wcap, .slice R rn rc] 60) (.cells V 67)
  have HCS := Lib.hid hcs'
  have HCN := Lib.hid hcn'
  have HE := Lib.hid hE
  have HD := Lib.hid hd
  have HLW := Lib.hid hwl
  have HLE := Lib.hid he
  have hwy : y < wn ∨ wn = 0 := by
    rcases hd.2.2.2 with e | e
    · right; rw [hwl, e]; rfl
    · left; omega
  have hey : y < en ∨ en = 0 := by
    rcases hd.2.1 with e | e
    · right; rw [he, e]; rfl
    · left; omega
  obtain ⟨fw, hfw⟩ : ∃ fw, sideE d.w y wV = fw := ⟨_, rfl⟩
  obtain ⟨fe, hfe⟩ : ∃ fe, sideE d.e y eV = fe := ⟨_, rfl⟩
  rw [hfw, hfe] at hres'
  have HFW := Lib.hid hfw
  have HFE := Lib.hid hfe
  have HRES := Lib.hid hres'
  have hy0 : (0 : Int) ≤ (y : Int) := by omega
  have hw0 : wn = 0 ∨ ∃ wb wo v, W = some ⟨wb, wo, none⟩ ∧ wb < w.heap.size ∧ w.cell? ⟨wb, wo + y, none⟩ = some (.int .i64 v) ∧ fw = decide (v = wV) ∧ 0 < wn ∧ (y : Int) < (wn : Int) := by
    rcases hwy with e | e
    · right
      obtain ⟨wb, wo, h1, h2, h3⟩ := hE.w.at (Below.refl _ _) (k := y) (by omega)
      exact ⟨wb, wo, _, h1, h2, h3, by rw [← hfw]; exact sideE_eq (fun e => by rw [e] at hwl; simp at hwl; omega), by omega, by omega⟩
    · exact Or.inl e
  have he0 : en = 0 ∨ ∃ wb wo v, E = some ⟨wb, wo, none⟩ ∧ wb < w.heap.size ∧ w.cell? ⟨wb, wo + y, none⟩ = some (.int .i64 v) ∧ fe = decide (v = eV) ∧ 0 < en ∧ (y : Int) < (en : Int) := by
    rcases hey with e | e
    · right
      obtain ⟨wb, wo, h1, h2, h3⟩ := hE.e.at (Below.refl _ _) (k := y) (by omega)
      exact ⟨wb, wo, _, h1, h2, h3, by rw [← hfe]; exact sideE_eq (fun e => by rw [e] at he; simp at he; omega), by omega, by omega⟩
    · exact Or.inl e
  have hw1' : wn = 0 → fw = true := fun e => by rw [← hfw]; exact sideE_nil (List.length_eq_zero_iff.1 (by omega))
  have he1' : en = 0 → fe = true := fun e => by rw [← hfe]; exact sideE_nil (List.length_eq_zero_iff.1 (by omega))
  have HW0 := Lib.hid hw0
  have HE0 := Lib.hid he0
  have HW1 := Lib.hid hw1'
  have HE1 := Lib.hid he1'
  have HY := Lib.hid hy
  clear hV heV hwV ha hb hres hres' hcs hcn hcs' hcn' eS eN hrs hrn hE hd hwl he hs hn hwy hey hfw hfe hw0 he0 hw1' he1' g hr
  go_enter Tryz.func46, Tryz.ntmps46
  go_upto_region 1 with fail
  go_cut [40] from 7 to 40 (fun v wx => v = .bool (!(fw && fe)) ∧ Hid (Below w.heap.size w wx) ∧ Hid (wx.heap[w.heap.size]? = some (.cells #[.int .i64 (h : Int), .slice N nn nc, .slice E en ec, .slice S sn sc, .slice W wn wcap, .slice R rn rc] 60 (0, 0))) ∧ Hid (wx.heap[w.heap.size + 1]? = some (.cells V 67 (0, 0))))
  case first =>
    clear p0 p1 p2 p3 p4 p5 p6 p7 q0 q1 q2 q3 q4 q5 q6 q7
    have h2a : Hid (((w.alloc (.cells #[.int .i64 (h : Int), .slice N nn nc, .slice E en ec, .slice S sn sc, .slice W wn wcap, .slice R rn rc] 60)).alloc (.cells V 67)).drew.heap[w.heap.size]? = some (.cells #[.int .i64 (h : Int), .slice N nn nc, .slice E en ec, .slice S sn sc, .slice W wn wcap, .slice R rn rc] 60 (0, 0))) := heap_kp (heap_at w _ _ rfl) _
    have h2b : Hid (((w.alloc (.cells #[.int .i64 (h : Int), .slice N nn nc, .slice E en ec, .slice S sn sc, .slice W wn wcap, .slice R rn rc] 60)).alloc (.cells V 67)).drew.heap[w.heap.size + 1]? = some (.cells V 67 (0, 0))) := heap_at _ _ _ (by simp)
    rcases HW0.out with e1 | ⟨wb, wo, v, rfl, hwb, hwc, hfw, hwn, hwy⟩
    · have hf1 := HW1.out e1
      subst e1
      subst hf1
      rcases HE0.out with e2 | ⟨eb, eo, u, rfl, heb, hec, hfe, hen, hey⟩
      · have hf2 := HE1.out e2
        subst e2
        subst hf2
        go_region
        try go_wp2_with fail
        go_meet
        exact ⟨rfl, hbw.drew, h2a, h2b⟩
      · have f0 : decide ((0 : Int) < (en : Int)) = true := by simpa using hen
        have f1 : decide (0 < en) = true := by simpa using hen
        by_cases hv2 : u = eV
        · have f2 : (u != eV) = false := by rw [bne_eq_false_iff_eq]; exact hv2
          have hf2 : fe = true := by rw [hfe]; exact decide_eq_true hv2
          subst hf2
          clear hv2 hfe
          go_region
          try go_wp2_with fail
          go_meet
          exact ⟨rfl, hbw.drew, h2a, h2b⟩
        · have f2 : (u != eV) = true := by rw [bne_iff_ne]; exact hv2
          have hf2 : fe = false := by rw [hfe]; exact decide_eq_false hv2
          subst hf2
          clear hv2 hfe
          go_region
          try go_wp2_with fail
          go_meet
          exact ⟨rfl, hbw.drew, h2a, h2b⟩
    · have g0 : decide ((0 : Int) < (wn : Int)) = true := by simpa using hwn
      have g1 : decide (0 < wn) = true := by simpa using hwn
      by_cases hv : v = wV
      · have g2 : (v != wV) = false := by rw [bne_eq_false_iff_eq]; exact hv
        have hf1 : fw = true := by rw [hfw]; exact decide_eq_true hv
        subst hf1
        clear hv hfw
        rcases HE0.out with e2 | ⟨eb, eo, u, rfl, heb, hec, hfe, hen, hey⟩
        · have hf2 := HE1.out e2
          subst e2
          subst hf2
          go_region
          try go_wp2_with fail
          go_meet
          exact ⟨rfl, hbw.drew, h2a, h2b⟩
        · have f0 : decide ((0 : Int) < (en : Int)) = true := by simpa using hen
          have f1 : decide (0 < en) = true := by simpa using hen
          by_cases hv2 : u = eV
          · have f2 : (u != eV) = false := by rw [bne_eq_false_iff_eq]; exact hv2
            have hf2 : fe = true := by rw [hfe]; exact decide_eq_true hv2
            subst hf2
            clear hv2 hfe
            go_region
            try go_wp2_with fail
            go_meet
            exact ⟨rfl, hbw.drew, h2a, h2b⟩
          · have f2 : (u != eV) = true := by rw [bne_iff_ne]; exact hv2
            have hf2 : fe = false := by rw [hfe]; exact decide_eq_false hv2
            subst hf2
            clear hv2 hfe
            go_region
            try go_wp2_with fail
            go_meet
            exact ⟨rfl, hbw.drew, h2a, h2b⟩
      · have g2 : (v != wV) = true := by rw [bne_iff_ne]; exact hv
        have hf1 : fw = false := by rw [hfw]; exact decide_eq_false hv
        subst hf1
        clear hv hfw
        go_region
        try go_wp2_with fail
        go_meet
        exact ⟨rfl, hbw.drew, h2a, h2b⟩
  case rest =>
    obtain ⟨rfl, HB, HR, HVV⟩ := hcut
    have hS0 : Below wc.heap.size wc wc := Below.refl _ _
    have keepc : ∀ {a : Addr} {u : Value}, wc.cell? a = some u → ∀ w', Below wc.heap.size wc w' → w'.cell? a = some u := fun h w' hb => (hb.cell (World.block_lt_of_cell? wc _ h)).trans h
    have k0 := keepc ((cell_of_row _ _ 0 _ _ _ HR.out).trans (show _ = some (Value.int .i64 (h : Int)) from rfl))
    have k1 := keepc ((cell_of_row _ _ 1 _ _ _ HR.out).trans (show _ = some (Value.slice N nn nc) from rfl))
    have k3 := keepc ((cell_of_row _ _ 3 _ _ _ HR.out).trans (show _ = some (Value.slice S sn sc) from rfl))
    have x8 := keepc ((cell_of_row _ _ 8 _ _ _ HVV.out).trans p0)
    have x9 := keepc ((cell_of_row _ _ 9 _ _ _ HVV.out).trans p1)
    have x10 := keepc ((cell_of_row _ _ 10 _ _ _ HVV.out).trans p2)
    have x11 := keepc ((cell_of_row _ _ 11 _ _ _ HVV.out).trans p3)
    have x12 := keepc ((cell_of_row _ _ 12 _ _ _ HVV.out).trans p4)
    have x13 := keepc ((cell_of_row _ _ 13 _ _ _ HVV.out).trans p5)
    have x14 := keepc ((cell_of_row _ _ 14 _ _ _ HVV.out).trans p6)
    have x15 := keepc ((cell_of_row _ _ 15 _ _ _ HVV.out).trans p7)
    have x16 := keepc ((cell_of_row _ _ 16 _ _ _ HVV.out).trans q0)
    have x17 := keepc ((cell_of_row _ _ 17 _ _ _ HVV.out).trans q1)
    have x18 := keepc ((cell_of_row _ _ 18 _ _ _ HVV.out).trans q2)
    have x19 := keepc ((cell_of_row _ _ 19 _ _ _ HVV.out).trans q3)
    have x20 := keepc ((cell_of_row _ _ 20 _ _ _ HVV.out).trans q4)
    have x21 := keepc ((cell_of_row _ _ 21 _ _ _ HVV.out).trans q5)
    have x22 := keepc ((cell_of_row _ _ 22 _ _ _ HVV.out).trans q6)
    have x23 := keepc ((cell_of_row _ _ 23 _ _ _ HVV.out).trans q7)
    have hcS := fun (W' : World) (hb : Below wc.heap.size wc W') => HCS.out W' ((HE.out.keep HB.out HB.out.size).keep hb hb.size).s
    have hcN := fun (W' : World) (hb : Below wc.heap.size wc W') => HCN.out W' ((HE.out.keep HB.out HB.out.size).keep hb hb.size).n
    have HCS2 := Lib.hid hcS
    have HCN2 := Lib.hid hcN
    have HY2 := HY.out
    have hh0 : (h : Int) - 1 ≤ 59 := by omega
    clear keepc hcS hcN p0 p1 p2 p3 p4 p5 p6 p7 q0 q1 q2 q3 q4 q5 q6 q7 t24 t25 HCS HCN
    cases hff : (fw && fe)
    · have hr0 : res = false := by rw [← HRES.out, hff]; rfl
      subst hr0
      clear hff
      go_wp2_with fail
      go_ret
      exact ⟨rfl, HB.out⟩
    · have hr1 : ((decide (0 < y) || rs) && (decide (y + 1 < h) || rn')) = res := by rw [← HRES.out, hff]; simp
      have HR1 := Lib.hid hr1
      clear hff hr1
      by_cases hyp : 0 < y
      · have d0 : decide ((0 : Int) < (y : Int)) = true := by simpa using hyp
        have d0' : decide (0 < y) = true := by simpa using hyp
        by_cases hyh : y + 1 < h
        · have d1 : decide ((y : Int) < (h : Int) - 1) = true := by simp; omega
          have hr2 : res = true := by rw [← HR1.out]; simp [hyp, hyh]
          subst hr2
          clear hyp
          go_wp2_with fail
          go_ret
          exact ⟨rfl, HB.out⟩
        · have d1 : decide ((y : Int) < (h : Int) - 1) = false := by simp; omega
          have hr2 : res = rn' := by rw [← HR1.out]; simp [hyp, hyh]
          subst hr2
          clear hyp
          go_wp2_with fail
          refine (HCN2.out _ hS0).mono ?_
          rintro e w2 ⟨rfl, hb2⟩
          go_wp2_with fail
          go_ret
          exact ⟨rfl, HB.out.trans (hb2.mono HB.out.size)⟩
      · have d0 : decide ((0 : Int) < (y : Int)) = false := by simp; omega
        have d0' : decide (0 < y) = false := by simp; omega
        cases hrs2 : rs
        · have hr2 : res = false := by rw [← HR1.out, hrs2]; simp [hyp]
          rw [hrs2] at HCS2
          subst hr2
          clear hyp hrs2
          go_wp2_with fail
          refine (HCS2.out _ hS0).mono ?_
          rintro e w2 ⟨rfl, hb2⟩
          go_wp2_with fail
          go_ret
          exact ⟨rfl, HB.out.trans (hb2.mono HB.out.size)⟩
        · rw [hrs2] at HCS2
          by_cases hyh : y + 1 < h
          · have d1 : decide ((y : Int) < (h : Int) - 1) = true := by simp; omega
            have hr2 : res = true := by rw [← HR1.out, hrs2]; simp [hyh]
            subst hr2
            clear hyp hrs2
            go_wp2_with fail
            refine (HCS2.out _ hS0).mono ?_
            rintro e w2 ⟨rfl, hb2⟩
            go_wp2_with fail
            go_ret
            exact ⟨rfl, HB.out.trans (hb2.mono HB.out.size)⟩
          · have d1 : decide ((y : Int) < (h : Int) - 1) = false := by simp; omega
            have hr2 : res = rn' := by rw [← HR1.out, hrs2]; simp [hyh]
            subst hr2
            clear hyp hrs2
            go_wp2_with fail
            refine (HCS2.out _ hS0).mono ?_
            rintro e w2 ⟨rfl, hb2⟩
            go_wp2_with fail
            refine (HCN2.out _ hb2).mono ?_
            rintro e w3 ⟨rfl, hb3⟩
            go_wp2_with fail
            go_ret
            exact ⟨rfl, HB.out.trans ((hb2.trans (hb3.mono hb2.size)).mono HB.out.size)⟩
end Go.Proofs.YtgadfmknjpanpaaGreatDoor
