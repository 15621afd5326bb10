/-
  fill.rowsOf: all rows of a width.
-/
import Derived.Test.YtgadfmknjpanpaaGreatDoorFe
import Derived.Test.YtgadfmknjpanpaaGreatDoorTw
import Derived.Test.YtgadfmknjpanpaaGreatDoorSw
import Derived.Maps.AppendAt
namespace Go.Proofs.YtgadfmknjpanpaaGreatDoor
open Go.RowKit Go.Maps Go.BigFrame Go.Sort
set_option linter.unusedVariables false
set_option maxRecDepth 100000

theorem row_info : (Tryz.prog.info? 67).map (fun i => (i.zero, i.size, i.bytes)) = some (some (.agg #[.int .i64 0, .int .i64 0, .int .i64 0, .int .i64 0, .int .i64 0, .int .i64 0, .int .i64 0, .int .i64 0, .int .i64 0, .int .i64 0, .int .i64 0, .int .i64 0, .int .i64 0, .int .i64 0, .int .i64 0, .int .i64 0, .int .i64 0, .int .i64 0, .int .i64 0, .int .i64 0, .int .i64 0, .int .i64 0, .int .i64 0, .int .i64 0, .int .i64 0, .int .i64 0]), 26, 208) := by kernel_rfl
theorem range_filter (p : Nat → Bool) (j : Nat) : (List.range (j + 1)).filter p = (List.range j).filter p ++ if p j = true then [j] else [] := by
  rw [List.range_succ, List.filter_append]
  cases h : p j <;> simp [h]
/-- the longer rows of the first k rows, and of the next one by the first j tiles -/
def part (s : List Tl) (L : List (List Nat)) (k : Nat) (r : List Nat) (j : Nat) : List (List Nat) := (L.take k).flatMap (longer s) ++ ((List.range j).filter (mayJoin s r)).map fun i => r ++ [i]
theorem part_zero (s : List Tl) (L : List (List Nat)) (k : Nat) (r : List Nat) : part s L k r 0 = (L.take k).flatMap (longer s) := by simp [part]
theorem part_yes (s : List Tl) (L : List (List Nat)) (k : Nat) (r : List Nat) (j : Nat) (h : mayJoin s r j = true) : part s L k r (j + 1) = part s L k r j ++ [r ++ [j]] := by
  unfold part
  rw [range_filter, if_pos h, List.map_append, List.append_assoc]
  rfl
theorem part_no (s : List Tl) (L : List (List Nat)) (k : Nat) (r : List Nat) (j : Nat) (h : mayJoin s r j = false) : part s L k r (j + 1) = part s L k r j := by
  unfold part
  rw [range_filter, if_neg (by rw [h]; simp), List.append_nil]
theorem part_end (s : List Tl) (L : List (List Nat)) (k : Nat) (r : List Nat) (hr : L[k]? = some r) : part s L k r s.length = (L.take (k + 1)).flatMap (longer s) := by
  have hk : k < L.length := (List.getElem?_eq_some_iff.1 hr).1
  have e : L[k] = r := (List.getElem?_eq_some_iff.1 hr).2
  rw [List.take_succ_eq_append_getElem hk, List.flatMap_append, e]
  simp [part, longer]
theorem flatMap_take_le {α β : Type} (f : α → List β) : ∀ (l : List α) (k : Nat) (a : α), l[k]? = some a → ((l.take k).flatMap f).length + (f a).length ≤ (l.flatMap f).length
  | [], k, a, h => by simp at h
  | b :: l, 0, a, h => by
    have e : b = a := by simpa using h
    subst e
    simp
  | b :: l, k + 1, a, h => by
    have := flatMap_take_le f l k a (by simpa using h)
    rw [List.take_succ_cons, List.flatMap_cons, List.flatMap_cons, List.length_append, List.length_append]
    omega
theorem part_le (s : List Tl) (L : List (List Nat)) (k : Nat) (r : List Nat) (hr : L[k]? = some r) (j : Nat) (hj : j ≤ s.length) : (part s L k r j).length ≤ (L.flatMap (longer s)).length := by
  have h1 := flatMap_take_le (longer s) L k r hr
  have h2 : ((List.range j).filter (mayJoin s r)).length ≤ ((List.range s.length).filter (mayJoin s r)).length := by
    have : List.Sublist (List.range j) (List.range s.length) := by
      have e := List.take_append_drop j (List.range s.length)
      rw [List.take_range, Nat.min_eq_left hj] at e
      rw [← e]
      exact List.sublist_append_left _ _
    exact (this.filter _).length_le
  have h3 : (longer s r).length = ((List.range s.length).filter (mayJoin s r)).length := by simp [longer]
  unfold part
  rw [List.length_append, List.length_map]
  omega
theorem heap_keep {w : World} {g : Nat} {o : Obj} (h : w.heap[g]? = some o) (ob : Obj) : (w.alloc ob).heap[g]? = some o := by
  have hg := (Array.getElem?_eq_some_iff.1 h).1
  show (w.heap.push ob)[g]? = some o
  rw [Array.getElem?_push, if_neg (by omega)]
  exact h
theorem heap_alloc_old' (w : World) (ob : Obj) (j : Nat) (h : j < w.heap.size) : (w.alloc ob).heap[j]? = w.heap[j]? := by
  show (w.heap.push ob)[j]? = _
  rw [Array.getElem?_push, if_neg (by omega)]
theorem heap_below {w w' : World} {B g : Nat} {o : Obj} (h : w.heap[g]? = some o) (hb : Below B w w') (hg : g < B) : w'.heap[g]? = some o := (hb.block g hg).trans h
theorem rowA_at (s : List Tl) (r : List Nat) (h : r.length ≤ 8) : (rowA s r)[24]? = some (.int .i64 (east s r)) ∧ (rowA s r)[25]? = some (.int .i64 (west s r)) := by
  have h1 := rowInts_last s r h
  have h2 := rowInts_len s r h
  constructor
  · rw [← h1.2, getD_of_lt _ 24 0 (by omega)]
    simp [rowA, rowV, vals]
  · rw [← h1.1, getD_of_lt _ 25 0 (by omega)]
    simp [rowA, rowV, vals]
theorem own_mono {w : World} {base base' e size n : Nat} {v : Value} {xs : List Value} (h : w.ownsRow base e size v n xs) (hb : base' ≤ base) : w.ownsRow base' e size v n xs :=
  ⟨h.1, h.2.imp id fun ⟨g, cap, cur, hv, hg, r⟩ => ⟨g, cap, cur, hv, Nat.le_trans hb hg, r⟩⟩
/-- what rowsOf returns -/
def IsRows (s : List Tl) (x : Nat) (W : World) (e : Ending) (w' : World) : Prop :=
  ∃ v, e = .returned v ∧ w'.ownsRow W.heap.size 67 26 v (rws s x).length ((rws s x).flatMap (rowV s)) ∧ Below W.heap.size W w'

set_option maxHeartbeats 8000000 in
theorem rowsOf_any (s : List Tl) (S : Option Addr) (m d wd : Nat) (w : World) (hm : m = s.length) (hS : SetIn w w.heap.size S s) (hml : m ≤ 1000) (hw : wd ≤ 8) (hN : ∀ x, x ≤ wd → (rws s x).length ≤ 1000000000) :
    Calls Tryz.prog 23 #[.slice S m d, .int .i64 wd] w (IsRows s wd w) := by
  obtain ⟨i0, hi, hz0, hz1, hz2⟩ := info_parts row_info
  have HM := Lib.hid hm
  have HN := Lib.hid hN
  clear hm hN
  go_enter Tryz.func23, Tryz.ntmps23
  go_wp2_with fail
  obtain ⟨B, hB⟩ : ∃ B, B = w.heap.size := ⟨_, rfl⟩
  go_loopw [5, 15] (fun v i wr => ∃ x : Nat, x ≤ wd ∧ i = .int .i64 x ∧ wr.ownsRow w.heap.size 67 26 v (rws s x).length ((rws s x).flatMap (rowV s)) ∧ Below w.heap.size w wr) (fun _ i _ => wd - (intOf i).toNat)
  case atStart =>
    refine ⟨0, Nat.zero_le _, rfl, ?_, (Below.refl _ _).alloc (Nat.le_refl _) _⟩
    exact own_one w (rowV s []) 26 _ rfl
  case round =>
    clear hB B
    obtain ⟨x, hx, rfl, hown, hbw⟩ := hrel
    obtain ⟨wx, rfl⟩ : ∃ wx : World, wx = wr := ⟨_, rfl⟩
    obtain ⟨L, hL⟩ : ∃ L, L = rws s x := ⟨_, rfl⟩
    obtain ⟨n, hn⟩ : ∃ n, n = L.length := ⟨_, rfl⟩
    have hlen : ∀ r ∈ L, r.length = x := by rw [hL]; exact rws_len s x
    have hn9 : n ≤ 1000000000 := by rw [hn, hL]; exact HN.out x hx
    rw [← hL, ← hn] at hown
    by_cases hlt : x < wd
    · obtain ⟨A, c, rfl, hnc, hflat, hbase⟩ := own_flat hown (fun a ha => rowV_len s a (by rw [hlen a ha]; omega)) hn.symm
      have HL := Lib.hid hL
      have HLn := Lib.hid hn
      have HLen := Lib.hid hlen
      have HNx : Hid ((L.flatMap (longer s)).length ≤ 1000000000) := by
        show _ ≤ _
        rw [hL]
        exact HN.out (x + 1) hlt
      clear hL hn hlen hown
      go_wp2_with fail
      go_loopw [7, 20] (fun v i wr => ∃ (k : Nat) (P : List (List Nat)), k ≤ n ∧ i = .int .i64 k ∧ Hid (P = (L.take k).flatMap (longer s)) ∧ wr.ownsRow wx.heap.size 67 26 v P.length (P.flatMap (rowV s)) ∧ Below wx.heap.size wx wr) (fun _ i _ => n - (intOf i).toNat)
      case atStart => exact ⟨0, [], Nat.zero_le _, rfl, rfl, World.ownsRow_nil _ _ _ _, Below.refl _ _⟩
      case round =>
        obtain ⟨k, P, hk, rfl, hP, hown7, hbx⟩ := hrel
        obtain ⟨wy, rfl⟩ : ∃ wy : World, wy = wr := ⟨_, rfl⟩
        by_cases hkn : k < n
        · have hkl : k < L.length := by rw [← HLn.out]; exact hkn
          obtain ⟨r, hr⟩ : ∃ r, L[k]? = some r := ⟨_, List.getElem?_eq_getElem hkl⟩
          obtain ⟨g, rfl, hg, hrows⟩ := hflat (fun e => by rw [e] at hkl; simp at hkl)
          have hrange := rangeAt_keep (hrows k r hr) hbx hg
          have hrx : r.length = x := HLen.out r (List.mem_of_getElem? hr)
          have HR := Lib.hid hr
          have HRX := Lib.hid hrx
          have hk0 : (0 : Int) ≤ (k : Int) := by omega
          have hkn' : (k : Int) < (n : Int) := by omega
          clear hkl hr hrows hrx
          have ha : (rowA s r).all (·.oneCell') = true := rowA_one s r
          have hz : (rowA s r).size = 26 := rowA_size s r (by rw [HRX.out]; omega)
          have HA := Lib.hid ha
          have HZ := Lib.hid hz
          clear ha hz
          go_wp2_with (first
            | (refine wpList_load_mid rfl _ _ rfl g (k * 26) rfl (rowV s r) _ hrange Tryz.underlying67 rfl (by rw [row_size]; simp [rowV_len s r (by rw [HRX.out]; omega)]) ?_)
            | (refine wpList_store_whole rfl _ _ _ rfl wy.heap.size (rowA s r) rfl rfl _ _ (heap_alloc_new wy _) (by rw [HZ.out]; rfl) (by rw [row_size, HZ.out]) HA.out ?_; intro wz hgz hsz hbz))
          have hby : Below wy.heap.size wy wz := ⟨hgz.os, hgz.tape, hgz.output, by have := hgz.size; simp at this; omega, fun j hj => (hgz.block j (by simp; omega) (by simp; omega)).trans (heap_alloc_old' wy _ j hj)⟩
          have hzz : wz.heap.size = wy.heap.size + 1 := by rw [hsz]; simp
          have hownz := own_keep' hown7 hby
          have hnez : ∀ v7, wy.ownsRow wx.heap.size 67 26 v7 P.length (P.flatMap (rowV s)) → v7.ownBlock ≠ some wy.heap.size := fun v7 ho e => by have := (ho.lt _ e).2; omega
          have hnez' := hnez _ hown7
          have hbz : Hid (wz.heap[wy.heap.size]? = some (.cells (rowA s r) 67 (0, 0))) := hbz
          have HPz : Hid (P = part s L k r 0) := by show _ = _; rw [part_zero]; exact hP.out
          have hbxz : Below wx.heap.size wx wz := hbx.trans (hby.mono hbx.size)
          have hzx : wx.heap.size ≤ wy.heap.size := hbx.size
          have HZZ := Lib.hid hzz
          clear hgz hsz hrange hown7 hnez hP hbx hby hzz
          go_loopw [7, 26] (fun v i wr => ∃ (j : Nat) (P : List (List Nat)), j ≤ m ∧ i = .int .i64 j ∧ Hid (P = part s L k r j) ∧ wr.ownsRow wx.heap.size 67 26 v P.length (P.flatMap (rowV s)) ∧ v.ownBlock ≠ some wy.heap.size ∧ Hid (wr.heap[wy.heap.size]? = some (.cells (rowA s r) 67 (0, 0))) ∧ Below wx.heap.size wx wr ∧ wy.heap.size < wr.heap.size) (fun _ i _ => m - (intOf i).toNat)
          case atStart => exact ⟨0, P, Nat.zero_le _, rfl, HPz, hownz, hnez', hbz, hbxz, by rw [HZZ.out]; omega⟩
          case round =>
            clear HPz hownz hnez' hbz hbxz HZZ
            obtain ⟨j, Q, hj, rfl, hQ, hown, hne, hblk, hbr, hlz⟩ := hrel
            obtain ⟨wo, rfl⟩ : ∃ wo : World, wo = wr := ⟨_, rfl⟩
            by_cases hjm : j < m
            · have hjl : j < s.length := by rw [← HM.out]; exact hjm
              have hbwo : Below w.heap.size w wo := hbw.trans (hbr.mono hbw.size)
              obtain ⟨sb, so, rfl, hsb, c0, c1, c2, c3⟩ := set_at hS hbwo hjl
              obtain ⟨t, ht⟩ : ∃ t, t = ti s j := ⟨_, rfl⟩
              have ht' : s.getD j ⟨0, 0, 0, 0⟩ = t := ht.symm
              rw [ht'] at c0 c1 c2 c3
              have hE : wo.cell? ⟨wy.heap.size, 24, none⟩ = some (.int .i64 (east s r)) := by
                rw [cell_of_row _ _ _ _ _ _ hblk.out]
                exact (rowA_at s r (by rw [HRX.out]; omega)).1
              have hj0 : (0 : Int) ≤ (j : Int) := by omega
              have hjm' : (j : Int) < (m : Int) := by omega
              have HT := Lib.hid ht
              clear ht ht' hjl
              obtain ⟨E, hEe⟩ : ∃ E, E = east s r := ⟨_, rfl⟩
              rw [← hEe] at hE
              have HE := Lib.hid hEe
              clear hEe
              have hmj : mayJoin s r j = decide (x = 0 ∨ E = t.w) := by
                unfold mayJoin
                rw [HT.out, HE.out, decide_eq_decide, ← HRX.out, List.length_eq_zero_iff]
              by_cases hjo : x = 0 ∨ E = t.w
              · have hQ' : Hid (part s L k r (j + 1) = Q ++ [r ++ [j]]) := by show _ = _; rw [hQ.out]; exact part_yes s L k r j (by rw [hmj]; exact decide_eq_true hjo)
                clear hmj
                have hx8 : r.length < 8 := by rw [HRX.out]; omega
                have hX : Hid ((x : Int) = r.length) := by show _ = _; rw [HRX.out]
                have hext := fun (W : World) => extended_any s r j x j t W hX.out rfl HT.out hx8
                have HX := Lib.hid hext
                have HZ1 : Hid ((rowA s (r ++ [j])).size = 26) := rowA_size s _ (by simp; omega)
                have HV1 : Hid ((rowV s (r ++ [j])).length = 1 * 26) := rowV_len s _ (by simp; omega)
                have hQn : Q.length ≤ 1000000000 := by
                  have h1 := part_le s L k r HR.out j (by rw [← HM.out]; omega)
                  rw [← hQ.out] at h1
                  exact Nat.le_trans h1 HNx.out
                have hbyx := hbr.size
                clear hext hx8
                by_cases hx0 : x = 0
                · have d0 : ((x : Int) == 0) = true := by rw [beq_iff_eq]; omega
                  clear hjo hx0
                  go_wp2_with (first
                    | (refine wpList_load_row rfl _ _ rfl wy.heap.size rfl _ _ _ _ (heap_keep hblk.out _) Tryz.underlying67 rfl (by rw [row_size, HZ.out]) ?_)
                    | (go_at_call 42; refine (HX.out _).mono ?_; rintro e w3 ⟨rfl, hb3⟩)
                    | (refine wpList_buildSlice_one rfl _ _ rfl (rowA s (r ++ [j])) rfl _ Tryz.underlying57 i0 _ hi hz0 26 hz1 HZ1.out (by omega) (by omega) rfl ?_)
                    | (at_builtin; refine wpList_append_own_at _ rfl _ _ 57 rfl wx.heap.size 67 i0 _ 26 208 Tryz.underlying57 hi hz0 hz1 hz2 rfl (by decide) _ _ _ rfl ((own_keep' (hown.alloc _) hb3).alloc _) ⟨w3.heap.size, 0, none⟩ 1 1 (rowV s (r ++ [j])) rfl HV1.out (cell_news _ _ rfl _ _) (vals_one _) (by simp only [maxLen]; omega) (by omega) (by have h3 := hb3.size; simp at h3 ⊢; have := hbr.size; omega) ?_; intro v' w4 hown4 hgrow4 hnil4 hat4))
                  have h3s := hb3.size
                  simp at h3s
                  have hbo3 : Below wo.heap.size wo w3 := ((Below.refl _ _).alloc (Nat.le_refl _) _).trans (hb3.mono (by simp))
                  have hne4 : v'.ownBlock ≠ some wy.heap.size := by
                    rcases hat4 with h | h
                    · rw [h]; exact hne
                    · rw [h]; simp; omega
                  have hblk4 : Hid (w4.heap[wy.heap.size]? = some (.cells (rowA s r) 67 (0, 0))) := by
                    refine (hgrow4.block _ (by simp; omega) (fun h => hne h.symm)).trans ?_
                    exact heap_keep (heap_below hblk.out hbo3 hlz) _
                  have hb4 : Below wx.heap.size wx w4 := ((hbr.trans (hbo3.mono hbr.size)).alloc (Nat.le_trans hbr.size (by omega)) _).grown hgrow4 (by have := hbr.size; simp; omega) (fun k hk => (hown.lt k hk).1)
                  have hl4 : wy.heap.size < w4.heap.size := Nat.lt_of_lt_of_le (by simp; omega) hgrow4.size
                  have hown5 : w4.ownsRow wx.heap.size 67 26 v' (Q ++ [r ++ [j]]).length ((Q ++ [r ++ [j]]).flatMap (rowV s)) := by
                    rw [List.flatMap_append, List.length_append]
                    simpa using hown4
                  clear hnil4 hgrow4 hown4 hown hblk hat4 hb3 hbo3 hne hbr
                  go_roundw
                  case rel => exact ⟨j + 1, Q ++ [r ++ [j]], by omega, by go_num, hQ'.out.symm, hown5, hne4, hblk4, hb4, hl4⟩
                  case measure => simp [intOf]; omega
                · have d0 : ((x : Int) == 0) = false := by rw [beq_eq_false_iff_ne]; omega
                  have d1 : (E == t.w) = true := by rw [beq_iff_eq]; exact hjo.resolve_left hx0
                  clear hjo hx0
                  go_wp2_with (first
                    | (refine wpList_load_row rfl _ _ rfl wy.heap.size rfl _ _ _ _ (heap_keep hblk.out _) Tryz.underlying67 rfl (by rw [row_size, HZ.out]) ?_)
                    | (go_at_call 42; refine (HX.out _).mono ?_; rintro e w3 ⟨rfl, hb3⟩)
                    | (refine wpList_buildSlice_one rfl _ _ rfl (rowA s (r ++ [j])) rfl _ Tryz.underlying57 i0 _ hi hz0 26 hz1 HZ1.out (by omega) (by omega) rfl ?_)
                    | (at_builtin; refine wpList_append_own_at _ rfl _ _ 57 rfl wx.heap.size 67 i0 _ 26 208 Tryz.underlying57 hi hz0 hz1 hz2 rfl (by decide) _ _ _ rfl ((own_keep' (hown.alloc _) hb3).alloc _) ⟨w3.heap.size, 0, none⟩ 1 1 (rowV s (r ++ [j])) rfl HV1.out (cell_news _ _ rfl _ _) (vals_one _) (by simp only [maxLen]; omega) (by omega) (by have h3 := hb3.size; simp at h3 ⊢; have := hbr.size; omega) ?_; intro v' w4 hown4 hgrow4 hnil4 hat4))
                  have h3s := hb3.size
                  simp at h3s
                  have hbo3 : Below wo.heap.size wo w3 := ((Below.refl _ _).alloc (Nat.le_refl _) _).trans (hb3.mono (by simp))
                  have hne4 : v'.ownBlock ≠ some wy.heap.size := by
                    rcases hat4 with h | h
                    · rw [h]; exact hne
                    · rw [h]; simp; omega
                  have hblk4 : Hid (w4.heap[wy.heap.size]? = some (.cells (rowA s r) 67 (0, 0))) := by
                    refine (hgrow4.block _ (by simp; omega) (fun h => hne h.symm)).trans ?_
                    exact heap_keep (heap_below hblk.out hbo3 hlz) _
                  have hb4 : Below wx.heap.size wx w4 := ((hbr.trans (hbo3.mono hbr.size)).alloc (Nat.le_trans hbr.size (by omega)) _).grown hgrow4 (by have := hbr.size; simp; omega) (fun k hk => (hown.lt k hk).1)
                  have hl4 : wy.heap.size < w4.heap.size := Nat.lt_of_lt_of_le (by simp; omega) hgrow4.size
                  have hown5 : w4.ownsRow wx.heap.size 67 26 v' (Q ++ [r ++ [j]]).length ((Q ++ [r ++ [j]]).flatMap (rowV s)) := by
                    rw [List.flatMap_append, List.length_append]
                    simpa using hown4
                  clear hnil4 hgrow4 hown4 hown hblk hat4 hb3 hbo3 hne hbr
                  go_roundw
                  case rel => exact ⟨j + 1, Q ++ [r ++ [j]], by omega, by go_num, hQ'.out.symm, hown5, hne4, hblk4, hb4, hl4⟩
                  case measure => simp [intOf]; omega
              · have hQ' : Hid (part s L k r (j + 1) = Q) := by show _ = _; rw [hQ.out]; exact part_no s L k r j (by rw [hmj]; exact decide_eq_false hjo)
                have d0 : ((x : Int) == 0) = false := by rw [beq_eq_false_iff_ne]; omega
                have d1 : (E == t.w) = false := by rw [beq_eq_false_iff_ne]; exact fun e => hjo (Or.inr e)
                clear hmj hjo
                go_wp2_with fail
                go_roundw
                case rel => exact ⟨j + 1, Q, by omega, by go_num, (by show _ = _; exact hQ'.out.symm), hown.alloc _, hne, heap_keep hblk.out _, hbr.alloc hbr.size _, by simp; omega⟩
                case measure => simp [intOf]; omega
            · have e : j = m := by omega
              subst e
              have HQ : Hid (Q = (L.take (k + 1)).flatMap (longer s)) := by
                show _ = _
                rw [hQ.out, HM.out]
                exact part_end s L k r HR.out
              clear hblk hQ hne
              go_wp2_with fail
              go_roundw
              case rel => exact ⟨k + 1, Q, by omega, by go_num, HQ, hown, hbr⟩
              case measure => simp [intOf]; omega
        · have e : k = n := by omega
          subst e
          have HP : Hid (P = rws s (x + 1)) := by
            show _ = _
            rw [hP.out, List.take_of_length_le (by rw [← HLn.out]; omega), HL.out]
            rfl
          have hown8 := own_mono hown7 hbw.size
          rw [HP.out] at hown8
          have hb8 : Below w.heap.size w wy := hbw.trans (hbx.mono hbw.size)
          clear hP hown7 hbx HP
          go_wp2_with fail
          go_roundw
          case rel => exact ⟨x + 1, by omega, by go_num, hown8, hb8⟩
          case measure => simp [intOf]; omega
    · have e : x = wd := by omega
      subst e
      subst hn
      subst hL
      have HOwn := Lib.hid hown
      clear hown hlen
      go_wp2_with fail
      go_ret
      exact ⟨_, rfl, HOwn.out, hbw⟩
end Go.Proofs.YtgadfmknjpanpaaGreatDoor
