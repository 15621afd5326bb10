/-
  slices.IndexFunc over rows; fill.rectangle.firstRow.
-/
import Derived.Test.YtgadfmknjpanpaaGreatDoorFw
import Derived.Test.YtgadfmknjpanpaaGreatDoorSo
namespace Go.Proofs.YtgadfmknjpanpaaGreatDoor
open Go.RowKit Go.Maps Go.BigFrame Go.Sort
set_option linter.unusedVariables false
set_option linter.unusedSimpArgs false
set_option maxRecDepth 100000

theorem find_at {β : Type} (p : β → Bool) (l : List β) (k : Nat) (r : β) (hr : l[k]? = some r) (hp : p r = true) (hn : ∀ q ∈ l.take k, p q = false) : l.find? p = some r := by
  have hk := (List.getElem?_eq_some_iff.1 hr).1
  have e := (List.getElem?_eq_some_iff.1 hr).2
  have e1 : l = l.take k ++ r :: l.drop (k + 1) := by
    conv => lhs; rw [← List.take_append_drop k l, List.drop_eq_getElem_cons hk, e]
  rw [e1, List.find?_append, List.find?_eq_none.2 fun q hq => by simp [hn q hq], List.find?_cons, hp]
  rfl
def IsIdx (L : List (List Nat)) (p : List Nat → Bool) (W : World) (e : Ending) (w' : World) : Prop :=
  ∃ i r, e = .returned (.int .i64 ((i : Nat) : Int)) ∧ L[i]? = some r ∧ L.find? p = some r ∧ Below W.heap.size W w'
set_option maxHeartbeats 4000000 in
theorem indexFunc_any (s : List Tl) (L : List (List Nat)) (p : List Nat → Bool) (R : Option Addr) (rn rc : Nat) (cy cb ca cr : Value) (w : World) (hL : ∀ r ∈ L, r.length ≤ 8) (hrn : rn = L.length) (hrn9 : rn ≤ 1000000000) (hR : FlatIn (rowV s) 26 w w.heap.size R L)
    (hex : ∃ r ∈ L, p r = true) (hcl : ∀ W, Below w.heap.size w W → ∀ r ∈ L, Calls Tryz.prog 45 #[.agg (rowA s r), cy, cb, ca, cr] W fun e w' => e = .returned (.bool (p r)) ∧ Below W.heap.size W w') :
    Calls Tryz.prog 44 #[.slice R rn rc, .func (Fn.func 45) #[] #[cy, cb, ca, cr]] w (IsIdx L p w) := by
  have HL := Lib.hid hL
  have HRN := Lib.hid hrn
  have HR := Lib.hid hR
  have HEX := Lib.hid hex
  have HCL := Lib.hid hcl
  clear hL hrn hR hex hcl
  go_enter Tryz.func44, Tryz.ntmps44
  go_wp2_with fail
  go_loopw [8] (fun i wr => ∃ k : Nat, k ≤ rn ∧ i = .int .i64 k ∧ Hid (∀ q ∈ L.take k, p q = false) ∧ Below w.heap.size w wr) (fun i _ => rn - (intOf i).toNat)
  case atStart => exact ⟨0, Nat.zero_le _, rfl, fun q hq => by simp at hq, Below.refl _ _⟩
  case round =>
    obtain ⟨k, hk, rfl, hno, hbr⟩ := hrel
    obtain ⟨wo, rfl⟩ : ∃ wo : World, wo = wr := ⟨_, rfl⟩
    by_cases hlt : k < rn
    · have hkl : k < L.length := by rw [← HRN.out]; exact hlt
      obtain ⟨r, hr⟩ : ∃ r, L[k]? = some r := ⟨_, List.getElem?_eq_getElem hkl⟩
      obtain ⟨g, rfl, hg, hrows⟩ := HR.out (fun e => by rw [e] at hkl; simp at hkl)
      have hrange := rangeAt_keep (hrows k r hr) hbr hg
      have hrm := List.mem_of_getElem? hr
      have hr8 := HL.out r hrm
      have hk0 : (0 : Int) ≤ (k : Int) := by omega
      have hkn' : (k : Int) < (rn : Int) := by omega
      have hcl := HCL.out wo hbr r hrm
      obtain ⟨pr, hpr⟩ : ∃ pr, pr = p r := ⟨_, rfl⟩
      rw [← hpr] at hcl
      have HC := Lib.hid hcl
      have HRr := Lib.hid hr
      have hlen : Hid ((rowV s r).length = 26) := rowV_len s r hr8
      cases pr
      · have HNO : Hid (∀ q ∈ L.take (k + 1), p q = false) := fun q hq => by
          have e := (List.getElem?_eq_some_iff.1 hr).2
          rw [List.take_succ_eq_append_getElem hkl, e] at hq
          rcases List.mem_append.1 hq with h1 | h1
          · exact hno.out q h1
          · rw [List.mem_singleton] at h1; rw [h1]; exact hpr.symm
        clear hno hrows hkl hr hcl hpr hrm
        go_wp2_with (first
          | (refine wpList_load_mid rfl _ _ rfl g (k * 26) rfl (rowV s r) _ hrange Tryz.underlying67 rfl (by rw [row_size]; simp [hlen.out]) ?_)
          | (go_at_call 45; refine HC.out.mono ?_; rintro e w2 ⟨rfl, hb2⟩))
        go_roundw
        case rel => exact ⟨k + 1, by omega, by go_num, HNO, hbr.trans (hb2.mono hbr.size)⟩
        case measure => simp [intOf]; omega
      · have HF : Hid (L.find? p = some r) := find_at p L k r hr hpr.symm hno.out
        clear hno hrows hkl hr hcl hpr hrm
        go_wp2_with (first
          | (refine wpList_load_mid rfl _ _ rfl g (k * 26) rfl (rowV s r) _ hrange Tryz.underlying67 rfl (by rw [row_size]; simp [hlen.out]) ?_)
          | (go_at_call 45; refine HC.out.mono ?_; rintro e w2 ⟨rfl, hb2⟩))
        go_ret
        exact ⟨k, r, rfl, HRr.out, HF.out, hbr.trans (hb2.mono hbr.size)⟩
    · exfalso
      obtain ⟨r, hr, hp⟩ := HEX.out
      have := hno.out r (by rw [List.take_of_length_le (by rw [← HRN.out]; omega)]; exact hr)
      rw [hp] at this
      cases this
def IsFirst (s : List Tl) (L : List (List Nat)) (p : List Nat → Bool) (W : World) (e : Ending) (w' : World) : Prop :=
  ∃ r, e = .returned (.agg (rowA s r)) ∧ L.find? p = some r ∧ Below W.heap.size W w'
theorem zero_row_one : ((#[.int .i64 0, .int .i64 0, .int .i64 0, .int .i64 0, .int .i64 0, .int .i64 0, .int .i64 0, .int .i64 0, .int .i64 0, .int .i64 0, .int .i64 0, .int .i64 0, .int .i64 0, .int .i64 0, .int .i64 0, .int .i64 0, .int .i64 0, .int .i64 0, .int .i64 0, .int .i64 0, .int .i64 0, .int .i64 0, .int .i64 0, .int .i64 0, .int .i64 0, .int .i64 0] : Array Value)).size = 26 := rfl
set_option maxHeartbeats 8000000 in
theorem firstRow_any (s : List Tl) (d : Ed) (L : List (List Nat)) (wd h y : Nat) (N E S W R : Option Addr) (nn nc en ec sn sc wn wcap rn rc : Nat) (below : List Int) (b n0 : Nat) (D : DataW Unit) (ks : List (List Int)) (gf : List Int → Nat) (w : World)
    (hL : ∀ r ∈ L, r.length = wd ∧ ∀ i ∈ r, i < s.length) (hwf : ∀ t ∈ s, twf t) (hw1 : 1 ≤ wd) (hw : wd ≤ 8) (hh : h ≤ 60) (hy : y < h) (hrn : rn = L.length) (hrn9 : rn ≤ 1000000000) (hok : RectOk d wd h nn en sn wn w w.heap.size N E S W) (hR : FlatIn (rowV s) 26 w w.heap.size R L) (hbl : lwf below)
    (hown : w.ownsMap Tryz.prog 65 (plainElem Tryz.prog 3) b n0 D) (hlv : Lv D ks gf) (hex : ∃ r ∈ L, okRow s d h y below gf r = true) :
    Calls Tryz.prog 25 #[.agg #[.int .i64 (h : Int), .slice N nn nc, .slice E en ec, .slice S sn sc, .slice W wn wcap, .slice R rn rc], .int .i64 y, .agg (vals below).toArray, .map (some b)] w (IsFirst s L (okRow s d h y below gf) w) := by
  obtain ⟨W5, hW5⟩ : ∃ W5, W5 = (((((w.alloc (.cells #[.int .i64 (h : Int), .slice N nn nc, .slice E en ec, .slice S sn sc, .slice W wn wcap, .slice R rn rc] 60)).alloc (.cells #[.int .i64 (y : Int)] 3)).alloc (.cells (vals below).toArray 65)).alloc (.cells #[.map (some b)] 63)).alloc (.cells #[.int .i64 0, .int .i64 0, .int .i64 0, .int .i64 0, .int .i64 0, .int .i64 0, .int .i64 0, .int .i64 0, .int .i64 0, .int .i64 0, .int .i64 0, .int .i64 0, .int .i64 0, .int .i64 0, .int .i64 0, .int .i64 0, .int .i64 0, .int .i64 0, .int .i64 0, .int .i64 0, .int .i64 0, .int .i64 0, .int .i64 0, .int .i64 0, .int .i64 0, .int .i64 0] 67)) := ⟨_, rfl⟩
  have hz5 : W5.heap.size = w.heap.size + 5 := by rw [hW5]; simp
  have hb5 : Below w.heap.size w W5 := by
    rw [hW5]
    exact be_alloc (be_alloc (be_alloc (be_alloc (be_alloc (Below.refl _ _) _) _) _) _) _
  have g0 : W5.heap[w.heap.size]? = some (.cells #[.int .i64 (h : Int), .slice N nn nc, .slice E en ec, .slice S sn sc, .slice W wn wcap, .slice R rn rc] 60 (0, 0)) := by
    rw [hW5]; exact heap_kp (heap_kp (heap_kp (heap_kp (heap_at w _ _ rfl) _) _) _) _
  have g1 : W5.heap[w.heap.size + 1]? = some (.cells #[.int .i64 (y : Int)] 3 (0, 0)) := by
    rw [hW5]; exact heap_kp (heap_kp (heap_kp (heap_at _ _ _ (by simp)) _) _) _
  have g2 : W5.heap[w.heap.size + 1 + 1]? = some (.cells (vals below).toArray 65 (0, 0)) := by
    rw [hW5]; exact heap_kp (heap_kp (heap_at _ _ _ (by simp)) _) _
  have g3 : W5.heap[w.heap.size + 1 + 1 + 1]? = some (.cells #[.map (some b)] 63 (0, 0)) := by
    rw [hW5]; exact heap_kp (heap_at _ _ _ (by simp)) _
  have g4 : W5.heap[w.heap.size + 1 + 1 + 1 + 1]? = some (.cells #[.int .i64 0, .int .i64 0, .int .i64 0, .int .i64 0, .int .i64 0, .int .i64 0, .int .i64 0, .int .i64 0, .int .i64 0, .int .i64 0, .int .i64 0, .int .i64 0, .int .i64 0, .int .i64 0, .int .i64 0, .int .i64 0, .int .i64 0, .int .i64 0, .int .i64 0, .int .i64 0, .int .i64 0, .int .i64 0, .int .i64 0, .int .i64 0, .int .i64 0, .int .i64 0] 67 (0, 0)) := by
    rw [hW5]; exact heap_at _ _ _ (by simp)
  have hI := indexFunc_any s L (okRow s d h y below gf) R rn rc (.pointer (some ⟨w.heap.size + 1, 0, none⟩)) (.pointer (some ⟨w.heap.size + 1 + 1, 0, none⟩)) (.pointer (some ⟨w.heap.size + 1 + 1 + 1, 0, none⟩)) (.pointer (some ⟨w.heap.size, 0, none⟩)) W5
    (fun r hr => by have := (hL r hr).1; omega) hrn hrn9 (hR.keep hb5 hb5.size) hex (fun W' hb r hr => by
      have hbw := hb5.trans (hb.mono hb5.size)
      exact firstRow1_any s d r wd h y N E S W R nn nc en ec sn sc wn wcap rn rc below b n0 D ks gf _ _ _ _ _ W' (hL r hr).1 (hL r hr).2 hwf hw1 hw hh hy (hok.keep hbw hbw.size) hbl (hown.kept (grown_of_below hbw none) (by simp)) hlv
        ((hb.cell (p := ⟨w.heap.size + 1, 0, none⟩) (by show w.heap.size + 1 < _; omega)).trans (by rw [cell_of_row _ _ _ _ _ _ g1]; rfl)) (heap_below g2 hb (by omega))
        ((hb.cell (p := ⟨w.heap.size + 1 + 1 + 1, 0, none⟩) (by show w.heap.size + 1 + 1 + 1 < _; omega)).trans (by rw [cell_of_row _ _ _ _ _ _ g3]; rfl)) (heap_below g0 hb (by omega)) rfl)
  have HI := Lib.hid hI
  have HL := Lib.hid hL
  have HRN := Lib.hid hrn
  have HR := Lib.hid (hR.keep hb5 hb5.size)
  have HG0 := Lib.hid g0
  have HG4 := Lib.hid g4
  have HB5 := Lib.hid hb5
  have HZ5 := Lib.hid hz5
  have HW5 := Lib.hid hW5
  clear hI hL hwf hrn hR hok hbl hown hlv hex g0 g1 g2 g3 g4 hb5 hz5 hW5
  go_enter Tryz.func25, Tryz.ntmps25
  go_wp2_with fail
  rw [← HW5.out]
  refine HI.out.mono ?_
  rintro e w2 ⟨i, r, rfl, hr, hf, hb2⟩
  have hil : i < rn := by rw [HRN.out]; exact (List.getElem?_eq_some_iff.1 hr).1
  obtain ⟨g, rfl, hg, hrows⟩ := HR.out (fun e => by rw [e] at hr; simp at hr)
  have hrange := rangeAt_keep (hrows i r hr) hb2 hg
  have hr8 : r.length ≤ 8 := by have := (HL.out r (List.mem_of_getElem? hr)).1; omega
  have hlen : Hid ((rowV s r).length = 26) := rowV_len s r hr8
  have hone : Hid ((rowA s r).all (·.oneCell') = true) := rowA_one s r
  obtain ⟨k0, k1, k2, k3, k4, k5⟩ := cells6 (heap_below HG0.out hb2 (by rw [HZ5.out]; omega))
  have h4 := heap_below HG4.out hb2 (by rw [HZ5.out]; omega)
  have H4 := Lib.hid h4
  have HRr := Lib.hid hr
  have HF := Lib.hid hf
  have hi0 : (0 : Int) ≤ (i : Int) := by omega
  have hi1 : (i : Int) < (rn : Int) := by omega
  have hsz : Hid ((rowA s r).size = 26) := rowA_size s r hr8
  clear h4 hr hf hrows
  go_wp2_with (first
    | (refine wpList_load_mid rfl _ _ rfl g (i * 26) rfl (rowV s r) _ hrange Tryz.underlying67 rfl (by rw [row_size]; simp [hlen.out]) ?_)
    | (refine wpList_store_whole rfl _ _ _ rfl (w.heap.size + 1 + 1 + 1 + 1) (rowA s r) rfl rfl _ _ H4.out (by rw [hsz.out]; rfl) (by rw [row_size, hsz.out]) hone.out ?_; intro w3 hg3 hs3 hb3))
  refine bodyPost_ret (results_cell_row Tryz.results25 _ _ (w.heap.size + 1 + 1 + 1 + 1) _ _ _ _ rfl hb3 Tryz.underlying67 rfl (by rw [row_size, hsz.out])) rfl ?_
  refine ⟨r, rfl, HF.out, (HB5.out.trans (hb2.mono HB5.out.size)).trans (below_of_grown hg3 (by omega) ?_)⟩
  have := hb2.size
  rw [HZ5.out] at this
  omega
end Go.Proofs.YtgadfmknjpanpaaGreatDoor
