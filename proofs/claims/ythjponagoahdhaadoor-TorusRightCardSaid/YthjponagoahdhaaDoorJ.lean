/-
  tile.window, tile.Repeat: what a rectangle shows of a pattern, repeated.
-/
import Derived.Test.YthjponagoahdhaaDoorGI
namespace Go.Proofs.YthjponagoahdhaaDoor
open Go.RowKit Go.Maps Go.BigFrame
set_option linter.unusedVariables false

/-- A row of integers from block lo on. -/
def IntsNew (w : World) (lo : Nat) (A : Option Addr) (cs : List Int) : Prop :=
  cs ≠ [] → ∃ b off, A = some ⟨b, off, none⟩ ∧ lo ≤ b ∧ b < w.heap.size ∧ ∀ i, i < cs.length → w.cell? ⟨b, off + i, none⟩ = some (.int .i64 (cs.getD i 0))
theorem IntsNew.old {w : World} {lo : Nat} {A : Option Addr} {cs : List Int} (h : IntsNew w lo A cs) : IntsIn w w.heap.size A cs := fun hn => by
  obtain ⟨b, off, hA, _, hlt, hc⟩ := h hn
  exact ⟨b, off, hA, hlt, hc⟩
theorem IntsNew.mono {w : World} {lo lo' : Nat} {A : Option Addr} {cs : List Int} (h : IntsNew w lo A cs) (hl : lo' ≤ lo) : IntsNew w lo' A cs := fun hn => by
  obtain ⟨b, off, hA, hlo, hlt, hc⟩ := h hn
  exact ⟨b, off, hA, by omega, hlt, hc⟩
theorem IntsNew.keep {w w' : World} {lo : Nat} {A : Option Addr} {cs : List Int} (h : IntsNew w lo A cs) (hb : Below w.heap.size w w') : IntsNew w' lo A cs := fun hn => by
  obtain ⟨b, off, hA, hlo, hlt, hc⟩ := h hn
  exact ⟨b, off, hA, hlo, Nat.lt_of_lt_of_le hlt hb.size, fun i hi => (hb.cell (p := ⟨b, off + i, none⟩) hlt).trans (hc i hi)⟩
theorem IntsNew.set {w : World} {lo : Nat} {A : Option Addr} {cs : List Int} (h : IntsNew w lo A cs) {p : Addr} (hp : p.block < lo) (u : Value) : IntsNew (w.setCell p u) lo A cs := fun hn => by
  obtain ⟨b, off, hA, hlo, hlt, hc⟩ := h hn
  exact ⟨b, off, hA, hlo, by simpa [World.setCell] using hlt, fun i hi => (World.cell?_setCell_other w p ⟨b, off + i, none⟩ u (fun e => by rw [e] at hp; simp at hp; omega)).trans (hc i hi)⟩

theorem own_intsJ {w : World} {base n : Nat} {e : TypeId} {v : Value} {xs : List Int} (h : w.ownsRow base e 1 v n (xs.map (Value.int .i64))) : ∃ A c, v = .slice A n c ∧ n = xs.length ∧ n ≤ maxLen ∧ IntsNew w base A xs := by
  have hl : xs.length = n := by have := h.1; simpa using this
  rcases h.2 with ⟨rfl, h0⟩ | ⟨g, cap, cur, rfl, hb, hh, hnc, hm, hs, hx⟩
  · subst h0
    have : xs = [] := List.eq_nil_of_length_eq_zero hl
    subst this
    exact ⟨none, 0, rfl, rfl, by simp [maxLen], fun hne => absurd rfl hne⟩
  · refine ⟨_, cap, rfl, hl.symm, Nat.le_trans hnc hm, fun _ => ⟨g, 0, rfl, hb, (Array.getElem?_eq_some_iff.1 hh).1, fun i hi => ?_⟩⟩
    have := h.cellAt i (by omega)
    rw [Nat.zero_add, this, List.getElem?_map, List.getElem?_eq_getElem hi, List.getD_eq_getElem?_getD, List.getElem?_eq_getElem hi]
    rfl
theorem own_or (v : Value) : v.ownBlock = none ∨ v.ownBlock ≠ (none : Option Nat) := by
  by_cases h : v.ownBlock = none
  · exact .inl h
  · exact .inr h
theorem own_keep {w w' : World} {base e size n : Nat} {v : Value} {xs : List Value} (h : w.ownsRow base e size v n xs) (hb : Below w.heap.size w w') : w'.ownsRow base e size v n xs := h.kept (grown_of_below hb none) (own_or v)
theorem int_info : (Tryd.prog.info? 3).map (fun i => (i.zero, i.size, i.bytes)) = some (some (.int .i64 0), 1, 8) := by kernel_rfl

/-- the cells of what a rectangle shows, the first n of them -/
def winL (p : Pt) (x y w n : Nat) : List Int := (List.range n).map fun i => cel p ((x + i % w) % p.w.toNat) ((y + i / w) % p.h.toNat)
theorem winL_succ (p : Pt) (x y w r q : Nat) (hq : q < w) : (winL p x y w (r * w + q)).map (Value.int .i64) ++ [Value.int .i64 (cel p ((x + q) % p.w.toNat) ((y + r) % p.h.toNat))] = (winL p x y w (r * w + (q + 1))).map (Value.int .i64) := by
  unfold winL
  rw [← Nat.add_assoc, List.range_succ, List.map_append, List.map_append]
  have h2 : (r * w + q) % w = q := by rw [Nat.mul_comm, Nat.mul_add_mod]; exact Nat.mod_eq_of_lt hq
  have h3 : (r * w + q) / w = r := by rw [Nat.mul_comm, Nat.mul_add_div (by omega), Nat.div_eq_of_lt hq]; rfl
  simp only [List.map_cons, List.map_nil, h2, h3]
theorem winL_len (p : Pt) (x y w n : Nat) : (winL p x y w n).length = n := by simp [winL]

def IsWin (a b : Nat) (cs : List Int) (x y wd hg : Nat) (W : World) (e : Ending) (w' : World) : Prop :=
  ∃ B c, e = .returned (.agg #[.int .i64 (wd : Int), .int .i64 (hg : Int), .slice B (wd * hg) c]) ∧ IntsNew w' W.heap.size B (win ⟨a, b, cs⟩ x y wd hg).c ∧ Below W.heap.size W w'

set_option maxHeartbeats 4000000 in
theorem window_any (a b : Nat) (cs : List Int) (A : Option Addr) (n c : Nat) (X Y Wd Hg : Int) (x y wd hg : Nat) (w : World) (hX : X = x) (hY : Y = y) (hWd : Wd = wd) (hHg : Hg = hg)
    (ha : 1 ≤ a) (hb : 1 ≤ b) (hab : a * b ≤ 40000) (hl : cs.length = a * b) (hn : n = cs.length) (hP : IntsIn w w.heap.size A cs) (hw : 1 ≤ wd) (hh : 1 ≤ hg) (hwh : wd * hg ≤ 40000) (hx : x ≤ 1000000) (hy : y ≤ 1000000) :
    Calls Tryd.prog 35 #[.agg #[.int .i64 (a : Int), .int .i64 (b : Int), .slice A n c], .int .i64 X, .int .i64 Y, .int .i64 Wd, .int .i64 Hg] w (IsWin a b cs x y wd hg w) := by
  subst hX
  subst hY
  subst hWd
  subst hHg
  obtain ⟨i0, hi, hz0, hz1, hz2⟩ := info_parts int_info
  have HL := Lib.hid hl
  have HN := Lib.hid hn
  have HP := Lib.hid hP
  clear hl hn hP
  have w4 : wd ≤ 40000 := by have := Nat.le_mul_of_pos_right wd (show 0 < hg by omega); omega
  have h4 : hg ≤ 40000 := by have := Nat.le_mul_of_pos_left hg (show 0 < wd by omega); omega
  have m1 : (0 : Int) ≤ (wd : Int) * hg := by rw [← Int.natCast_mul]; omega
  have m2 : (wd : Int) * hg ≤ 40000 := by rw [← Int.natCast_mul]; omega
  have hby : i0.bytes * (wd * hg) ≤ 281474976710656 := by rw [hz2]; omega
  go_enter Tryd.func35, Tryd.ntmps35
  go_wp2_with (at_make; refine wpList_make_own _ rfl _ _ 25 rfl (w.heap.size + 2) 3 i0 (.int .i64 0) 1 Tryd.underlying25 hi hz0 hz1 .i64 .i64 _ (wd * hg) rfl rfl (by rw [Int.natCast_mul]) hby (by simp only [maxLen]; omega) (by simp) ?_; intro w1 hown1 hgrow1)
  have hbw : Below (w.heap.size + 2) ((w.alloc (.cells #[.int .i64 (a : Int), .int .i64 (b : Int), .slice A n c] 27)).alloc (.cells #[.int .i64 0, .int .i64 0, .slice none 0 0] 27)) w1 :=
    ⟨hgrow1.os, hgrow1.tape, hgrow1.output, hgrow1.size, fun k hk => hgrow1.block k (by simpa using hk) (by simp)⟩
  have q0 : w1.cell? ⟨w.heap.size, 0, none⟩ = some (.int .i64 (a : Int)) := (hbw.cell (p := ⟨w.heap.size, 0, none⟩) (by show w.heap.size < _; omega)).trans (by simp [go_sem])
  have q1 : w1.cell? ⟨w.heap.size, 1, none⟩ = some (.int .i64 (b : Int)) := (hbw.cell (p := ⟨w.heap.size, 1, none⟩) (by show w.heap.size < _; omega)).trans (by simp [go_sem])
  have q2 : w1.cell? ⟨w.heap.size, 2, none⟩ = some (.slice A n c) := (hbw.cell (p := ⟨w.heap.size, 2, none⟩) (by show w.heap.size < _; omega)).trans (by simp [go_sem])
  have r0 : w1.cell? ⟨w.heap.size + 1, 0, none⟩ = some (.int .i64 0) := (hbw.cell (p := ⟨w.heap.size + 1, 0, none⟩) (by show w.heap.size + 1 < _; omega)).trans (by simp [go_sem])
  have r1 : w1.cell? ⟨w.heap.size + 1, 1, none⟩ = some (.int .i64 0) := (hbw.cell (p := ⟨w.heap.size + 1, 1, none⟩) (by show w.heap.size + 1 < _; omega)).trans (by simp [go_sem])
  have r2 : w1.cell? ⟨w.heap.size + 1, 2, none⟩ = some (.slice none 0 0) := (hbw.cell (p := ⟨w.heap.size + 1, 2, none⟩) (by show w.heap.size + 1 < _; omega)).trans (by simp [go_sem])
  have hz : ∀ o, w1.frozen? ⟨w.heap.size + 1, o, none⟩ = false := fun o => (hbw.frozen (p := ⟨w.heap.size + 1, o, none⟩) (by show w.heap.size + 1 < _; omega)).trans (World.frozen?_alloc_at _ _ _ _ (by simp))
  have hb1 : Below w.heap.size w w1 := (((Below.refl _ _).alloc (Nat.le_refl _) _).alloc (by simp) _).trans (hbw.mono (by omega))
  have hs1 : w.heap.size + 2 ≤ w1.heap.size := by have := hbw.size; simpa using this
  have HQ0 := Lib.hid q0
  have HQ1 := Lib.hid q1
  have HQ2 := Lib.hid q2
  have HR0 := Lib.hid r0
  have HR1 := Lib.hid r1
  have HR2 := Lib.hid r2
  have HFZ := Lib.hid hz
  clear q0 q1 q2 r0 r1 r2 hz hbw hgrow1
  go_loopw [11, 19] (fun v i wr => ∃ r : Nat, r ≤ hg ∧ i = .int .i64 r ∧ wr.ownsRow (w.heap.size + 2) 3 1 v (r * wd) ((winL ⟨a, b, cs⟩ x y wd (r * wd)).map (.int .i64)) ∧ Below (w.heap.size + 2) w1 wr) (fun _ i _ => hg - (intOf i).toNat)
  case atStart => exact ⟨0, Nat.zero_le _, rfl, by simpa [winL] using hown1, Below.refl _ _⟩
  case round =>
    clear hown1
    obtain ⟨r, hr, rfl, hown, hbr⟩ := hrel
    obtain ⟨wo, rfl⟩ : ∃ wo : World, wo = wr := ⟨_, rfl⟩
    by_cases hlt : r < hg
    · go_wp2
      go_loopw [11, 23] (fun v i wr => ∃ q : Nat, q ≤ wd ∧ i = .int .i64 q ∧ wr.ownsRow (w.heap.size + 2) 3 1 v (r * wd + q) ((winL ⟨a, b, cs⟩ x y wd (r * wd + q)).map (.int .i64)) ∧ Below (w.heap.size + 2) w1 wr) (fun _ i _ => wd - (intOf i).toNat)
      case atStart => exact ⟨0, Nat.zero_le _, rfl, hown, hbr⟩
      case round =>
        clear hown hbr
        obtain ⟨q, hq, rfl, hown, hbq⟩ := hrel
        obtain ⟨wi, rfl⟩ : ∃ wi : World, wi = wr := ⟨_, rfl⟩
        by_cases hlq : q < wd
        · have hwi : Below w.heap.size w wi := hb1.trans (hbq.mono (by omega))
          have hsi : w.heap.size + 2 ≤ wi.heap.size := Nat.le_trans hs1 hbq.size
          have hsi2 : w.heap.size < wi.heap.size := by omega
          have q0 := (hbq.cell (p := ⟨w.heap.size, 0, none⟩) (by show w.heap.size < _; omega)).trans HQ0.out
          have q1 := (hbq.cell (p := ⟨w.heap.size, 1, none⟩) (by show w.heap.size < _; omega)).trans HQ1.out
          have q2 := (hbq.cell (p := ⟨w.heap.size, 2, none⟩) (by show w.heap.size < _; omega)).trans HQ2.out
          have hrq : r * wd + q < wd * hg := idx_lt hlq hlt
          obtain ⟨v, hv⟩ : ∃ v, v = cel ⟨a, b, cs⟩ ((x + q) % a) ((y + r) % b) := ⟨_, rfl⟩
          have HV := Lib.hid hv
          have HST := Lib.hid (winL_succ ⟨a, b, cs⟩ x y wd r q hlq)
          rw [Int.toNat_natCast, Int.toNat_natCast, ← hv] at HST
          clear hv
          go_wp2_with (first | (go_at_call 52; refine (cell_pat a b cs A n c _ _ v (x + q) (y + r) _ (by rw [Int.natCast_add]) (by rw [Int.natCast_add]) HV.out ha hb hab HL.out HN.out (HP.out.keep hwi hwi.size)).mono ?_; rintro e w2 ⟨rfl, hb2⟩) | (at_builtin; refine wpList_append_own _ rfl _ _ 25 rfl (w.heap.size + 2) 3 i0 (.int .i64 0) 1 8 Tryd.underlying25 hi hz0 hz1 hz2 rfl (by decide) _ _ _ rfl ((own_keep hown hb2).alloc _) ⟨w2.heap.size, 0, none⟩ 1 1 [.int .i64 v] rfl rfl (cell_one_new _ _ _) (ints_oneCell .i64 [v]) (by simp only [maxLen]; omega) (by omega) (by have := hb2.size; simp; omega) ?_; intro v' w3 hown3 hgrow3 hnil3))
          have hb3 : Below (w.heap.size + 2) w1 w3 := ((hbq.trans (hb2.mono hsi)).alloc (Nat.le_trans hsi hb2.size) _).grown hgrow3 (by have := hb2.size; simp; omega) (fun k hk => (hown.lt k hk).1)
          rw [HST.out] at hown3
          clear q0 q1 q2 hnil3 hgrow3
          go_roundw
          case rel => exact ⟨q + 1, by omega, by go_num, hown3, hb3⟩
          case measure => simp [intOf]; omega
        · have e : q = wd := by omega
          subst e
          rw [show r * q + q = (r + 1) * q from (by rw [Nat.add_mul, Nat.one_mul])] at hown
          go_wp2
          go_roundw
          case rel => exact ⟨r + 1, by omega, by go_num, hown, hbq⟩
          case measure => simp [intOf]; omega
    · have e : r = hg := by omega
      subst e
      rw [Nat.mul_comm r wd] at hown
      have q0 := (hbr.cell (p := ⟨w.heap.size + 1, 0, none⟩) (by show w.heap.size + 1 < _; omega)).trans HR0.out
      have q1 := (hbr.cell (p := ⟨w.heap.size + 1, 1, none⟩) (by show w.heap.size + 1 < _; omega)).trans HR1.out
      have q2 := (hbr.cell (p := ⟨w.heap.size + 1, 2, none⟩) (by show w.heap.size + 1 < _; omega)).trans HR2.out
      have z0 := (hbr.frozen (p := ⟨w.heap.size + 1, 0, none⟩) (by show w.heap.size + 1 < _; omega)).trans (HFZ.out 0)
      have z1 := (hbr.frozen (p := ⟨w.heap.size + 1, 1, none⟩) (by show w.heap.size + 1 < _; omega)).trans (HFZ.out 1)
      have z2 := (hbr.frozen (p := ⟨w.heap.size + 1, 2, none⟩) (by show w.heap.size + 1 < _; omega)).trans (HFZ.out 2)
      obtain ⟨B, cc, rfl, -, -, -⟩ := own_intsJ hown
      have HO := Lib.hid hown
      clear hown
      have hse : w.heap.size + 2 ≤ wo.heap.size := Nat.le_trans hs1 hbr.size
      go_wp2
      refine bodyPost_ret (v := .agg #[.int .i64 (wd : Int), .int .i64 (r : Int), .slice B (wd * r) cc]) (by simp [results, Tryd.results35, go_sem, q0, q1, q2]) rfl ?_
      have ho := ownsRow_setCell_below (ownsRow_setCell_below (ownsRow_setCell_below HO.out (a := ⟨w.heap.size + 1, 0, none⟩) (by show w.heap.size + 1 < _; omega) (.int .i64 (wd : Int))) (a := ⟨w.heap.size + 1, 1, none⟩) (by show w.heap.size + 1 < _; omega) (.int .i64 (r : Int))) (a := ⟨w.heap.size + 1, 2, none⟩) (by show w.heap.size + 1 < _; omega) (.slice B (wd * r) cc)
      obtain ⟨B', c', e', -, -, hI⟩ := own_intsJ ho
      injection e' with e1 e2 e3
      subst e1
      subst e3
      exact ⟨B, cc, rfl, hI.mono (by omega), (((hb1.trans (hbr.mono (by omega))).setCell (by show w.heap.size ≤ w.heap.size + 1; omega) _).setCell (by show w.heap.size ≤ w.heap.size + 1; omega) _).setCell (by show w.heap.size ≤ w.heap.size + 1; omega) _⟩
end Go.Proofs.YthjponagoahdhaaDoor
