/-
  fill.rectangle.under: the level of a row, given the one above it.
-/
import Derived.Test.YtgadfmknjpanpaaGreatDoorFm
import Derived.StillTailTactics
namespace Go.Proofs.YtgadfmknjpanpaaGreatDoor
open Go.RowKit Go.Maps Go.BigFrame Go.Sort
set_option linter.unusedVariables false
set_option linter.unusedSimpArgs false
set_option maxRecDepth 100000

theorem cells6 {w : World} {q : Nat} {a b c d e f : Value} {t : TypeId} {fr : Nat × Nat} (h : w.heap[q]? = some (.cells #[a, b, c, d, e, f] t fr)) : w.cell? ⟨q, 0, none⟩ = some a ∧ w.cell? ⟨q, 1, none⟩ = some b ∧ w.cell? ⟨q, 2, none⟩ = some c ∧ w.cell? ⟨q, 3, none⟩ = some d ∧ w.cell? ⟨q, 4, none⟩ = some e ∧ w.cell? ⟨q, 5, none⟩ = some f := by
  refine ⟨?_, ?_, ?_, ?_, ?_, ?_⟩ <;> simp [World.cell?, h]
theorem pad8_wf (l : List Int) (h : l.length ≤ 8) (hw : ∀ v ∈ l, (Lit.int .i64 v).wf = true) : lwf (pad8 l) :=
  ⟨pad8_len l h, fun v hv => by
    unfold pad8 at hv
    rcases List.mem_append.1 hv with h1 | h1
    · exact hw v h1
    · rw [(List.mem_replicate.1 h1).2]; rfl⟩
theorem north_wf {s : List Tl} {r : List Nat} (hwf : ∀ t ∈ s, twf t) (hr : ∀ i ∈ r, i < s.length) (h8 : r.length ≤ 8) : lwf (north s r) :=
  pad8_wf _ (by rw [List.length_map]; exact h8) fun v hv => by
    obtain ⟨i, hi, rfl⟩ := List.mem_map.1 hv
    exact (hwf _ (ti_mem (hr i hi))).1
theorem south_wf {s : List Tl} {r : List Nat} (hwf : ∀ t ∈ s, twf t) (hr : ∀ i ∈ r, i < s.length) (h8 : r.length ≤ 8) : lwf (south s r) :=
  pad8_wf _ (by rw [List.length_map]; exact h8) fun v hv => by
    obtain ⟨i, hi, rfl⟩ := List.mem_map.1 hv
    exact (hwf _ (ti_mem (hr i hi))).2.2.1
/-- a rectangle as a value -/
def rect (h : Nat) (N : Option Addr) (nn nc : Nat) (E : Option Addr) (en ec : Nat) (S : Option Addr) (sn sc : Nat) (W : Option Addr) (wn wcap : Nat) (R : Option Addr) (rn rc : Nat) : Value :=
  .agg #[.int .i64 (h : Int), .slice N nn nc, .slice E en ec, .slice S sn sc, .slice W wn wcap, .slice R rn rc]
/-- the conditions on the edges of a rectangle -/
structure RectOk (d : Ed) (wd h : Nat) (nn en sn wn : Nat) (w : World) (B : Nat) (N E S W : Option Addr) : Prop where
  hn : nn = d.n.length
  he : en = d.e.length
  hs : sn = d.s.length
  hw : wn = d.w.length
  ok : EdOk wd h d
  mem : EdIn w B N E S W d
theorem RectOk.keep {d : Ed} {wd h nn en sn wn : Nat} {w w' : World} {B B' : Nat} {N E S W : Option Addr} (hk : RectOk d wd h nn en sn wn w B N E S W) (hb : Below B w w') (hB : B ≤ B') : RectOk d wd h nn en sn wn w' B' N E S W :=
  ⟨hk.hn, hk.he, hk.hs, hk.hw, hk.ok, hk.mem.keep hb hB⟩
def IsUnder (f : List Int → Nat) (W : World) (e : Ending) (w' : World) : Prop :=
  ∃ (b' n' : Nat) (D' : DataW Unit) (ks' : List (List Int)), e = .returned (.map (some b')) ∧ W.heap.size ≤ b' ∧ w'.ownsMap Tryz.prog 65 (plainElem Tryz.prog 3) b' n' D' ∧ n' ≤ 1000000000 ∧ Lv D' ks' f ∧ Below W.heap.size W w'

set_option maxHeartbeats 8000000 in
theorem under_any (s : List Tl) (d : Ed) (L : List (List Nat)) (wd h y : Nat) (N E S W R : Option Addr) (nn nc en ec sn sc wn wcap rn rc : Nat) (b n0 : Nat) (D : DataW Unit) (ks : List (List Int)) (gf : List Int → Nat) (w : World)
    (hL : ∀ r ∈ L, r.length = wd ∧ ∀ i ∈ r, i < s.length) (hwf : ∀ t ∈ s, twf t) (hw1 : 1 ≤ wd) (hw : wd ≤ 8) (hh : h ≤ 60) (hy : y < h) (hrn : rn = L.length) (hrn9 : rn ≤ 1000000000)
    (hok : RectOk d wd h nn en sn wn w w.heap.size N E S W) (hR : FlatIn (rowV s) 26 w w.heap.size R L)
    (hown : w.ownsMap Tryz.prog 65 (plainElem Tryz.prog 3) b n0 D) (hlv : Lv D ks gf) :
    Calls Tryz.prog 43 #[.agg #[.int .i64 (h : Int), .slice N nn nc, .slice E en ec, .slice S sn sc, .slice W wn wcap, .slice R rn rc], .map (some b), .int .i64 y] w (IsUnder (undF L (admE s d h y) (south s) (north s) gf L.length) w) := by
  have hmm := @run_makeMap Tryz.prog
  have HL := Lib.hid hL
  have HWF := Lib.hid hwf
  have HRN := Lib.hid hrn
  have HOK := Lib.hid hok
  have HR := Lib.hid hR
  have HOWN := Lib.hid hown
  have HLV := Lib.hid hlv
  clear hL hwf hrn hok hR hown hlv
  go_enter Tryz.func43, Tryz.ntmps43
  go_wp2_with fail
  obtain ⟨W0, hW0⟩ : ∃ W0, W0 = ((w.alloc (.cells #[.int .i64 (h : Int), .slice N nn nc, .slice E en ec, .slice S sn sc, .slice W wn wcap, .slice R rn rc] 60)).alloc (.map #[] 0)) := ⟨_, rfl⟩
  have hz0 : W0.heap.size = w.heap.size + 2 := by rw [hW0]; simp
  have hb0 : Below w.heap.size w W0 := by rw [hW0]; exact below_two w _ _
  have hbox0 : Hid (W0.heap[w.heap.size]? = some (.cells #[.int .i64 (h : Int), .slice N nn nc, .slice E en ec, .slice S sn sc, .slice W wn wcap, .slice R rn rc] 60 (0, 0))) := by
    show _ = _
    rw [hW0]
    exact heap_kp (heap_at w _ _ rfl) _
  have hlev0 : W0.ownsMap (H := Unit) Tryz.prog 65 (plainElem Tryz.prog 3) (w.heap.size + 1) 0 (.map []) := by
    rw [hW0]
    have := World.ownsMap_made (H := Unit) (w.alloc (.cells #[.int .i64 (h : Int), .slice N nn nc, .slice E en ec, .slice S sn sc, .slice W wn wcap, .slice R rn rc] 60)) Tryz.prog 65 (plainElem Tryz.prog 3)
    simpa using this
  rw [← hW0]
  have HZ0 := Lib.hid hz0
  clear hW0 hz0 hmm
  go_loopw [15] (fun i wr => ∃ (k n' : Nat) (D' : DataW Unit) (ks' : List (List Int)), k ≤ rn ∧ i = .int .i64 k ∧ wr.ownsMap Tryz.prog 65 (plainElem Tryz.prog 3) (w.heap.size + 1) n' D' ∧ n' ≤ k ∧ Hid (Lv D' ks' (undF L (admE s d h y) (south s) (north s) gf k)) ∧ Below (w.heap.size + 1) W0 wr ∧ W0.heap.size ≤ wr.heap.size) (fun i _ => rn - (intOf i).toNat)
  case atStart => exact ⟨0, 0, .map [], [], Nat.zero_le _, rfl, hlev0, Nat.le_refl _, Lv.empty.congr (fun l => by simp [undF, csum]), Below.refl _ _, Nat.le_refl _⟩
  case round =>
    clear hlev0
    obtain ⟨k, n', D', ks', hk, rfl, hlev, hn', hlv', hbr, hsz⟩ := hrel
    obtain ⟨wo, rfl⟩ : ∃ wo : World, wo = wr := ⟨_, rfl⟩
    have hbw : Below w.heap.size w wo := hb0.trans (hbr.mono (by omega))
    by_cases hlt : k < rn
    · have hkl : k < L.length := by rw [← HRN.out]; exact hlt
      obtain ⟨r, hr⟩ : ∃ r, L[k]? = some r := ⟨_, List.getElem?_eq_getElem hkl⟩
      obtain ⟨g, rfl, hg, hrows⟩ := HR.out (fun e => by rw [e] at hkl; simp at hkl)
      have hrange := rangeAt_keep (hrows k r hr) hbw hg
      obtain ⟨hrl, hri⟩ := HL.out r (List.mem_of_getElem? hr)
      have hr8 : r.length ≤ 8 := by omega
      have hnw := north_wf HWF.out hri hr8
      have hsw := south_wf HWF.out hri hr8
      have ha : Hid ((rowA s r).all (·.oneCell') = true) := rowA_one s r
      have hz : Hid ((rowA s r).size = 26) := rowA_size s r hr8
      have hk0 : (0 : Int) ≤ (k : Int) := by omega
      have hkn' : (k : Int) < (rn : Int) := by omega
      have g0 := row_lines s r hr8
      obtain ⟨a0, a1, a2, a3, a4, a5, a6, a7, hna⟩ := len8 (north s r) hnw.1
      obtain ⟨b0, b1, b2, b3, b4, b5, b6, b7, hsb⟩ := len8 (south s r) hsw.1
      have HRr := Lib.hid hr
      have HNW := Lib.hid hnw
      have HSW := Lib.hid hsw
      have HG0 := Lib.hid g0
      have HNA := Lib.hid hna
      have HSB := Lib.hid hsb
      have HRL := Lib.hid hrl
      clear hr hrl hri hnw hsw g0 hna hsb hrows hkl
      obtain ⟨G, hG⟩ : ∃ G, G = gf (north s r) := ⟨_, rfl⟩
      have hGc : G ≤ cap := by rw [hG]; exact HLV.out.le _
      have HGG := Lib.hid hG
      have HGG' := Lib.hid hG
      have hbox := cell_of_row wo w.heap.size
      have hboxo : Hid (wo.heap[w.heap.size]? = some (.cells #[.int .i64 (h : Int), .slice N nn nc, .slice E en ec, .slice S sn sc, .slice W wn wcap, .slice (some ⟨g, 0, none⟩) rn rc] 60 (0, 0))) := heap_below hbox0.out hbr (by omega)
      have hsz3 : w.heap.size + 2 ≤ wo.heap.size := by rw [HZ0.out] at hsz; exact hsz
      unfold cap at hGc
      clear hG hbox
      by_cases hG0 : G = 0
      · have d0 : decide ((0 : Int) < (G : Int)) = false := by simp; omega
        have d0' : decide (0 < G) = false := by simp; omega
        have hstep : Hid (∀ l, undF L (admE s d h y) (south s) (north s) gf (k + 1) l = undF L (admE s d h y) (south s) (north s) gf k l) := undF_no _ _ _ _ _ _ _ HRr.out (Or.inr (by rw [← HGG.out]; exact hG0))
        clear hG0
        go_wp2_with (first
          | (refine wpList_load_mid rfl _ _ rfl g (k * 26) rfl (rowV s r) _ hrange Tryz.underlying67 rfl (by rw [row_size]; simp [rowV_len s r hr8]) ?_)
          | (refine wpList_store_whole rfl _ _ _ rfl wo.heap.size (rowA s r) rfl rfl _ _ (heap_alloc_new wo _) (by rw [hz.out]; rfl) (by rw [row_size, hz.out]) ha.out ?_; intro wz hgz hsz' hbz; have hvz := below_var hgz; obtain ⟨x8, x9, x10, x11, x12, x13, x14, x15, x16, x17, x18, x19, x20, x21, x22, x23⟩ := row_cells hbz hr8 HNA.out HSB.out; have hlk := lv_lookup (HOWN.out.kept (grown_of_below (hbw.trans (hvz.mono hbw.size)) none) (by simp)) HLV.out HNW.out; rw [HNA.out] at hlk; simp only [vals, List.map_cons, List.map_nil] at hlk; rw [HNA.out] at HGG; rw [← HGG.out] at hlk))
        have hbz4 : Below (w.heap.size + 1) W0 wz := hbr.trans (hvz.mono (by omega))
        have hlev2 := hlev.kept (grown_of_below hvz none) (by simp)
        have hsz2 : W0.heap.size ≤ wz.heap.size := Nat.le_trans hsz hvz.size
        go_roundw
        case rel => exact ⟨k + 1, n', D', ks', by omega, by go_num, hlev2, by omega, hlv'.out.congr fun l => (hstep.out l).symm, hbz4, hsz2⟩
        case measure => simp [intOf]; omega
      · have d0 : decide ((0 : Int) < (G : Int)) = true := by simp; omega
        have d0' : decide (0 < G) = true := by simp; omega
        go_wp2_with (first
          | (refine wpList_load_mid rfl _ _ rfl g (k * 26) rfl (rowV s r) _ hrange Tryz.underlying67 rfl (by rw [row_size]; simp [rowV_len s r hr8]) ?_)
          | (refine wpList_store_whole rfl _ _ _ rfl wo.heap.size (rowA s r) rfl rfl _ _ (heap_alloc_new wo _) (by rw [hz.out]; rfl) (by rw [row_size, hz.out]) ha.out ?_; intro wz hgz hsz' hbz; have hvz := below_var hgz; obtain ⟨x8, x9, x10, x11, x12, x13, x14, x15, x16, x17, x18, x19, x20, x21, x22, x23⟩ := row_cells hbz hr8 HNA.out HSB.out; have hlk := lv_lookup (HOWN.out.kept (grown_of_below (hbw.trans (hvz.mono hbw.size)) none) (by simp)) HLV.out HNW.out; rw [HNA.out] at hlk; simp only [vals, List.map_cons, List.map_nil] at hlk; rw [HNA.out] at HGG; rw [← HGG.out] at hlk; obtain ⟨k0, k1, k2, k3, k4, k5⟩ := cells6 (heap_below hboxo.out hvz (by omega)))
          | (refine wpList_load_row_g (by rfl) _ _ rfl wo.heap.size rfl _ _ _ _ hbz Tryz.underlying67 rfl (by rw [row_size, hz.out]) ?_))
        obtain ⟨res, hres⟩ := (⟨_, rfl⟩ : ∃ res, admE s d h y r = res)
        have hbz : Below w.heap.size w wz := hbw.trans (hvz.mono hbw.size)
        have hokz := HOK.out.keep hbz hbz.size
        refine (admits_any s d r wd h y N E S W (some ⟨g, 0, none⟩) nn nc en ec sn sc wn wcap rn rc res wz HRL.out hw1 hw hh hy hokz.ok hokz.hn hokz.he hokz.hs hokz.hw hokz.mem hres).mono ?_
        rintro e w2 ⟨rfl, hb2⟩
        have hv2 : Below wo.heap.size wo w2 := hvz.trans (hb2.mono hvz.size)
        have hlev2 := hlev.kept (grown_of_below hv2 none) (by simp)
        have hbz4 : Below (w.heap.size + 1) W0 w2 := hbr.trans (hv2.mono (by omega))
        have hsz2 : W0.heap.size ≤ w2.heap.size := Nat.le_trans hsz hv2.size
        cases res
        · have hstep : Hid (∀ l, undF L (admE s d h y) (south s) (north s) gf (k + 1) l = undF L (admE s d h y) (south s) (north s) gf k l) := undF_no _ _ _ _ _ _ _ HRr.out (Or.inl hres)
          clear hres hokz
          go_wp2_with fail
          go_roundw
          case rel => exact ⟨k + 1, n', D', ks', by omega, by go_num, hlev2, by omega, hlv'.out.congr fun l => (hstep.out l).symm, hbz4, hsz2⟩
          case measure => simp [intOf]; omega
        · have hstep : Hid (∀ l, undF L (admE s d h y) (south s) (north s) gf (k + 1) l = if l = south s r then min (undF L (admE s d h y) (south s) (north s) gf k (south s r) + gf (north s r)) cap else undF L (admE s d h y) (south s) (north s) gf k l) := undF_yes _ _ _ _ _ _ _ HRr.out hres
          obtain ⟨F, hF⟩ : ∃ F, F = undF L (admE s d h y) (south s) (north s) gf k (south s r) := ⟨_, rfl⟩
          have hFc : F ≤ cap := by rw [hF]; exact hlv'.out.le _
          unfold cap at hFc
          have hlz2 : wo.heap.size < w2.heap.size := by have := hb2.size; rw [hsz'] at this; simp at this; omega
          have q0 := ext_cell ((hb2.cell (p := ⟨wo.heap.size, 16, none⟩) (by rw [hsz']; simp)).trans x16)
          have q1 := ext_cell ((hb2.cell (p := ⟨wo.heap.size, 17, none⟩) (by rw [hsz']; simp)).trans x17)
          have q2 := ext_cell ((hb2.cell (p := ⟨wo.heap.size, 18, none⟩) (by rw [hsz']; simp)).trans x18)
          have q3 := ext_cell ((hb2.cell (p := ⟨wo.heap.size, 19, none⟩) (by rw [hsz']; simp)).trans x19)
          have q4 := ext_cell ((hb2.cell (p := ⟨wo.heap.size, 20, none⟩) (by rw [hsz']; simp)).trans x20)
          have q5 := ext_cell ((hb2.cell (p := ⟨wo.heap.size, 21, none⟩) (by rw [hsz']; simp)).trans x21)
          have q6 := ext_cell ((hb2.cell (p := ⟨wo.heap.size, 22, none⟩) (by rw [hsz']; simp)).trans x22)
          have q7 := ext_cell ((hb2.cell (p := ⟨wo.heap.size, 23, none⟩) (by rw [hsz']; simp)).trans x23)
          have hlks : ∀ x, (Instr.lookup 63 (.map (some (w.heap.size + 1))) (.agg #[.int .i64 b0, .int .i64 b1, .int .i64 b2, .int .i64 b3, .int .i64 b4, .int .i64 b5, .int .i64 b6, .int .i64 b7]) false).run Tryz.prog (ext w2 x) = .ok (.int .i64 (F : Int)) (ext w2 x) := fun x => by
            have := lv_lookup (hlev2.kept (grown_of_below (ext_below x) none) (by simp)) hlv'.out HSW.out
            rw [← hF, HSB.out] at this
            exact this
          obtain ⟨M, hM⟩ : ∃ M, M = min (F + G) cap := ⟨_, rfl⟩
          have hMi : min ((F : Int) + (G : Int)) 1152921504606846977 = (M : Int) := by rw [hM]; unfold cap; omega
          have hM0 : 0 < M := by rw [hM]; unfold cap; omega
          have hMc : M ≤ cap := by rw [hM]; exact Nat.min_le_right _ _
          have hMc' : M ≤ 1152921504606846977 := by unfold cap at hMc; exact hMc
          have hkey : keyOf Tryz.prog 65 (.agg #[.int .i64 b0, .int .i64 b1, .int .i64 b2, .int .i64 b3, .int .i64 b4, .int .i64 b5, .int .i64 b6, .int .i64 b7]) = some (lk (south s r)) := by
            have := keyOf_line (south s r) HSW.out
            rw [HSB.out] at this ⊢
            exact this
          have cF : ∀ x, Calls Tryz.prog 57 #[.int .i64 (F : Int), .int .i64 (G : Int)] (ext w2 x) fun e w'' => e = .returned (.int .i64 (M : Int)) ∧ ∃ y, w'' = ext w2 y := fun x => by
            rw [← hMi]
            exact (plus_any F G _ (by omega) (by omega) (by omega) (by omega)).mono fun _ _ ⟨he, hw'⟩ => ⟨he, x, hw'.symm⟩
          have HF := Lib.hid hF
          have HM := Lib.hid hM
          have HMC := Lib.hid hMc
          have HKEY := Lib.hid hkey
          clear hM hMi hMc hkey x8 x9 x10 x11 x12 x13 x14 x15 x16 x17 x18 x19 x20 x21 x22 x23 hlk k0 k1 k2 k3 k4 k5 hres hokz hF hsz' hbz
          go_wp2_with fail
          refine wp_region_ext_tail 9 (by kernel_rfl) (by kernel_rfl) ?_
          simp only [List.take_succ_cons, List.take_zero, List.drop_succ_cons, List.drop_zero]
          repeat (go_big_quiet_step (first | (go_at_call 57; with_reducible exact cF _)))
          refine wpQuiet_nil ?_
          intro _ hw'
          obtain ⟨xq, rfl⟩ := hw'
          obtain ⟨W6, hb6, he6⟩ : ∃ W6, Below w2.heap.size w2 W6 ∧ ext w2 xq = W6 := ⟨_, ext_below _, rfl⟩
          rw [he6]
          have hlev6 := hlev2.kept (grown_of_below hb6 none) (by simp)
          have hs6 := hb6.size
          have HLEV6 := Lib.hid hlev6
          clear he6 xq q0 q1 q2 q3 q4 q5 q6 q7 hlks cF hlev2 hlev6 hlev
          go_wp2_with (at_mapUpdate; refine wpList_mapUpdate_own _ rfl _ _ _ 63 rfl 65 3 line_law Tryz.underlying63 _ (w.heap.size + 1) n' _ rfl HLEV6.out (by unfold maxLen; omega) _ _ _ rfl rfl HKEY.out _ [] (plainElem_int Tryz.underlying3 (WalkArith.wf_i64 (by omega))) ?_; intro w7 hown7 hgrow7)
          have hb7 : Below (w.heap.size + 1) W0 w7 := (hbz4.trans (hb6.mono (by omega))).trans (below_of_grown hgrow7 (Nat.le_refl _) (by omega))
          have hsz7 : W0.heap.size ≤ w7.heap.size := Nat.le_trans (Nat.le_trans hsz2 hs6) hgrow7.size
          have HLV7 : Hid (Lv (D'.put (lk (south s r)) (.lit (.int .i64 M))) (if south s r ∈ ks' then ks' else ks' ++ [south s r]) (undF L (admE s d h y) (south s) (north s) gf (k + 1))) :=
            (hlv'.out.add HSW.out hM0 HMC.out).congr fun l => by rw [hstep.out l, ← HF.out, ← HGG'.out, ← HM.out]
          have HO7 := Lib.hid hown7
          clear hown7 hgrow7
          go_roundw
          case rel => exact ⟨k + 1, n' + 1, _, _, by omega, by go_num, HO7.out, by omega, HLV7, hb7, hsz7⟩
          case measure => simp [intOf]; omega
    · have e : k = rn := by omega
      subst e
      have HLV8 : Hid (Lv D' ks' (undF L (admE s d h y) (south s) (north s) gf L.length)) := by
        rw [← HRN.out]
        exact hlv'
      have HO := Lib.hid hlev
      clear hlev hlv' hbox0
      go_wp2_with fail
      go_ret
      exact ⟨w.heap.size + 1, n', D', ks', rfl, by omega, HO.out, by omega, HLV8.out, hbw⟩
end Go.Proofs.YtgadfmknjpanpaaGreatDoor
