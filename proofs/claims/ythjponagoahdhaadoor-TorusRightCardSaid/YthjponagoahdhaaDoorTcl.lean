/-
  torus.band.climb: the first tower over a lowest ring.
-/
import Derived.Test.YthjponagoahdhaaDoorTk
import Derived.Test.YthjponagoahdhaaDoorTb
import Derived.Deep.LoopGhost
namespace Go.Proofs.YthjponagoahdhaaDoor
open Go.RowKit Go.Maps Go.BigFrame Go.Sort
set_option linter.unusedVariables false
set_option linter.unusedSimpArgs false
set_option maxRecDepth 100000

theorem grown_of_drew {w w' : World} {o : Obj} {r r' : Option Nat} (h : (w.alloc o).drew.grownBy w' r') (e : r' = r) : w.grownBy w' r :=
  (World.grownBy_alloc w o r).trans ⟨h.os, h.tape, h.output, h.size, fun k hk hne => h.block k hk (by rw [e]; exact hne)⟩
theorem at_to {w : World} {o : Obj} {v : Value} {r r' : Option Nat} (h : v.ownBlock = r' ∨ v.ownBlock = some (w.alloc o).drew.heap.size) (e : r' = r) : v.ownBlock = r ∨ v.ownBlock = some (w.heap.size + 1) := by
  rcases h with h | h
  · exact Or.inl (h.trans e)
  · right
    rw [h]
    show some (w.heap.push o).size = _
    rw [Array.size_push]
/-- the state at the loop's head -/
def ClAt (over : Nat → List Nat) (nor : Nat → Nat) (sb : Nat) (B T mb nl h rn bottom : Nat) (Q : Nat → Nat) (w : World) (box : Array Value) (g : Nat) (v : Value) (wr : World) : Prop :=
  ∃ F', Hid (DeadT wr B T mb nl h Q F') ∧ Hid (DeadOk over nor sb h F') ∧ Hid (wr.heap[T]? = some (.cells box 55 (0, 0))) ∧ Below B w wr ∧
    ((∃ A c, v = .slice A 0 c ∧ Hid (fstT over nor sb (h - 1) (nor bottom) = none)) ∨
    ∃ (r i k : Nat) (Tl : List (Nat × Nat)) (f : Nat → Nat), Hid (wr.ownsRow (T + 1) 3 1 v (Tl.length + 1) (vals (idxI (twr r Tl)))) ∧ v.ownBlock ≠ some (T + 1 + 1) ∧ Hid (ITab wr (T + 1 + 1) h f) ∧ Hid (TrOk f i Tl) ∧ Hid (Low over nor sb bottom k r Tl) ∧ k + Tl.length + 1 = h ∧
      Hid (∀ k', k = k' + 1 → fstT over nor sb (k' + 1) (nor r) = restT over nor sb k' (nor r) i) ∧ Hid (g = topC over nor k (nor r) i + lowC over nor k Tl) ∧ r < rn ∧ Hid (∀ p ∈ Tl, p.1 < rn))
set_option maxHeartbeats 8000000 in
theorem climb_abs (over : Nat → List Nat) (nor sou : Nat → Nat) (B mb nl h hc rn rc rb O oc bottom : Nat) (Q : Nat → Nat) (w : World)
    (hring : ∀ W, Below B w W → ∀ i, i < rn → W.cell? ⟨rb, i * 8 + 6, none⟩ = some (.int .i64 (nor i : Nat)) ∧ W.cell? ⟨rb, i * 8 + 7, none⟩ = some (.int .i64 (sou i : Nat)))
    (hover : ∀ W, Below B w W → ∀ l, l < nl → ∃ A c, W.cell? ⟨O, l, none⟩ = some (.slice A (over l).length c) ∧ ∀ i r, (over l)[i]? = some r → r < rn ∧ ∃ ab ao, A = some ⟨ab, ao, none⟩ ∧ W.cell? ⟨ab, ao + i, none⟩ = some (.int .i64 (r : Nat)))
    (hnor : ∀ i, i < rn → nor i < nl) (hbot : bottom < rn) (hrn : rn ≤ 100000000) (hh1 : 1 ≤ h) (hh6 : h ≤ 6) (hol : ∀ l, (over l).length ≤ 100000000) (hnl : nl ≤ 300000000)
    (hdead : DeadT w B w.heap.size mb nl h Q fun _ _ => false) :
    Calls Tryd.prog 46 #[.agg #[.slice (some ⟨rb, 0, none⟩) rn rc, .slice (some ⟨O, 0, none⟩) nl oc], .int .i64 (bottom : Nat), .slice (some ⟨mb, 0, none⟩) h hc] w (IsClimb over nor sou B w.heap.size mb nl h bottom Q w) := by
  obtain ⟨i0, hi, hz0, hz1, hz2⟩ := info_parts int_info
  have hby : i0.bytes * h ≤ 281474976710656 := by rw [hz2]; omega
  obtain ⟨top, htop⟩ : ∃ top, top + 1 = h := ⟨h - 1, by omega⟩
  have mt : IntKind.i64.wrap ((h : Int) - 1) = (top : Int) := by rw [IntWalk.i64_in _ (by omega)]; omega
  have HRING := Lib.hid hring
  have HOVER := Lib.hid hover
  have HNOR := Lib.hid hnor
  have HDEAD := Lib.hid hdead
  have HOL := Lib.hid hol
  have HTOP := Lib.hid htop
  clear hring hover hnor hdead hol htop
  go_enter Tryd.func46, Tryd.ntmps46
  go_wp2_with fail
  go_step3
  go_wp2_with (first
    | (at_make; refine wpList_make_full _ rfl _ _ 25 rfl (w.heap.size + 2) 3 i0 (.int .i64 0) 1 Tryd.underlying25 hi hz0 hz1 .i64 .i64 _ _ h rfl rfl rfl rfl hby (by simp only [maxLen]; omega) (by simp) ?_; intro w3 hown3 hgrow3)
    | fail)
  obtain ⟨hlt3, hcw3, hfz3⟩ := own_words hown3
  have hb3 : Below w.heap.size w w3 := (below_two w _ _).grown hgrow3 (by simp; omega) (fun j hj => by cases hj)
  have hit3 : ITab w3 (w.heap.size + 1 + 1) h (fun _ => 0) := by
    refine ⟨by simpa using hlt3, fun j hj => ?_, fun o => by simpa using hfz3 o⟩
    have := (hcw3 j hj).trans (made_at (.int .i64 0) (h * 1) j (by omega))
    simpa using this
  have hbox3 : w3.heap[w.heap.size]? = some (.cells #[.slice (some ⟨rb, 0, none⟩) rn rc, .slice (some ⟨O, 0, none⟩) nl oc] 55 (0, 0)) := by
    exact (hgrow3.block _ (by simp; omega) (by simp)).trans (heap_kp (heap_at w _ _ rfl) _)
  have hown1 : w3.ownsRow (w.heap.size + 1) 3 1 (.slice (some ⟨w.heap.size + 1, 0, none⟩) 1 1) (([] : List (Nat × Nat)).length + 1) (vals (idxI (twr bottom []))) := by
    have h0 := own_one (w.alloc (.cells #[.slice (some ⟨rb, 0, none⟩) rn rc, .slice (some ⟨O, 0, none⟩) nl oc] 55)) [.int .i64 (bottom : Nat)] 1 3 rfl
    have h1 := h0.kept hgrow3 (Or.inr (by simp [Value.ownBlock]))
    simpa [twr, idxI, vals] using h1
  obtain ⟨sb, hsb⟩ : ∃ sb, sb = sou bottom := ⟨_, rfl⟩
  have hBT : B ≤ w.heap.size := by have := HDEAD.out.le; have := HDEAD.out.lt; omega
  have hd3 : DeadT w3 B w.heap.size mb nl h Q fun _ _ => false := HDEAD.out.keep hb3
  have HSB := Lib.hid hsb
  have hbB3 : Below B w w3 := hb3.mono (by omega)
  clear hown3 hgrow3 hlt3 hcw3 hfz3 hb3 hsb
  go_wp2_with fail
  go_step3
  go_wp2_with fail
  go_loopg [8] (topC over nor top (nor bottom) 0 + lowC over nor top []) (fun g v wr => ClAt over nor sb B w.heap.size mb nl h rn bottom Q w #[.slice (some ⟨rb, 0, none⟩) rn rc, .slice (some ⟨O, 0, none⟩) nl oc] g v wr)
  case atStart =>
    refine ⟨fun _ _ => false, hd3, ?_, hbox3, hbB3, Or.inr ⟨bottom, 0, top, [], _, hown1, ?_, hit3, rfl, .bottom top, ?_, ?_, rfl, hbot, ?_⟩⟩
    · intro y l _ e
      cases e
    · simp [Value.ownBlock]
    · have := HTOP.out
      simpa using this
    · intro k' e
      rfl
    · intro p hp
      cases hp
  case round =>
    clear hd3 hit3 hbox3 hown1 hbB3
    obtain ⟨F', hdt, hdo, hbox, hbB, hcase⟩ := hrel
    obtain ⟨wo, rfl⟩ : ∃ wo : World, wo = wr := ⟨_, rfl⟩
    obtain ⟨g0, rfl⟩ : ∃ g0 : Nat, g0 = gk := ⟨_, rfl⟩
    rcases hcase with ⟨A, c, rfl, hnone⟩ | ⟨r, i, k, Tl, f, hown, hne, hit, htr, hlow, hkT, hkept, hgk, hrr, hTl⟩
    · have hres : towerT over nor sou h bottom = none := by
        unfold towerT
        rw [← HSB.out, hnone.out]
        rfl
      have HRES := Lib.hid hres
      have HDT := Lib.hid hdt.out
      clear hres hnone hdt hdo hbox
      go_wp2_with fail
      rw [Exit.noGoto_ret]
      go_ret
      refine ⟨_, F', rfl, hbB, HDT.out, ?_⟩
      rw [HRES.out]
      rfl
    · obtain ⟨y, hy⟩ : ∃ y, y = Tl.length := ⟨_, rfl⟩
      obtain ⟨n1, hn1⟩ : ∃ n1, n1 = y + 1 := ⟨_, rfl⟩
      have hown' := hown.out
      rw [← hy, ← hn1] at hown'
      obtain ⟨A, c, rfl, -, hnc', hnm', hI, hA⟩ := own_ints hown'
      have hlen : (idxI (twr r Tl)).length = n1 := by unfold idxI; rw [List.length_map, twr_len]; omega
      obtain ⟨tg, tf, rfl, htg, hcl⟩ := hI (fun e => by rw [e] at hlen; simp at hlen; omega)
      have qt := hcl y (by omega)
      have hgd : (idxI (twr r Tl)).getD y 0 = (r : Int) := by
        have := twr_top r Tl
        rw [← hy] at this
        unfold idxI
        rw [List.getD_eq_getElem?_getD, List.getElem?_map, this]
        rfl
      rw [hgd] at qt
      have HOWN := Lib.hid hown'
      obtain ⟨q0, q1⟩ := cells2 hbox.out
      obtain ⟨qr, -⟩ := HRING.out wo hbB r hrr
      obtain ⟨-, qb⟩ := HRING.out wo hbB bottom hbot
      rw [← HSB.out] at qb
      have hyh : y < h := by omega
      have qi := hit.out.at_ y hyh
      have hfy : f y = i := by rw [hy]; exact htr.out.top
      rw [hfy] at qi
      have har := HNOR.out r hrr
      obtain ⟨a, ha⟩ : ∃ a, a = nor r := ⟨_, rfl⟩
      rw [← ha] at qr har
      obtain ⟨Ao, co, qo, hov⟩ := HOVER.out wo hbB a har
      obtain ⟨L, hL⟩ : ∃ L, L = (over a).length := ⟨_, rfl⟩
      rw [← hL] at qo
      have hL9 : L ≤ 100000000 := by rw [hL]; exact HOL.out a
      have m1 : IntKind.i64.wrap ((n1 : Int) - 1) = (y : Int) := by rw [IntWalk.i64_in _ (by omega)]; omega
      have y0 : (0 : Int) ≤ (y : Int) := by omega
      have y1 : (y : Int) < (n1 : Int) := by omega
      have r0 : (0 : Int) ≤ (r : Int) := by omega
      have r1 : (r : Int) < (rn : Int) := by omega
      have n0 : (0 : Int) < (n1 : Int) := by omega
      have HI := Lib.hid hI
      have HY := Lib.hid hy
      have HN1 := Lib.hid hn1
      have HA := Lib.hid ha
      have HOVA := Lib.hid hov
      have HLO := Lib.hid hL
      have HFY := Lib.hid hfy
      have HLEN := Lib.hid hlen
      clear hI hcl hgd hlen hA hown hown' hy ha hov hL hfy hn1
      rcases k with _ | k
      · have hyt : y = top := by have := HTOP.out; have := HY.out; omega
        have d0 : ((y : Int) == (top : Int)) = true := by rw [beq_iff_eq]; omega
        have HYT := Lib.hid hyt
        clear hyt
        have b0 : (0 : Int) ≤ (bottom : Int) := by omega
        have b1 : (bottom : Int) < (rn : Int) := by omega
        by_cases hs : a = sb
        · have d1 : ((a : Int) == (sb : Int)) = true := by rw [beq_iff_eq]; omega
          have hres : towerT over nor sou h bottom = some (twr r Tl) := by
            have h0 : fstT over nor sb 0 (nor r) = some [] := by
              rw [← HA.out, hs]
              simp [fstT]
            have := hlow.out.found h0
            unfold towerT
            rw [← HSB.out, show h - 1 = 0 + Tl.length by omega, this, List.append_nil]
            rfl
          have HRES := Lib.hid hres
          have HDT := Lib.hid hdt.out
          clear hres hdt hdo hbox hs hit htr hlow hkept hgk
          go_wp2_with fail
          go_region
          go_wp2_with fail
          rw [Exit.noGoto_ret]
          go_ret
          refine ⟨_, F', rfl, hbB.drew, HDT.out.keep (Below.refl _ _).drew, ?_⟩
          rw [HRES.out]
          refine ⟨some ⟨tg, tf, none⟩, c, ?_, HI.out.keep (Below.refl _ _).drew (Nat.le_refl _)⟩
          rw [twr_len, ← HY.out, ← HN1.out]
          rfl
        · have d1 : ((a : Int) == (sb : Int)) = false := by rw [beq_eq_false_iff_ne]; omega
          have hnone : Hid (fstT over nor sb 0 (nor r) = none) := by
            show _ = _
            rw [← HA.out]
            simp [fstT, hs]
          have hdeg : ¬ ((y : Int) < (top : Int)) := by have := HYT.out; omega
          have hdeg' : ¬ (y < top) := by omega
          clear hs
          go_wp2_with fail
          go_region
          go_wp2_with fail
          obtain ⟨kk, hkk⟩ : ∃ kk, kk = 0 := ⟨_, rfl⟩
          have HKK := Lib.hid hkk
          clear hkk q0 q1 qt qr qb qi qo
          go_loopg [8] (topC over nor kk (nor r) i + lowC over nor kk Tl) (fun g v wr => ∃ (i' : Nat) (f' : Nat → Nat), v = .slice (some ⟨tg, tf, none⟩) n1 c ∧ Hid (wr.ownsRow (w.heap.size + 1) 3 1 (.slice (some ⟨tg, tf, none⟩) n1 c) n1 (vals (idxI (twr r Tl)))) ∧ Hid (ITab wr (w.heap.size + 1 + 1) h f') ∧ Hid (TrOk f' i' Tl) ∧ Hid (DeadT wr B w.heap.size mb nl h Q F') ∧
            Hid (wr.heap[w.heap.size]? = some (.cells #[.slice (some ⟨rb, 0, none⟩) rn rc, .slice (some ⟨O, 0, none⟩) nl oc] 55 (0, 0))) ∧ Below B w wr ∧ Hid (∀ k', kk = k' + 1 → fstT over nor sb (k' + 1) (nor r) = restT over nor sb k' (nor r) i') ∧ Hid (g = topC over nor kk (nor r) i' + lowC over nor kk Tl) ∧ g ≤ g0)
          case atStart => exact ⟨i, f, rfl, HOWN.out.drew, hit.out.keep (Below.refl _ _).drew, htr, hdt.out.keep (Below.refl _ _).drew, hbox.out, hbB.drew, by rw [HKK.out]; exact hkept.out, rfl, by rw [HKK.out, hgk.out]; exact Nat.le_refl _⟩
          case round =>
            obtain ⟨i2, f2, rfl, hown2, hit2, htr2, hdt2, hbox2, hbB2, hkept2, hg2, hle2⟩ := hrel
            obtain ⟨wi, rfl⟩ : ∃ wi : World, wi = wr := ⟨_, rfl⟩
            clear hdt hbox hit htr hgk hkept HOWN hbB
            obtain ⟨q0, q1⟩ := cells2 hbox2.out
            have hfy : f2 y = i2 := by rw [HY.out]; exact htr2.out.top
            have qi := hit2.out.at_ y hyh
            rw [hfy] at qi
            clear hfy
            obtain ⟨Ao, co, qo, hov⟩ := HOVER.out wi hbB2 a har
            rw [← HLO.out] at qo
            have HOVA := Lib.hid hov
            clear hov
            have hnon : Hid (fstT over nor sb kk (nor r) = none) := by show _ = _; rw [HKK.out]; exact hnone
            obtain ⟨hQm, hQB, hQT, dq, hbt⟩ := hdt2.out.tab y hyh
            have dc := hdt2.out.at_ y a hyh har
            have df := hbt.2.2 a
            have yh' : (y : Int) < (h : Int) := by omega
            have ea0 : (0 : Int) ≤ (a : Int) := by omega
            have eal : (a : Int) < (nl : Int) := by omega
            have hyc : y ≤ c := by omega
            have HBT := Lib.hid hbt
            clear hbt
            go_wp2_with fail
            go_region
            go_wp2_with fail
            have hG : wi.grownBy (wi.setCell ⟨Q y, a, none⟩ (.bool true)).drew (some (Q y)) := grown_drew (grown_one wi (Q y) a (.bool true))
            have hd9 := (hdt2.out.mark y a hyh har).keep (w' := (wi.setCell ⟨Q y, a, none⟩ (.bool true)).drew) (Below.refl _ _).drew
            have hlowk : Low over nor sb bottom kk r Tl := by rw [HKK.out]; exact hlow.out
            have hkk1 : kk + Tl.length + 1 = h := by rw [HKK.out]; exact hkT
            have hky : h - 1 - y = kk := by have := HY.out; omega
            have hdo9 : DeadOk over nor sb h fun y' l' => if y' = y ∧ l' = a then true else F' y' l' := hdo.out.mark (by rw [hky, HA.out]; exact hnon.out)
            have hwT : w.heap.size < wi.heap.size := (Array.getElem?_eq_some_iff.1 hbox2.out).1
            have hbox9 := (hG.block w.heap.size hwT (by intro e; injection e with e; omega)).trans hbox2.out
            have hbB9 := hbB2.grown hG (by omega) (fun j e => by cases e; exact hQB)
            have hit9 := hit2.out.grown hG (by intro e; injection e with e; omega)
            have hown9 := own_prefix (y := y) (hown2.out.kept hG (Or.inr fun e => by have := (hown2.out.lt _ e).1; omega)) (by have := HN1.out; omega)
            have hnone9 := hnon.out
            have hg2' := hg2.out
            have hkept9 := hkept2.out
            have htr9 := htr2.out
            have HOW9 := Lib.hid hown9
            clear hown9 hown2 hdt2 hbox2 hit2 q0 q1 qi qo dq dc df hG
            cases Tl with
            | nil =>
              have hy0 : y = 0 := HY.out
              subst hy0
              have hrb : r = bottom := hlowk.len rfl
              go_roundg 0
              case measure =>
                have h1 : 1 ≤ topC over nor kk (nor r) i2 := by cases kk <;> simp [topC]
                omega
              case rel => exact ⟨_, hd9, hdo9, hbox9, hbB9, Or.inl ⟨some ⟨tg, tf, none⟩, c, rfl, by show _ = _; rw [← hrb, ← show kk = h - 1 by simp at hkk1; omega]; exact hnone9⟩⟩
            | cons p Tl =>
              obtain ⟨r3, i3⟩ := p
              obtain ⟨low3, kept3⟩ := hlowk.falls hnone9
              have hyl : y = Tl.length + 1 := HY.out
              have htk : (vals (idxI (twr r ((r3, i3) :: Tl)))).take y = vals (idxI (twr r3 Tl)) := by
                unfold vals idxI
                rw [List.map_map, List.map_map, ← List.map_take, hyl, twr_fall]
              have hmem3 := hTl.out (r3, i3) (by simp)
              have hTl3 : ∀ p ∈ Tl, p.1 < rn := fun p hp => hTl.out p (by simp [hp])
              go_roundg (topC over nor (kk + 1) (nor r3) i3 + lowC over nor (kk + 1) Tl)
              case measure =>
                have := fall_less (over := over) (nor := nor) (k := kk) (l := nor r) (j := i2) (r := r3) (i := i3) (T := Tl)
                omega
              case rel =>
                refine ⟨_, hd9, hdo9, hbox9, hbB9, Or.inr ⟨r3, i3, kk + 1, Tl, f2, ?_, ?_, hit9, htr9.2, low3, ?_, ?_, rfl, hmem3, hTl3⟩⟩
                · show World.ownsRow _ _ _ _ _ _ _
                  rw [← htk, ← hyl]
                  exact HOW9.out
                · exact hne
                · simp at hkk1; omega
                · intro k' e
                  have e' : k' = kk := by omega
                  subst e'
                  exact kept3
      · have hyt : y < top := by have := HTOP.out; have := HY.out; omega
        have hyt' : (y : Int) < (top : Int) := by omega
        have d0 : ((y : Int) == (top : Int)) = false := by rw [beq_eq_false_iff_ne]; omega
        go_wp2_with fail
        go_region
        go_wp2_with fail
        obtain ⟨kk, hkk⟩ : ∃ kk, kk = k + 1 := ⟨_, rfl⟩
        have HKK := Lib.hid hkk
        clear hkk q0 q1 qt qr qb qi qo
        go_loopg [8] (topC over nor kk (nor r) i + lowC over nor kk Tl) (fun g v wr => ∃ (i' : Nat) (f' : Nat → Nat), v = .slice (some ⟨tg, tf, none⟩) n1 c ∧ Hid (wr.ownsRow (w.heap.size + 1) 3 1 (.slice (some ⟨tg, tf, none⟩) n1 c) n1 (vals (idxI (twr r Tl)))) ∧ Hid (ITab wr (w.heap.size + 1 + 1) h f') ∧ Hid (TrOk f' i' Tl) ∧ Hid (DeadT wr B w.heap.size mb nl h Q F') ∧
          Hid (wr.heap[w.heap.size]? = some (.cells #[.slice (some ⟨rb, 0, none⟩) rn rc, .slice (some ⟨O, 0, none⟩) nl oc] 55 (0, 0))) ∧ Below B w wr ∧ Hid (∀ k', kk = k' + 1 → fstT over nor sb (k' + 1) (nor r) = restT over nor sb k' (nor r) i') ∧ Hid (g = topC over nor kk (nor r) i' + lowC over nor kk Tl) ∧ g ≤ g0)
        case atStart => exact ⟨i, f, rfl, HOWN.out.drew, hit.out.keep (Below.refl _ _).drew, htr, hdt.out.keep (Below.refl _ _).drew, hbox.out, hbB.drew, by rw [HKK.out]; exact hkept.out, rfl, by rw [HKK.out, hgk.out]; exact Nat.le_refl _⟩
        case round =>
          obtain ⟨i2, f2, rfl, hown2, hit2, htr2, hdt2, hbox2, hbB2, hkept2, hg2, hle2⟩ := hrel
          obtain ⟨wi, rfl⟩ : ∃ wi : World, wi = wr := ⟨_, rfl⟩
          clear hdt hbox hit htr hgk hkept HOWN hbB
          obtain ⟨q0, q1⟩ := cells2 hbox2.out
          have hfy : f2 y = i2 := by rw [HY.out]; exact htr2.out.top
          have qi := hit2.out.at_ y hyh
          rw [hfy] at qi
          clear hfy
          obtain ⟨Ao, co, qo, hov⟩ := HOVER.out wi hbB2 a har
          rw [← HLO.out] at qo
          have HOVA := Lib.hid hov
          clear hov
          have hi0 : (0 : Int) ≤ (i2 : Int) := by omega
          have ha0 : (0 : Int) ≤ (a : Int) := by omega
          have har' : (a : Int) < (nl : Int) := by omega
          have hyh' : (y : Int) < (h : Int) := by omega
          by_cases hiL : i2 < L
          · have hiL' : (i2 : Int) < (L : Int) := by omega
            obtain ⟨nx, hnx⟩ : ∃ nx, (over a)[i2]? = some nx := ⟨_, List.getElem?_eq_getElem (by rw [← HLO.out]; exact hiL)⟩
            obtain ⟨hnxr, ab, ao, rfl, qn⟩ := HOVA.out i2 nx hnx
            obtain ⟨qx, -⟩ := HRING.out wi hbB2 nx hnxr
            obtain ⟨an, han⟩ : ∃ an, an = nor nx := ⟨_, rfl⟩
            have hanl := HNOR.out nx hnxr
            rw [← han] at qx hanl
            obtain ⟨i3, hi3⟩ : ∃ i3, i3 = i2 + 1 := ⟨_, rfl⟩
            obtain ⟨y2, hy2⟩ : ∃ y2, y2 = y + 1 := ⟨_, rfl⟩
            have mi : IntKind.i64.wrap ((i2 : Int) + 1) = (i3 : Int) := by rw [IntWalk.i64_in _ (by omega)]; omega
            have my : IntKind.i64.wrap ((y : Int) + 1) = (y2 : Int) := by rw [IntWalk.i64_in _ (by omega)]; omega
            have hy2h : y2 < h := by have := HTOP.out; omega
            obtain ⟨hQm, hQB, hQT, dq, hbt⟩ := hdt2.out.tab y2 hy2h
            obtain ⟨bd, hbd⟩ : ∃ bd, bd = F' y2 an := ⟨_, rfl⟩
            have dc := hdt2.out.at_ y2 an hy2h hanl
            rw [← hbd] at dc
            have fi := hit2.out.fr y
            have y20 : (0 : Int) ≤ (y2 : Int) := by omega
            have y2h' : (y2 : Int) < (h : Int) := by omega
            have nx0 : (0 : Int) ≤ (nx : Int) := by omega
            have nx1 : (nx : Int) < (rn : Int) := by omega
            have an0 : (0 : Int) ≤ (an : Int) := by omega
            have an1 : (an : Int) < (nl : Int) := by omega
            have HNX := Lib.hid hnx
            have HAN := Lib.hid han
            have HI3 := Lib.hid hi3
            have HY2 := Lib.hid hy2
            have HBD := Lib.hid hbd
            clear hbt hnx han hi3 hy2 hbd
            go_wp2_with fail
            go_region
            go_wp2_with fail
            go_region
            go_wp2_with fail
            obtain ⟨W5, hW5⟩ : ∃ W5, W5 = (wi.setCell ⟨w.heap.size + 1 + 1, y, none⟩ (.int .i64 (i3 : Int))).drew.drew := ⟨_, rfl⟩
            rw [← hW5]
            have hwT : w.heap.size < wi.heap.size := (Array.getElem?_eq_some_iff.1 hbox2.out).1
            have g5 : wi.grownBy W5 (some (w.heap.size + 1 + 1)) := by rw [hW5]; exact grown_drew (grown_drew (grown_one wi (w.heap.size + 1 + 1) y (.int .i64 (i3 : Int))))
            have b5 : Below w.heap.size wi W5 := (Below.refl w.heap.size wi).grown g5 (by omega) (fun j e => by cases e; omega)
            have hd5 := hdt2.out.keep b5
            have hbB5 : Below B w W5 := hbB2.trans (b5.mono hBT)
            have hbox5 : W5.heap[w.heap.size]? = some (.cells #[.slice (some ⟨rb, 0, none⟩) rn rc, .slice (some ⟨O, 0, none⟩) nl oc] 55 (0, 0)) := (g5.block w.heap.size hwT (by intro e; injection e with e; omega)).trans hbox2.out
            have hit5 : ITab W5 (w.heap.size + 1 + 1) h (updF f2 y i3) := by rw [hW5]; exact ((hit2.out.set y i3 hyh).keep (Below.refl _ _).drew).keep (Below.refl _ _).drew
            have hown5 := hown2.out.kept g5 (Or.inr hne)
            have htr5 : TrOk (updF f2 y i3) i3 Tl := by rw [HY.out]; exact htr2.out.set i3
            obtain ⟨q0, q1⟩ := cells2 hbox5
            obtain ⟨qx5, -⟩ := HRING.out W5 hbB5 nx hnxr
            rw [← HAN.out] at qx5
            obtain ⟨-, -, -, dq5, -⟩ := hd5.tab y2 hy2h
            have dc5 := hd5.at_ y2 an hy2h hanl
            rw [← HBD.out] at dc5
            have hkk1 : kk + Tl.length + 1 = h := by rw [HKK.out]; exact hkT
            have hky : h - 1 - y2 = k := by have := HY.out; have := HY2.out; omega
            have hlowk : Low over nor sb bottom (k + 1) r Tl := hlow.out
            have hover2 : (over (nor r))[i2]? = some nx := by rw [← HA.out]; exact HNX.out
            have hkeptk : fstT over nor sb (k + 1) (nor r) = restT over nor sb k (nor r) i2 := hkept2.out k HKK.out
            have HOVER2 := Lib.hid hover2
            have HKEPT := Lib.hid hkeptk
            have HLOWK := Lib.hid hlowk
            have HG2 := Lib.hid hg2.out
            have HD5 := Lib.hid hd5
            have HBOX5 := Lib.hid hbox5
            have HIT5 := Lib.hid hit5
            have HOWN5 := Lib.hid hown5
            have HTR5 := Lib.hid htr5
            clear hover2 hkeptk hlowk hd5 hbox5 hit5 hown5 htr5 hown2 hit2 htr2 hdt2 hbox2 hkept2 hW5 g5 qi qo qn qx dq dc fi hg2
            have hn16 : n1 ≤ 6 := by have := HN1.out; omega
            have hW5s : w.heap.size + 1 + 1 < W5.heap.size := HIT5.out.lt
            cases bd
            · go_region
              go_wp2_with (first
                | (at_builtin; refine wpList_append_own_at _ rfl _ _ 25 rfl (w.heap.size + 1) 3 i0 _ 1 8 Tryd.underlying25 hi hz0 hz1 hz2 rfl (by decide) _ _ _ rfl ((HOWN5.out.alloc _).drew) ⟨W5.heap.size, 0, none⟩ 1 1 [.int .i64 (nx : Int)] rfl rfl (fun jj uu hh => cell_one_new W5 (.int .i64 (nx : Int)) 3 jj uu hh) (one_int (nx : Int)) (by simp only [maxLen]; omega) (by omega) (by simp; omega) ?_; intro v7 w7 hown7 hgrow7' hnil7' hat7'; have hgrow7 := grown_of_drew (r := (Value.slice (some ⟨tg, tf, none⟩) n1 c).ownBlock) hgrow7' rfl; have hat7 := at_to (r := (Value.slice (some ⟨tg, tf, none⟩) n1 c).ownBlock) hat7' rfl; clear hgrow7' hnil7' hat7'; obtain ⟨A7, c7, rfl⟩ := own_sl hown7; have hit7 := HIT5.out.grown hgrow7 (fun e => hne e.symm); have z7 := hit7.at_ y2 hy2h; have zf7 := hit7.fr y2)
                | fail)
              have tgT : w.heap.size + 1 ≤ tg := (HOWN5.out.lt tg rfl).1
              have hz7 := hgrow7.size
              have g8 := grown_one w7 (w.heap.size + 1 + 1) y2 (.int .i64 0)
              have hrow7 : ∀ j, (Value.slice (some ⟨tg, tf, none⟩) n1 c).ownBlock = some j → w.heap.size + 1 ≤ j := fun j e => (HOWN5.out.lt j e).1
              have b7 : Below w.heap.size W5 w7 := (Below.refl w.heap.size W5).grown hgrow7 (by omega) (fun j e => Nat.le_of_succ_le (hrow7 j e))
              have b8 : Below w.heap.size W5 (w7.setCell ⟨w.heap.size + 1 + 1, y2, none⟩ (.int .i64 0)) := b7.grown g8 (by omega) (fun j e => by cases e; omega)
              have hd8 := HD5.out.keep b8
              have hbB8 := hbB5.trans (b8.mono hBT)
              have hbox8 := (g8.block w.heap.size (by omega) (by intro e; injection e with e; omega)).trans ((hgrow7.block w.heap.size (by omega) (fun e => by have := hrow7 _ e.symm; omega)).trans HBOX5.out)
              have hit8 : ITab (w7.setCell ⟨w.heap.size + 1 + 1, y2, none⟩ (.int .i64 0)) (w.heap.size + 1 + 1) h (updF (updF f2 y i3) y2 0) := hit7.set y2 0 hy2h
              have hne7 : (Value.slice A7 (n1 + 1) c7).ownBlock ≠ some (w.heap.size + 1 + 1) := by
                rcases hat7 with e | e
                · rw [e]; exact hne
                · rw [e]; intro e'; injection e' with e'; omega
              have hown8 := hown7.kept g8 (Or.inr hne7)
              have e8 : vals (idxI (twr r Tl)) ++ [Value.int .i64 (nx : Int)] = vals (idxI (twr nx ((r, i3) :: Tl))) := by rw [twr_put]; simp [vals, idxI]
              rw [e8] at hown8
              have HOW8 := Lib.hid hown8
              have HD8 := Lib.hid hd8
              have HBX8 := Lib.hid hbox8
              have HIT8 := Lib.hid hit8
              clear hown7 hgrow7 hown8 hat7 hit7 z7 zf7 e8 g8 b7 b8 hd8 hbox8 hit8 q0 q1 qx5 dq5 dc5
              go_roundg (topC over nor k (nor nx) 0 + lowC over nor k ((r, i3) :: Tl))
              case measure =>
                have h1 := put_less (over := over) (nor := nor) (k := k) (r := r) (i := i2) (T := Tl) HOVER2.out
                have h2 := HG2.out
                rw [HKK.out] at h2
                rw [HI3.out]
                omega
              case rel =>
                refine ⟨F', HD8.out, hdo, HBX8.out, hbB8, Or.inr ⟨nx, 0, k, (r, i3) :: Tl, updF (updF f2 y i3) y2 0, ?_, hne7, HIT8.out, ?_, ?_, ?_, fun k' e => ?_, rfl, hnxr, ?_⟩⟩
                · show World.ownsRow _ _ _ _ _ _ _
                  rw [List.length_cons, show Tl.length + 1 + 1 = n1 + 1 by rw [HN1.out, HY.out]]
                  exact HOW8.out
                · show TrOk _ _ _
                  rw [HY2.out, HY.out]
                  rw [HY.out] at HTR5
                  exact HTR5.out.put
                · show Low _ _ _ _ _ _ _
                  rw [HI3.out]
                  exact HLOWK.out.put HKEPT.out HOVER2.out
                · rw [List.length_cons]; omega
                · exact fst_rest over nor sb k' (nor nx)
                · intro p hp
                  rcases List.mem_cons.1 hp with e | hp
                  · rw [e]; exact hrr
                  · exact hTl.out p hp
            · have hdead : fstT over nor sb k (nor nx) = none := by
                have := hdo.out y2 an hy2h (by exact HBD.out.symm)
                rw [hky, HAN.out] at this
                exact this
              have HDEAD1 := Lib.hid hdead
              clear hdead
              go_region
              go_wp2_with fail
              go_roundg (topC over nor kk (nor r) i3 + lowC over nor kk Tl)
              case measure =>
                have h1 := skip_less (nor := nor) (k := k) HOVER2.out
                rw [HG2.out, HKK.out, HI3.out]
                omega
              case rel =>
                refine ⟨i3, updF f2 y i3, rfl, HOWN5.out.drew, HIT5.out.keep (Below.refl _ _).drew, HTR5.out, HD5.out.keep (Below.refl _ _).drew, HBOX5.out, hbB5.drew, ?_, rfl, ?_⟩
                · intro k' e
                  have e' : k' = k := by have := HKK.out; omega
                  subst e'
                  rw [HKEPT.out, HI3.out]
                  exact rest_skip HOVER2.out HDEAD1.out
                · have h1 := skip_less (nor := nor) (k := k) HOVER2.out
                  have h2 := HG2.out
                  rw [HKK.out] at h2 ⊢
                  rw [HI3.out]
                  omega
          · have hiL' : ¬ ((i2 : Int) < (L : Int)) := by omega
            have hnon : Hid (fstT over nor sb kk (nor r) = none) := by
              show _ = _
              have h1 := hkept2.out k HKK.out
              rw [HKK.out, h1]
              exact rest_end (by rw [← HA.out, ← HLO.out]; omega)
            obtain ⟨hQm, hQB, hQT, dq, hbt⟩ := hdt2.out.tab y hyh
            have dc := hdt2.out.at_ y a hyh har
            have df := hbt.2.2 a
            have yh' : (y : Int) < (h : Int) := by omega
            have ea0 : (0 : Int) ≤ (a : Int) := by omega
            have eal : (a : Int) < (nl : Int) := by omega
            have hyc : y ≤ c := by omega
            have HBT := Lib.hid hbt
            clear hbt
            go_wp2_with fail
            go_region
            go_wp2_with fail
            have hG : wi.grownBy (wi.setCell ⟨Q y, a, none⟩ (.bool true)).drew (some (Q y)) := grown_drew (grown_one wi (Q y) a (.bool true))
            have hd9 := (hdt2.out.mark y a hyh har).keep (w' := (wi.setCell ⟨Q y, a, none⟩ (.bool true)).drew) (Below.refl _ _).drew
            have hlowk : Low over nor sb bottom kk r Tl := by rw [HKK.out]; exact hlow.out
            have hkk1 : kk + Tl.length + 1 = h := by rw [HKK.out]; exact hkT
            have hky : h - 1 - y = kk := by have := HY.out; omega
            have hdo9 : DeadOk over nor sb h fun y' l' => if y' = y ∧ l' = a then true else F' y' l' := hdo.out.mark (by rw [hky, HA.out]; exact hnon.out)
            have hwT : w.heap.size < wi.heap.size := (Array.getElem?_eq_some_iff.1 hbox2.out).1
            have hbox9 := (hG.block w.heap.size hwT (by intro e; injection e with e; omega)).trans hbox2.out
            have hbB9 := hbB2.grown hG (by omega) (fun j e => by cases e; exact hQB)
            have hit9 := hit2.out.grown hG (by intro e; injection e with e; omega)
            have hown9 := own_prefix (y := y) (hown2.out.kept hG (Or.inr fun e => by have := (hown2.out.lt _ e).1; omega)) (by have := HN1.out; omega)
            have hnone9 := hnon.out
            have hg2' := hg2.out
            have hkept9 := hkept2.out
            have htr9 := htr2.out
            have HOW9 := Lib.hid hown9
            clear hown9 hown2 hdt2 hbox2 hit2 q0 q1 qi qo dq dc df hG
            cases Tl with
            | nil =>
              have hy0 : y = 0 := HY.out
              subst hy0
              have hrb : r = bottom := hlowk.len rfl
              go_roundg 0
              case measure =>
                have h1 : 1 ≤ topC over nor kk (nor r) i2 := by cases kk <;> simp [topC]
                omega
              case rel => exact ⟨_, hd9, hdo9, hbox9, hbB9, Or.inl ⟨some ⟨tg, tf, none⟩, c, rfl, by show _ = _; rw [← hrb, ← show kk = h - 1 by simp at hkk1; omega]; exact hnone9⟩⟩
            | cons p Tl =>
              obtain ⟨r3, i3⟩ := p
              obtain ⟨low3, kept3⟩ := hlowk.falls hnone9
              have hyl : y = Tl.length + 1 := HY.out
              have htk : (vals (idxI (twr r ((r3, i3) :: Tl)))).take y = vals (idxI (twr r3 Tl)) := by
                unfold vals idxI
                rw [List.map_map, List.map_map, ← List.map_take, hyl, twr_fall]
              have hmem3 := hTl.out (r3, i3) (by simp)
              have hTl3 : ∀ p ∈ Tl, p.1 < rn := fun p hp => hTl.out p (by simp [hp])
              go_roundg (topC over nor (kk + 1) (nor r3) i3 + lowC over nor (kk + 1) Tl)
              case measure =>
                have := fall_less (over := over) (nor := nor) (k := kk) (l := nor r) (j := i2) (r := r3) (i := i3) (T := Tl)
                omega
              case rel =>
                refine ⟨_, hd9, hdo9, hbox9, hbB9, Or.inr ⟨r3, i3, kk + 1, Tl, f2, ?_, ?_, hit9, htr9.2, low3, ?_, ?_, rfl, hmem3, hTl3⟩⟩
                · show World.ownsRow _ _ _ _ _ _ _
                  rw [← htk, ← hyl]
                  exact HOW9.out
                · exact hne
                · simp at hkk1; omega
                · intro k' e
                  have e' : k' = kk := by omega
                  subst e'
                  exact kept3
end Go.Proofs.YthjponagoahdhaaDoor
