/-
  groutworkref04.Core: walked.
-/
import Derived.Test.YtgadfmknjpanpaaDoorScp
import Derived.Test.YtgadfmknjpanpaaDoorSrr
namespace Go.Proofs.YtgadfmknjpanpaaDoor
open Go.RowKit Go.Maps Go.BigFrame Go.Sort
set_option linter.unusedVariables false
set_option linter.unusedSimpArgs false
set_option maxRecDepth 100000

def boolAt (w : World) (q L : Nat) : Bool := match w.cell? ⟨q, L, none⟩ with
  | some (.bool x) => x
  | _ => false
/-- how many tiles are left -/
def leftN (w : World) (q m : Nat) : Nat := ((List.range m).filter fun L => boolAt w q L).length
theorem leftN_is {w : World} {q m : Nat} {inn : Nat → Bool} (h : BTab w q m (fun L => inn L.toNat)) : leftN w q m = ((List.range m).filter inn).length := by
  unfold leftN
  congr 1
  refine List.filter_congr fun L hL => ?_
  unfold boolAt
  rw [h.2.1 L (List.mem_range.1 hL)]
  show inn (L : Int).toNat = inn L
  rw [Int.toNat_natCast]
theorem left_less (s : List Tl) (inn : Nat → Bool) : ((List.range s.length).filter (rndC s inn)).length ≤ ((List.range s.length).filter inn).length ∧ ((∃ i, i < s.length ∧ rndC s inn i ≠ inn i) → ((List.range s.length).filter (rndC s inn)).length < ((List.range s.length).filter inn).length) := by
  have hsub : ∀ i, rndC s inn i = true → inn i = true := fun i h => by unfold rndC at h; rw [Bool.and_eq_true] at h; exact h.1
  have e : (List.range s.length).filter (rndC s inn) = ((List.range s.length).filter inn).filter (rndC s inn) := by
    rw [List.filter_filter]
    refine List.filter_congr fun i _ => ?_
    cases h : rndC s inn i
    · rfl
    · rw [hsub i h]; rfl
  rw [e]
  refine ⟨List.length_filter_le _ _, ?_⟩
  rintro ⟨i, hi, hne⟩
  have hn : inn i = true := by
    cases h : inn i
    · exfalso
      apply hne
      rw [h]
      unfold rndC
      rw [h]
      rfl
    · rfl
  have hr : rndC s inn i = false := by
    cases h : rndC s inn i
    · rfl
    · exact absurd (h.trans hn.symm) hne
  refine List.length_filter_lt_length_iff_exists.2 ⟨i, List.mem_filter.2 ⟨List.mem_range.2 hi, hn⟩, by rw [hr]; exact Bool.false_ne_true⟩
/-- the four tables -/
def dirT (s : List Tl) (inn : Nat → Bool) (j : Nat) : Int → Bool := endT s inn (decide ((2 : Int) ≤ (j : Int))) ((j : Int) % 2 == 1) s.length
structure FourT (s : List Tl) (inn : Nat → Bool) (w : World) (lo lq m k : Nat) : Prop where
  lt : lq < w.heap.size
  fr : ∀ o, w.frozen? ⟨lq, o, none⟩ = false
  old : ∀ j, j < 4 → ∃ A n c, w.cell? ⟨lq, j, none⟩ = some (.slice A n c)
  tab : ∀ j, j < k → ∃ A c, w.cell? ⟨lq, j, none⟩ = some (.slice A m c) ∧ BSl w lo A m (dirT s inn j)
theorem FourT.keep {s : List Tl} {inn : Nat → Bool} {w w' : World} {lo lq m k : Nat} (h : FourT s inn w lo lq m k) (hb : Below w.heap.size w w') : FourT s inn w' lo lq m k where
  lt := Nat.lt_of_lt_of_le h.lt hb.size
  fr o := (hb.frozen (p := ⟨lq, o, none⟩) h.lt).trans (h.fr o)
  old j hj := by obtain ⟨A, n, c, hv⟩ := h.old j hj; exact ⟨A, n, c, (hb.cell (p := ⟨lq, j, none⟩) h.lt).trans hv⟩
  tab j hj := by obtain ⟨A, c, h1, h2⟩ := h.tab j hj; exact ⟨A, c, (hb.cell (p := ⟨lq, j, none⟩) h.lt).trans h1, h2.keep hb⟩
theorem BTab.ne {w : World} {q lq m : Nat} {f : Int → Bool} (h : BTab w q m f) (hm : 0 < m) {A : Option Addr} {n c : Nat} (hc : w.cell? ⟨lq, 0, none⟩ = some (.slice A n c)) : q ≠ lq := fun e => by
  have := h.2.1 0 hm
  rw [e, hc] at this
  cases this
theorem FourT.put {s : List Tl} {inn : Nat → Bool} {w : World} {lo lq m k : Nat} (h : FourT s inn w lo lq m k) (hk : k < 4) (A : Option Addr) (c : Nat) (hB : BSl w lo A m (dirT s inn k)) : FourT s inn (w.setCell ⟨lq, k, none⟩ (.slice A m c)) lo lq m (k + 1) := by
  obtain ⟨A0, n0, c0, h0⟩ := h.old 0 (by omega)
  obtain ⟨A1, n1, c1, h1⟩ := h.old k hk
  have hg := grown_setB (World.grownBy.refl w (some lq)) k (.slice A m c)
  have hk2 : ∀ {B : Option Addr} {f : Int → Bool}, BSl w lo B m f → BSl (w.setCell ⟨lq, k, none⟩ (.slice A m c)) lo B m f := fun {B f} hb hm => by
    obtain ⟨q, e, hl, ht⟩ := hb hm
    exact ⟨q, e, hl, ht.grown hg (by simpa using ht.ne hm h0)⟩
  refine ⟨by simpa using h.lt, fun o => (World.frozen?_setCell _ _ _ _).trans (h.fr o), fun j hj => ?_, fun j hj => ?_⟩
  · by_cases e : j = k
    · subst e; exact ⟨_, _, _, World.cell?_setCell_same _ _ _ h1⟩
    · obtain ⟨A2, n2, c2, h2⟩ := h.old j hj
      exact ⟨_, _, _, (World.cell?_setCell_other _ _ _ _ (fun e' => by injection e' with _ e2; omega)).trans h2⟩
  · by_cases e : j = k
    · subst e; exact ⟨A, c, World.cell?_setCell_same _ _ _ h1, hk2 hB⟩
    · obtain ⟨A2, c2, h2, h3⟩ := h.tab j (by omega)
      exact ⟨A2, c2, (World.cell?_setCell_other _ _ _ _ (fun e' => by injection e' with _ e2; omega)).trans h2, hk2 h3⟩
theorem FourT.grown {s : List Tl} {inn : Nat → Bool} {w w' : World} {lo lq m k q0 : Nat} (h : FourT s inn w lo lq m k) (hg : w.grownBy w' (some q0)) (hq : q0 < lo) (hne : lq ≠ q0) : FourT s inn w' lo lq m k where
  lt := Nat.lt_of_lt_of_le h.lt hg.size
  fr o := (World.frozen?_of_block (hg.block lq h.lt (by simpa using hne))).trans (h.fr o)
  old j hj := by obtain ⟨A, n, c, hv⟩ := h.old j hj; exact ⟨A, n, c, (World.cell?_of_block (hg.block lq h.lt (by simpa using hne))).trans hv⟩
  tab j hj := by
    obtain ⟨A, c, h1, h2⟩ := h.tab j hj
    refine ⟨A, c, (World.cell?_of_block (hg.block lq h.lt (by simpa using hne))).trans h1, fun hm => ?_⟩
    obtain ⟨q, e, hl, ht⟩ := h2 hm
    exact ⟨q, e, hl, ht.grown hg (by simp; omega)⟩
/-- the table in one round -/
def rowK (s : List Tl) (inn : Nat → Bool) (i L : Nat) : Bool := if L < i then rndC s inn L else inn L
/-- what Core returns -/
def IsRCore (s : List Tl) (w : World) (e : Ending) (w' : World) : Prop :=
  ∃ A c, e = .returned (.slice A (coreE s).length c) ∧ IntsIn w' w'.heap.size A (idxI (coreE s)) ∧ Below w.heap.size w w'
set_option maxHeartbeats 16000000 in
theorem rcore_any (s : List Tl) (S : Option Addr) (m d : Nat) (w : World) (hm : m = s.length) (hml : m ≤ 1000) (hS : SetIn w w.heap.size S s) :
    Calls Tryd.prog 12 #[.slice S m d] w (IsRCore s w) := by
  obtain ⟨i0, hi, hz0, hz1, hz2⟩ := info_parts bool_infoP
  have hby : i0.bytes * m ≤ 281474976710656 := by rw [hz2]; omega
  obtain ⟨q0, hq0⟩ : ∃ q0, q0 = w.heap.size := ⟨_, rfl⟩
  have HM := Lib.hid hm
  have HS := Lib.hid hS
  clear hm hS
  go_enter Tryd.func12, Tryd.ntmps12
  go_upto_region 2 with (at_make; refine wpList_make_full _ rfl _ _ 65 rfl w.heap.size 4 i0 (.bool false) 1 Tryd.underlying65 hi hz0 hz1 .i64 .i64 _ _ m rfl rfl rfl rfl hby (by simp only [maxLen]; omega) (by omega) ?_; intro w5 hown5 hgrow5)
  have hb5 : Below w.heap.size w w5 := ⟨hgrow5.os, hgrow5.tape, hgrow5.output, hgrow5.size, fun k hk => hgrow5.block k hk (by simp)⟩
  have hT5 : BTab w5 q0 m (fun l => decide (l < ((0 : Nat) : Int))) := by
    rw [hq0]
    refine ⟨(hown5.lt _ rfl).2, fun L hL => ?_, fun o => hown5.frozenAt o⟩
    rw [hown5.cellAt L (by omega), Nat.mul_one, show (madeCells (Value.bool false).cells m).toList[L]? = some (.bool false) from made_at _ _ _ hL]
    show some (Value.bool false) = some (Value.bool (decide ((L : Int) < ((0 : Nat) : Int))))
    rw [decide_eq_false (by omega)]
  rw [← hq0]
  have hq3 : w.heap.size ≤ q0 := by omega
  have HT5 := Lib.hid hT5
  have HB5 := Lib.hid hb5
  clear hown5 hgrow5 hT5 hb5 hq0
  go_wp2_with fail
  go_loopw [4] (fun iv wr => ∃ i : Nat, i ≤ m ∧ iv = .int .i64 (i : Int) ∧ Hid (BTab wr q0 m (fun l => decide (l < (i : Int)))) ∧ Hid (Below w.heap.size w wr)) (fun iv _ => m - (intOf iv).toNat)
  case atStart => exact ⟨0, Nat.zero_le _, rfl, HT5, HB5⟩
  case round =>
    clear HT5 HB5
    obtain ⟨i, hi', rfl, hT, hbr⟩ := hrel
    obtain ⟨wo, rfl⟩ : ∃ wo : World, wo = wr := ⟨_, rfl⟩
    by_cases him : i < m
    · have cK := hT.out.2.1 i him
      have zK := hT.out.2.2 i
      have hi0 : (0 : Int) ≤ (i : Int) := by omega
      have him' : (i : Int) < (m : Int) := by omega
      have HTS : Hid (BTab (wo.setCell ⟨q0, i, none⟩ (.bool true)) q0 m (fun l => decide (l < ((i + 1 : Nat) : Int)))) := hT.out.set i him true (decide_eq_true (by omega)).symm fun L hL hne => by
        rw [decide_eq_decide]
        omega
      have HBS : Hid (Below w.heap.size w (wo.setCell ⟨q0, i, none⟩ (.bool true))) := hbr.out.setCell (p := ⟨q0, i, none⟩) hq3 _
      clear hT hbr
      go_wp2_with fail
      go_roundw
      case rel => exact ⟨i + 1, by omega, by go_num, HTS, HBS⟩
      case measure => simp [intOf]; omega
    · have hT0 : Hid (BTab wo q0 m (fun L => (fun _ : Nat => true) L.toNat)) := hT.out.congr fun L hL => by
        rw [decide_eq_true (by omega)]
      have HBR := Lib.hid hbr.out
      clear hT hbr
      go_wp2_with fail
      go_loopw [5] (fun mv wr => ∃ (mo : Bool) (inn : Nat → Bool), mv = .bool mo ∧ Hid (BTab wr q0 m (fun L => inn L.toNat)) ∧ Hid (∀ i ∈ coreE s, inn i = true) ∧ Hid (mo = false → ∀ i, i < s.length → rndC s inn i = inn i) ∧ Hid (Below w.heap.size w wr)) (fun mv wr => leftN wr q0 m + (match mv with | .bool true => 1 | _ => 0))
      case atStart => exact ⟨true, fun _ => true, rfl, hT0, Lib.hid (fun _ _ => rfl), Lib.hid (fun h => by cases h), HBR⟩
      case round =>
        clear hT0 HBR
        obtain ⟨mo, inn, rfl, hT, hco, hfx, hbr⟩ := hrel
        obtain ⟨wi, rfl⟩ : ∃ wi : World, wi = wr := ⟨_, rfl⟩
        cases mo
        · obtain ⟨i3, ki, kz0, kz1, kz2⟩ := info_parts int_info
          have HLC : Hid ((List.range m).filter inn = coreE s) := by
            show _ = _
            rw [HM.out]
            exact fix_list s inn hco.out (hfx.out rfl)
          have HTB := Lib.hid hT.out
          have HBB := Lib.hid hbr.out
          have hs0 := hbr.out.size
          clear hT hfx hbr hco
          go_wp2_with fail
          go_loopw [9, 10] (fun ov iv wr => ∃ (i : Nat) (v : Value) (ln : Nat), i ≤ m ∧ iv = .int .i64 (i : Int) ∧ ov = v ∧ ln ≤ i ∧ Hid (ln = ((List.range i).filter inn).length) ∧ Hid (wr.ownsRow wi.heap.size 3 1 v ln (vals (idxI ((List.range i).filter inn)))) ∧ Hid (Below wi.heap.size wi wr)) (fun ov iv _ => m - (intOf iv).toNat)
          case atStart => exact ⟨0, .slice none 0 0, 0, Nat.zero_le _, rfl, rfl, Nat.le_refl _, rfl, World.ownsRow_nil _ _ _ _, Lib.hid (Below.refl _ _)⟩
          case round =>
            obtain ⟨i, v, ln, hi', rfl, hov, hln, hle, hown, hbr⟩ := hrel
            have hov' := hov.symm
            clear hov
            subst hov'
            obtain ⟨wo, rfl⟩ : ∃ wo : World, wo = wr := ⟨_, rfl⟩
            by_cases him : i < m
            · obtain ⟨x, hx⟩ : ∃ x, x = inn i := ⟨_, rfl⟩
              have cX : wo.cell? ⟨q0, i, none⟩ = some (.bool x) := by
                rw [(HTB.out.keep hbr.out).2.1 i him, hx]
                show some (Value.bool (inn (i : Int).toNat)) = _
                rw [Int.toNat_natCast]
              have hi0 : (0 : Int) ≤ (i : Int) := by omega
              have him' : (i : Int) < (m : Int) := by omega
              have hfl : (List.range (i + 1)).filter inn = (List.range i).filter inn ++ (if x then [i] else []) := by
                rw [List.range_succ, List.filter_append, hx]
                congr 1
                cases h : inn i
                · rw [List.filter_cons_of_neg (by rw [h]; decide)]; rfl
                · rw [List.filter_cons_of_pos h]; rfl
              have HFL := Lib.hid hfl
              have hbs := hbr.out.size
              have HOWN : Hid (∀ W : World, Below wo.heap.size wo W → W.ownsRow wi.heap.size 3 1 v ln (vals (idxI ((List.range i).filter inn)))) := fun W hW => own_keep' hown.out hW
              have HLT : Hid (∀ q, v.ownBlock = some q → wi.heap.size ≤ q) := fun q e => (hown.out.lt q e).1
              clear hx hfl
              cases x
              · have hfl2 : (List.range (i + 1)).filter inn = (List.range i).filter inn := by rw [HFL.out]; simp
                have HF2 := Lib.hid hfl2
                clear hfl2
                go_wp2_with fail
                go_roundw
                case rel => exact ⟨i + 1, v, ln, by omega, by go_num, rfl, by omega, by rw [HF2.out]; exact hle, by rw [HF2.out]; exact hown, hbr⟩
                case measure => simp [intOf]; omega
              · have hev : vals (idxI ((List.range i).filter inn)) ++ [.int .i64 (i : Int)] = vals (idxI ((List.range (i + 1)).filter inn)) := by rw [HFL.out]; simp [vals, idxI]
                have HEV := Lib.hid hev
                have HLN : Hid (ln + 1 = ((List.range (i + 1)).filter inn).length) := by
                  show _ = _
                  rw [HFL.out, List.length_append, ← hle.out]
                  rfl
                clear hev hown hle
                go_wp2_with (at_builtin; refine wpList_append_own_at _ rfl _ _ 25 rfl wi.heap.size 3 i3 _ 1 8 Tryd.underlying25 ki kz0 kz1 kz2 rfl (by decide) v ln (vals (idxI ((List.range i).filter inn))) rfl (HOWN.out _ ((Below.refl _ _).alloc (Nat.le_refl _) _)) ⟨wo.heap.size, 0, none⟩ 1 1 [.int .i64 (i : Int)] rfl rfl (fun jj uu hh => cell_news wo wo.heap.size rfl [.int .i64 (i : Int)] _ jj uu hh) (by intro u hu; simp at hu; rw [hu]; rfl) (by simp only [maxLen]; omega) (by omega) (by simp; omega) ?_; intro v7 w7 hown7 hgrow7 hnil7 hat7; rw [HEV.out] at hown7)
                have hb7 : Below wi.heap.size wi w7 := (hbr.out.alloc hbs _).grown hgrow7 (Nat.le_trans hbs (by simp)) (fun q e => HLT.out q e)
                have HO7 : Hid (w7.ownsRow wi.heap.size 3 1 v7 (ln + 1) (vals (idxI ((List.range (i + 1)).filter inn)))) := hown7
                have HB7 := Lib.hid hb7
                clear hown7 hgrow7 hnil7 hat7 hb7
                go_roundw
                case rel => exact ⟨i + 1, v7, ln + 1, by omega, by go_num, rfl, by omega, HLN, HO7, HB7⟩
                case measure => simp [intOf]; omega
            · obtain rfl : i = m := by omega
              have hle2 := hle.out
              have hown2 := hown.out
              rw [HLC.out] at hle2 hown2
              rw [hle2] at hown2
              obtain ⟨A, c, rfl, -, -, -, hI, -⟩ := own_ints hown2
              have HI := Lib.hid hI
              have HE := Lib.hid hle2
              have HB := Lib.hid (HBB.out.trans (hbr.out.mono hs0))
              clear hle hown hbr hle2 hown2 hI
              go_wp2_with fail
              go_ret
              exact ⟨A, c, rfl, HI.out, HB.out⟩
        · obtain ⟨lq, hlq⟩ : ∃ lq, lq = wi.heap.size := ⟨_, rfl⟩
          obtain ⟨W4, hW4⟩ : ∃ W4, W4 = wi.alloc (.cells #[.slice none 0 0, .slice none 0 0, .slice none 0 0, .slice none 0 0] 66) := ⟨_, rfl⟩
          have hb4 : Below wi.heap.size wi W4 := by rw [hW4]; exact (Below.refl _ _).alloc (Nat.le_refl _) _
          have hbx : W4.heap[lq]? = some (.cells #[.slice none 0 0, .slice none 0 0, .slice none 0 0, .slice none 0 0] 66 (0, 0)) := by rw [hW4, hlq]; exact heap_at _ _ _ rfl
          obtain ⟨z0, z1, z2, z3, z4⟩ := zcells4t hbx
          have hF4 : FourT s inn W4 wi.heap.size lq m 0 := ⟨(Array.getElem?_eq_some_iff.1 hbx).1, z4, fun j hj => by
            match j, hj with
            | 0, _ => exact ⟨_, _, _, z0⟩
            | 1, _ => exact ⟨_, _, _, z1⟩
            | 2, _ => exact ⟨_, _, _, z2⟩
            | 3, _ => exact ⟨_, _, _, z3⟩, fun j hj => absurd hj (Nat.not_lt_zero _)⟩
          have hT4 := hT.out.keep hb4
          have hb14 : Below w.heap.size w W4 := hbr.out.trans (hb4.mono hbr.out.size)
          have hlo : w.heap.size ≤ lq := by rw [hlq]; exact hbr.out.size
          have hlne : lq ≠ q0 := by have := hT.out.1; omega
          have HS4 : Hid (wi.heap.size ≤ W4.heap.size) := hb4.size
          have hq0wi : q0 < wi.heap.size := hT.out.1
          have HML : Hid (leftN wi q0 m = ((List.range m).filter inn).length) := leftN_is hT.out
          have HF4 := Lib.hid hF4
          have HT4 : Hid (BTab W4 q0 m (fun L => inn L.toNat)) := hT4
          have HB14 := Lib.hid hb14
          have HW4 := Lib.hid hW4
          have HLQ := Lib.hid hlq
          clear hW4 hb4 hbx hF4 hT4 hb14 hT hbr hfx hlq z0 z1 z2 z3 z4
          go_upto_region 10 with fail
          rw [← HLQ.out, ← HW4.out]
          go_wp2_with fail
          go_loopw [7] (fun kv wr => ∃ k : Nat, k ≤ 4 ∧ kv = .int .i64 (k : Int) ∧ Hid (FourT s inn wr wi.heap.size lq m k) ∧ Hid (wi.heap.size ≤ wr.heap.size) ∧ Hid (BTab wr q0 m (fun L => inn L.toNat)) ∧ Hid (Below w.heap.size w wr)) (fun kv _ => 4 - (intOf kv).toNat)
          case atStart => exact ⟨0, by omega, rfl, HF4, Lib.hid HS4.out, HT4, HB14⟩
          case round =>
            clear HF4 HT4 HB14
            obtain ⟨k, hk, rfl, hF, hwio, hT, hbr⟩ := hrel
            obtain ⟨wo, rfl⟩ : ∃ wo : World, wo = wr := ⟨_, rfl⟩
            by_cases hk4 : k < 4
            · have hk0 : (0 : Int) ≤ (k : Int) := by omega
              have hk1 : (k : Int) < 4 := by omega
              obtain ⟨A0, n0, c0, cv⟩ := hF.out.old k hk4
              have zv := hF.out.fr k
              have HEN : Hid (∀ north back, Calls Tryd.prog 32 #[.slice S m d, .slice (some ⟨q0, 0, none⟩) m m, .bool north, .bool back] wo fun e w' => ∃ A c, e = .returned (.slice A m c) ∧ BSl w' wo.heap.size A m (endT s inn north back m) ∧ Below wo.heap.size wo w') := fun north back => rendless_any s S m d q0 m inn north back wo HM.out hml (HS.out.keep hbr.out hbr.out.size) hT.out
              go_wp2_with (go_at_call 32; refine (HEN.out _ _).mono ?_; rintro e w5 ⟨A5, c5, rfl, hB5, hb5⟩; obtain ⟨cv5, zv5⟩ := later_cellO hb5 cv zv)
              obtain ⟨_, _, _, c05⟩ := hF.out.old 0 (by omega)
              have hD : BSl w5 wi.heap.size A5 m (dirT s inn k) := fun hm => by
                obtain ⟨q, e1, e2, e3⟩ := hB5 hm
                refine ⟨q, e1, Nat.le_trans hwio.out e2, ?_⟩
                unfold dirT
                rw [← HM.out]
                exact e3
              have hF5 := (hF.out.keep hb5).put hk4 A5 c5 hD
              have hT5 := (hT.out.keep hb5).grown (grown_setB (World.grownBy.refl w5 (some lq)) k (.slice A5 m c5)) (by simpa using fun e : q0 = lq => hlne e.symm)
              have hb55 : Below w.heap.size w (w5.setCell ⟨lq, k, none⟩ (.slice A5 m c5)) := (hbr.out.trans (hb5.mono hbr.out.size)).setCell (p := ⟨lq, k, none⟩) hlo _
              exact ⟨⟨k + 1, by omega, by go_num, hF5, Lib.hid (by have := hwio.out; have := hb5.size; simp; omega), hT5, hb55⟩, by simp [intOf]; omega⟩
            · obtain rfl : k = 4 := by omega
              have HF := Lib.hid hF.out
              have HT0 : Hid (BTab wo q0 m (fun L => rowK s inn 0 L.toNat)) := hT.out
              have HBO := Lib.hid hbr.out
              clear hF hT hbr
              go_wp2_with fail
              go_loopw [5, 8] (fun mv iv wr => ∃ (i : Nat) (mo : Bool), i ≤ m ∧ iv = .int .i64 (i : Int) ∧ mv = .bool mo ∧ Hid (mo = true ↔ ∃ j, j < i ∧ rndC s inn j ≠ inn j) ∧ Hid (BTab wr q0 m (fun L => rowK s inn i L.toNat)) ∧ Hid (wo.grownBy wr (some q0))) (fun mv iv _ => m - (intOf iv).toNat)
              case atStart => exact ⟨0, false, Nat.zero_le _, rfl, rfl, Lib.hid ⟨fun h => (by cases h), fun ⟨j, hj, _⟩ => absurd hj (Nat.not_lt_zero _)⟩, HT0, World.grownBy.refl _ _⟩
              case round =>
                clear HT0
                obtain ⟨i, mo, hi', rfl, rfl, hmo, hT, hg⟩ := hrel
                obtain ⟨wl, rfl⟩ : ∃ wl : World, wl = wr := ⟨_, rfl⟩
                by_cases him : i < m
                · have hF := HF.out.grown hg.out hq0wi hlne
                  have hm0 : 0 < m := by omega
                  obtain ⟨A0, c0, l0, b0⟩ := hF.tab 0 (by omega)
                  obtain ⟨A1, c1, l1, b1⟩ := hF.tab 1 (by omega)
                  obtain ⟨A2, c2, l2, b2⟩ := hF.tab 2 (by omega)
                  obtain ⟨A3, c3, l3, b3⟩ := hF.tab 3 (by omega)
                  obtain ⟨r0, rfl, -, g0⟩ := b0 hm0
                  obtain ⟨r1, rfl, -, g1⟩ := b1 hm0
                  obtain ⟨r2, rfl, -, g2⟩ := b2 hm0
                  obtain ⟨r3, rfl, -, g3⟩ := b3 hm0
                  obtain ⟨e0, he0⟩ : ∃ e, e = dirT s inn 0 (i : Int) := ⟨_, rfl⟩
                  obtain ⟨e1, he1⟩ : ∃ e, e = dirT s inn 1 (i : Int) := ⟨_, rfl⟩
                  obtain ⟨e2, he2⟩ : ∃ e, e = dirT s inn 2 (i : Int) := ⟨_, rfl⟩
                  obtain ⟨e3, he3⟩ : ∃ e, e = dirT s inn 3 (i : Int) := ⟨_, rfl⟩
                  obtain ⟨x, hx⟩ : ∃ x, x = inn i := ⟨_, rfl⟩
                  have k0 := g0.2.1 i him
                  have k1 := g1.2.1 i him
                  have k2 := g2.2.1 i him
                  have k3 := g3.2.1 i him
                  rw [← he0] at k0
                  rw [← he1] at k1
                  rw [← he2] at k2
                  rw [← he3] at k3
                  have hR : rndC s inn i = (x && (e0 && (e1 && (e2 && e3)))) := by
                    rw [hx, he0, he1, he2, he3]
                    rfl
                  have cX : wl.cell? ⟨q0, i, none⟩ = some (.bool x) := by
                    rw [hT.out.2.1 i him, hx]
                    show some (Value.bool (rowK s inn i (i : Int).toNat)) = _
                    unfold rowK
                    rw [Int.toNat_natCast, if_neg (Nat.lt_irrefl i)]
                  have zX := hT.out.2.2 i
                  have HTF : Hid (rndC s inn i = x → BTab wl q0 m (fun L => rowK s inn (i + 1) L.toNat)) := fun e => hT.out.congr fun L hL => by
                    show rowK s inn i (L : Int).toNat = rowK s inn (i + 1) (L : Int).toNat
                    unfold rowK
                    rw [Int.toNat_natCast]
                    by_cases h1 : L < i
                    · rw [if_pos h1, if_pos (by omega)]
                    · rw [if_neg h1]
                      by_cases h2 : L = i
                      · subst h2; rw [if_pos (by omega), e, hx]
                      · rw [if_neg (by omega)]
                  have HTS : Hid (rndC s inn i = false → BTab (wl.setCell ⟨q0, i, none⟩ (.bool false)) q0 m (fun L => rowK s inn (i + 1) L.toNat) ∧ wo.grownBy (wl.setCell ⟨q0, i, none⟩ (.bool false)) (some q0)) := fun e =>
                    ⟨hT.out.set i him false (by show false = rowK s inn (i + 1) (i : Int).toNat; unfold rowK; rw [Int.toNat_natCast, if_pos (by omega), e]) fun L hL hne => by
                      show rowK s inn i (L : Int).toNat = rowK s inn (i + 1) (L : Int).toNat
                      unfold rowK
                      rw [Int.toNat_natCast]
                      by_cases h1 : L < i
                      · rw [if_pos h1, if_pos (by omega)]
                      · rw [if_neg h1, if_neg (by omega)], grown_setB hg.out i _⟩
                  have HI0 : Hid (rndC s inn i = x → (mo = true ↔ ∃ j, j < i + 1 ∧ rndC s inn j ≠ inn j)) := fun e => by
                    rw [hmo.out]
                    constructor
                    · rintro ⟨j, hj, h⟩; exact ⟨j, by omega, h⟩
                    · rintro ⟨j, hj, h⟩
                      refine ⟨j, ?_, h⟩
                      by_cases e2 : j = i
                      · subst e2; exact absurd (e.trans hx) h
                      · omega
                  have HI1 : Hid (rndC s inn i ≠ x → (true = true ↔ ∃ j, j < i + 1 ∧ rndC s inn j ≠ inn j)) := fun e => ⟨fun _ => ⟨i, by omega, by rw [← hx]; exact e⟩, fun _ => rfl⟩
                  have HR := Lib.hid hR
                  have hi0 : (0 : Int) ≤ (i : Int) := by omega
                  have him' : (i : Int) < (m : Int) := by omega
                  clear hF b0 b1 b2 b3 g0 g1 g2 g3 he0 he1 he2 he3 hx hR hT hmo
                  cases x
                  · go_wp2_with fail
                    go_roundw
                    case rel => exact ⟨i + 1, mo, by omega, by go_num, rfl, HI0.out HR.out, HTF.out HR.out, hg⟩
                    case measure => simp [intOf]; omega
                  · cases e0 <;> cases e1 <;> cases e2 <;> cases e3
                    all_goals
                      go_wp2_with fail
                      go_roundw
                      case rel => first
                        | exact ⟨i + 1, true, by omega, by go_num, rfl, HI1.out (by rw [HR.out]; decide), (HTS.out (by rw [HR.out]; rfl)).1, (HTS.out (by rw [HR.out]; rfl)).2⟩
                        | exact ⟨i + 1, mo, by omega, by go_num, rfl, HI0.out (by rw [HR.out]; rfl), HTF.out (by rw [HR.out]; rfl), hg⟩
                      case measure => simp [intOf]; omega
                · obtain rfl : i = m := by omega
                  have hTR : BTab wl q0 i (fun L => rndC s inn L.toNat) := hT.out.congr fun L hL => by
                    show rowK s inn i (L : Int).toNat = rndC s inn (L : Int).toNat
                    unfold rowK
                    rw [Int.toNat_natCast, if_pos hL]
                  have hbl : Below w.heap.size w wl := HBO.out.trans ⟨hg.out.os, hg.out.tape, hg.out.output, hg.out.size, fun j hj => hg.out.block j (Nat.lt_of_lt_of_le hj HBO.out.size) (by simp; omega)⟩
                  have hless := left_less s inn
                  have hTRc := leftN_is hTR
                  have HM2 := HM.out
                  have HBL := Lib.hid hbl
                  have HTR := Lib.hid hTR
                  have HLS := Lib.hid hless
                  have HTC := Lib.hid hTRc
                  clear hTR hbl hless hTRc hT hg HM2
                  cases mo
                  · have hfx : ∀ j, j < s.length → rndC s inn j = inn j := fun j hj => by
                      cases h : decide (rndC s inn j = inn j) with
                      | true => exact of_decide_eq_true h
                      | false => have := hmo.out.2 ⟨j, by rw [HM.out]; exact hj, of_decide_eq_false h⟩; cases this
                    have HFX := Lib.hid hfx
                    have HTN : Hid (BTab wl q0 i (fun L => inn L.toNat)) := HTR.out.congr fun L hL => by
                      show rndC s inn (L : Int).toNat = inn (L : Int).toNat
                      rw [Int.toNat_natCast]
                      exact HFX.out L (by rw [← HM.out]; exact hL)
                    clear hfx hmo
                    go_wp2_with fail
                    go_roundw
                    case rel => exact ⟨false, inn, rfl, HTN, hco, Lib.hid (fun _ => HFX.out), HBL⟩
                    case measure =>
                      show leftN wl q0 i + 0 < leftN wi q0 i + 1
                      rw [HML.out, leftN_is HTN.out]
                      omega
                  · have HEX : Hid (∃ j, j < i ∧ rndC s inn j ≠ inn j) := hmo.out.1 rfl
                    clear hmo
                    go_wp2_with fail
                    go_roundw
                    case rel => exact ⟨true, rndC s inn, rfl, HTR, Lib.hid (core_rnd s inn hco.out), Lib.hid (fun h => (by cases h)), HBL⟩
                    case measure =>
                      show leftN wl q0 i + 1 < leftN wi q0 i + 1
                      rw [HML.out, HTC.out]
                      obtain ⟨j, hj, h⟩ := HEX.out
                      have h1 := HLS.out.2 ⟨j, by rw [← HM.out]; exact hj, h⟩
                      rw [← HM.out] at h1
                      omega
end Go.Proofs.YtgadfmknjpanpaaDoor
