/-
  strip.plane: leading and enclosed: what one round leaves.
-/
import Derived.Test.YtgadfmknjpanpaaDoorSa
import Derived.Test.YtgadfmknjpanpaaDoorSr
import Derived.Test.YtgadfmknjpanpaaDoorFg
import Derived.Deep.Cut
import Derived.Deep.CutRange
namespace Go.Proofs.YtgadfmknjpanpaaDoor
open Go.RowKit Go.Maps Go.BigFrame
set_option linter.unusedVariables false
set_option linter.unusedSimpArgs false
set_option maxRecDepth 100000

/-- the colours of a side of some tiles -/
def colP (f : Tl → Int) (s : List Tl) (T : List Nat) (c : Nat) : Bool := T.any fun j => decide (f (ti s j) = (c : Int))
theorem colP_nil (f : Tl → Int) (s : List Tl) (c : Nat) : colP f s [] c = false := rfl
theorem colP_snoc (f : Tl → Int) (s : List Tl) (T : List Nat) (i c d : Nat) (hd : f (ti s i) = (d : Int)) : colP f s (T ++ [i]) c = (decide (c = d) || colP f s T c) := by
  unfold colP
  rw [List.any_append, Bool.or_comm]
  congr 1
  simp only [List.any_cons, List.any_nil, Bool.or_false]
  rw [hd, decide_eq_decide]
  omega
theorem ColW.congr {w : World} {b o : Nat} {P Q : Nat → Bool} (h : ColW w b o P) (e : ∀ c, P c = Q c) : ColW w b o Q := by
  have : P = Q := funext e
  rw [← this]; exact h
theorem ColW.block {w w' : World} {b o : Nat} {P : Nat → Bool} (h : ColW w b o P) (e : w'.heap[b]? = w.heap[b]?) : ColW w' b o P := by
  refine ⟨fun j hj => ?_, fun i => (World.frozen?_of_block (a := ⟨b, i, none⟩) e).trans (h.2 i)⟩
  obtain ⟨v, h1, h2, h3⟩ := h.1 j hj
  exact ⟨v, (World.cell?_of_block (a := ⟨b, o + j, none⟩) e).trans h1, h2, h3⟩
theorem ColW.lt {w : World} {b o : Nat} {P : Nat → Bool} (h : ColW w b o P) : b < w.heap.size := by
  obtain ⟨v, h1, _⟩ := h.1 0 (by omega)
  exact World.block_lt_of_cell? w _ h1
theorem ColW.keep {w w' : World} {b o : Nat} {P : Nat → Bool} (h : ColW w b o P) (hb : Below w.heap.size w w') : ColW w' b o P := h.block (hb.block b h.lt)
theorem frozen_new {w : World} {q i : Nat} {c : Array Value} {t : TypeId} (h : w.heap[q]? = some (.cells c t (0, 0))) : w.frozen? ⟨q, i, none⟩ = false := by simp [World.frozen?, h]
/-- a new set of colours is empty -/
theorem colW_new (w : World) (t : TypeId) (n : Nat) (hn : n = w.heap.size) : ColW (w.alloc (.cells #[.int .u64 0, .int .u64 0, .int .u64 0, .int .u64 0, .int .u64 0, .int .u64 0, .int .u64 0, .int .u64 0, .int .u64 0, .int .u64 0, .int .u64 0, .int .u64 0, .int .u64 0, .int .u64 0, .int .u64 0, .int .u64 0] t)) n 0 (fun _ => false) := by
  subst hn
  refine ⟨fun j hj => ?_, fun i => frozen_new (heap_alloc_new w _)⟩
  refine ⟨0, ?_, by omega, fun i hi => Nat.zero_testBit i⟩
  rw [cell_of_row _ _ _ _ _ _ (heap_alloc_new w _)]
  rcases j with _ | _ | _ | _ | _ | _ | _ | _ | _ | _ | _ | _ | _ | _ | _ | _ | j
  all_goals first | rfl | omega
theorem okt_bounds {s : List Tl} (hv : vld s = true) {i : Nat} (hi : i < s.length) : (0 ≤ (ti s i).n ∧ (ti s i).n < 1000) ∧ (0 ≤ (ti s i).e ∧ (ti s i).e < 1000) ∧ (0 ≤ (ti s i).s ∧ (ti s i).s < 1000) ∧ (0 ≤ (ti s i).w ∧ (ti s i).w < 1000) := by
  have := (vld_iff.1 hv).2.1 _ (ti_mem hi)
  unfold okt okc at this
  simp only [Bool.and_eq_true, decide_eq_true_eq] at this
  omega
theorem intsL_at {w w' : World} {A : Option Addr} {L : List Nat} (h : IntsIn w w.heap.size A (idxI L)) (hb : Below w.heap.size w w') {k i : Nat} (hi : L[k]? = some i) : ∃ ab ao, A = some ⟨ab, ao, none⟩ ∧ w'.cell? ⟨ab, ao + k, none⟩ = some (.int .i64 (i : Int)) := by
  have hk := (List.getElem?_eq_some_iff.1 hi).1
  obtain ⟨ab, ao, rfl, hlt, hc⟩ := h (by intro e; have : (idxI L).length = 0 := by rw [e]; rfl
                                         simp [idxI] at this; rw [this] at hk; simp at hk)
  refine ⟨ab, ao, rfl, (hb.cell (p := ⟨ab, ao + k, none⟩) hlt).trans ((hc k (by simpa [idxI] using hk)).trans ?_)⟩
  have : (idxI L).getD k 0 = (i : Int) := by
    unfold idxI
    rw [List.getD_eq_getElem?_getD, List.getElem?_map, hi]
    rfl
  rw [this]
set_option maxHeartbeats 2000000 in
theorem leading_any (s : List Tl) (S : Option Addr) (m d : Nat) (L : List Nat) (A : Option Addr) (n c : Nat) (w : World) (hm : m = s.length) (hv : vld s = true) (hS : SetIn w w.heap.size S s) (hn : n = L.length) (hnl : n ≤ 1000) (hL : ∀ i ∈ L, i < s.length) (hA : IntsIn w w.heap.size A (idxI L)) :
    Calls Tryd.prog 31 #[.slice S m d, .slice A n c] w fun e w' => ∃ v, e = .returned v ∧ w'.ownsRow w.heap.size 3 1 v (keep1 (leadP s) L).length (vals (idxI (keep1 (leadP s) L))) ∧ Below w.heap.size w w' := by
  have HM := Lib.hid hm
  have HV := Lib.hid hv
  have HS := Lib.hid hS
  have HN := Lib.hid hn
  have HL := Lib.hid hL
  have HA := Lib.hid hA
  have hml : m ≤ 1000 := by rw [hm]; exact (vld_iff.1 hv).1
  clear hm hv hS hn hL hA
  go_enter Tryd.func31, Tryd.ntmps31
  go_wp2_with fail
  obtain ⟨W1, hW1⟩ : ∃ W1, W1 = w.alloc (.cells #[.int .u64 0, .int .u64 0, .int .u64 0, .int .u64 0, .int .u64 0, .int .u64 0, .int .u64 0, .int .u64 0, .int .u64 0, .int .u64 0, .int .u64 0, .int .u64 0, .int .u64 0, .int .u64 0, .int .u64 0, .int .u64 0] 81) := ⟨_, rfl⟩
  have hc1 : ColW W1 w.heap.size 0 (colP Tl.w s (L.take 0)) := by rw [hW1]; exact (colW_new w _ _ rfl).congr fun c => rfl
  have hb1 : Below w.heap.size w W1 := by rw [hW1]; exact (Below.refl _ _).alloc (Nat.le_refl _) _
  have hz1 : W1.heap.size = w.heap.size + 1 := by rw [hW1]; simp
  rw [← hW1]
  have HC1 := Lib.hid hc1
  have HB1 := Lib.hid hb1
  have HZ1 := Lib.hid hz1
  clear hW1 hc1 hb1 hz1
  go_loopw [13] (fun i wr => ∃ k : Nat, k ≤ n ∧ i = .int .i64 k ∧ Hid (ColW wr w.heap.size 0 (colP Tl.w s (L.take k))) ∧ Hid (Below w.heap.size w wr)) (fun i _ => n - (intOf i).toNat)
  case atStart => exact ⟨0, Nat.zero_le _, rfl, HC1, HB1⟩
  case round =>
    clear HC1 HB1
    obtain ⟨k, hk, rfl, hcw, hbr⟩ := hrel
    obtain ⟨wo, rfl⟩ : ∃ wo : World, wo = wr := ⟨_, rfl⟩
    by_cases hkn : k < n
    · have hkL : k < L.length := by rw [← HN.out]; exact hkn
      obtain ⟨i, hi⟩ : ∃ i, L[k]? = some i := ⟨_, List.getElem?_eq_getElem hkL⟩
      have hil := HL.out i (List.mem_of_getElem? hi)
      obtain ⟨ab, ao, rfl, ha⟩ := intsL_at HA.out hbr.out hi
      obtain ⟨sb, so, rfl, hsb, t0, t1, t2, t3⟩ := set_at HS.out hbr.out hil
      obtain ⟨-, -, -, h30, h31⟩ := okt_bounds HV.out hil
      obtain ⟨cw, hcw'⟩ := Int.eq_ofNat_of_zero_le h30
      have hcw1000 : cw < 1000 := by omega
      have t3' : wo.cell? ⟨sb, so + i * 4 + 3, none⟩ = some (.int .i64 (cw : Int)) := by rw [t3]; exact congrArg (fun z => some (Value.int .i64 z)) hcw'
      have hadd := cadd_any w.heap.size 0 cw _ wo hcw1000 hcw.out
      have HADD := Lib.hid hadd
      have HNX : Hid (∀ c, (decide (c = cw) || colP Tl.w s (L.take k) c) = colP Tl.w s (L.take (k + 1)) c) := fun c => by
        rw [List.take_add_one, hi]
        exact (colP_snoc Tl.w s _ i c cw hcw').symm
      have hi0 : (0 : Int) ≤ (i : Int) := by omega
      have him : (i : Int) < (m : Int) := by have := HM.out; omega
      have hk0 : (0 : Int) ≤ (k : Int) := by omega
      clear hkL hi hil t0 t1 t2 t3 h30 h31 hcw' hadd hcw hsb
      go_wp2_with (go_at_call 48; refine HADD.out.mono ?_; rintro e w2 ⟨rfl, hc2, hg2⟩)
      go_roundw
      case rel => exact ⟨k + 1, by omega, by go_num, hc2.congr HNX.out, hbr.out.grown hg2 hbr.out.size (fun j e => by cases e; exact Nat.le_refl _)⟩
      case measure => simp [intOf]; omega
    · have hke : k = n := by omega
      have hcL : ColW wo w.heap.size 0 (colP Tl.w s L) := by
        have h := hcw.out
        rw [hke, HN.out, List.take_length] at h
        exact h
      have HCL := Lib.hid hcL
      have hsz : w.heap.size < wo.heap.size := hcL.lt
      obtain ⟨i0, gi, gz0, gz1, gz2⟩ := info_parts int_info
      obtain ⟨wb, hwb⟩ : ∃ wb, wb = wo := ⟨_, rfl⟩
      have HBB : Hid (Below wo.heap.size wo wo) := Below.refl _ _
      clear hcw hcL hke
      go_wp2_with fail
      go_loopw [8, 26] (fun v i wr => ∃ k : Nat, k ≤ n ∧ i = .int .i64 k ∧ Hid (wr.ownsRow wo.heap.size 3 1 v ((L.take k).filter (leadP s L)).length (vals (idxI ((L.take k).filter (leadP s L))))) ∧ Hid (Below wo.heap.size wo wr)) (fun _ i _ => n - (intOf i).toNat)
      case atStart => exact ⟨0, Nat.zero_le _, rfl, World.ownsRow_nil _ _ _ _, Below.refl _ _⟩
      case round =>
        clear HBB hwb
        obtain ⟨k, hk, rfl, hown, hbo⟩ := hrel
        obtain ⟨wi, rfl⟩ : ∃ wi : World, wi = wr := ⟨_, rfl⟩
        by_cases hkn : k < n
        · have hkL : k < L.length := by rw [← HN.out]; exact hkn
          obtain ⟨i, hi⟩ : ∃ i, L[k]? = some i := ⟨_, List.getElem?_eq_getElem hkL⟩
          have hil := HL.out i (List.mem_of_getElem? hi)
          have hbw := hbr.out.trans (hbo.out.mono hbr.out.size)
          obtain ⟨ab, ao, rfl, ha⟩ := intsL_at HA.out hbw hi
          obtain ⟨sb, so, rfl, hsb, t0, t1, t2, t3⟩ := set_at HS.out hbw hil
          obtain ⟨-, ⟨h10, h11⟩, -, -⟩ := okt_bounds HV.out hil
          obtain ⟨ce, hce⟩ := Int.eq_ofNat_of_zero_le h10
          have hce1000 : ce < 1000 := by omega
          have t1' : wi.cell? ⟨sb, so + i * 4 + 1, none⟩ = some (.int .i64 (ce : Int)) := by rw [t1]; exact congrArg (fun z => some (Value.int .i64 z)) hce
          obtain ⟨r, hr⟩ : ∃ r, r = leadP s L i := ⟨_, rfl⟩
          have hcr : colP Tl.w s L ce = r := by rw [hr]; unfold colP leadP; rw [hce]
          have hhas := chas_any w.heap.size 0 ce _ wi hce1000 (HCL.out.block (hbo.out.block _ hsz))
          rw [hcr] at hhas
          have HHAS := Lib.hid hhas
          have hi0 : (0 : Int) ≤ (i : Int) := by omega
          have him : (i : Int) < (m : Int) := by have := HM.out; omega
          have hk0 : (0 : Int) ≤ (k : Int) := by omega
          have hfl : ((L.take k).filter (leadP s L)).length ≤ 1000 := Nat.le_trans (List.length_filter_le _ _) (by rw [List.length_take]; omega)
          obtain ⟨F, hF⟩ : ∃ F, F = (L.take k).filter (leadP s L) := ⟨_, rfl⟩
          rw [← hF] at hown hfl
          have hF1 : (L.take (k + 1)).filter (leadP s L) = F ++ (if r = true then [i] else []) := by
            rw [List.take_add_one, hi, List.filter_append, ← hF, hr]
            cases h : leadP s L i <;> simp [h]
          have HF1 := Lib.hid hF1
          obtain ⟨fn, hfn⟩ : ∃ fn, fn = F.length := ⟨_, rfl⟩
          rw [← hfn] at hown hfl
          have HFN := Lib.hid hfn
          have hbsz := hbo.out.size
          clear hkL hi hil t0 t1 t2 t3 h10 h11 hce hhas hsb hr hcr hF hF1 hfn hbw
          cases r
          · go_wp2_with (go_at_call 38; refine HHAS.out.mono ?_; rintro e w2 ⟨rfl, rfl⟩)
            go_roundw
            case rel => exact ⟨k + 1, by omega, by go_num, by show World.ownsRow _ _ _ _ _ _ _; rw [HF1.out]; simpa [← HFN.out] using hown.out, hbo⟩
            case measure => simp [intOf]; omega
          · go_wp2_with (first
              | (go_at_call 38; refine HHAS.out.mono ?_; rintro e w2 ⟨rfl, rfl⟩)
              | (at_builtin; refine wpList_append_own_at _ rfl _ _ 25 rfl wo.heap.size 3 i0 _ 1 8 Tryd.underlying25 gi gz0 gz1 gz2 rfl (by decide) _ _ _ rfl (hown.out.alloc _) ⟨wi.heap.size, 0, none⟩ 1 1 [.int .i64 (i : Int)] rfl rfl (fun jj uu hh => cell_news wi wi.heap.size rfl [.int .i64 (i : Int)] _ jj uu hh) (one_int (i : Int)) (by simp only [maxLen]; omega) (by omega) (by first | (simp; done) | (simp; omega)) ?_; intro v7 w7 hown7 hgrow7 hnil7 hat7))
            have hb7 : Below wo.heap.size wo w7 := (hbo.out.alloc hbsz _).grown hgrow7 (by first | (simp; done) | (simp; omega)) (fun j e => (hown.out.lt j e).1)
            go_roundw
            case rel => exact ⟨k + 1, by omega, by go_num, by show World.ownsRow _ _ _ _ _ _ _; rw [HF1.out]; simpa [← HFN.out, vals, idxI] using hown7, hb7⟩
            case measure => simp [intOf]; omega
        · have hke : k = n := by omega
          have hfin := hown.out
          rw [hke, HN.out, List.take_length] at hfin
          have HFIN := Lib.hid hfin
          have HBW := Lib.hid (hbr.out.trans (hbo.out.mono hbr.out.size))
          clear hfin hown hke
          go_wp2_with fail
          go_ret
          exact ⟨_, rfl, own_mono HFIN.out (Nat.le_of_lt hsz), HBW.out⟩

theorem colW_old {w : World} {b : Nat} {P : Nat → Bool} (h : ColW w b 0 P) (o : Obj) : ColW (w.alloc o) b 0 P := h.keep ((Below.refl _ _).alloc (Nat.le_refl _) _)
/-- four sets of colours: of the sides of some tiles -/
def Four (w : World) (B : Nat) (s : List Tl) (T : List Nat) : Prop := ColW w B 0 (colP Tl.n s T) ∧ ColW w (B + 1) 0 (colP Tl.e s T) ∧ ColW w (B + 2) 0 (colP Tl.s s T) ∧ ColW w (B + 3) 0 (colP Tl.w s T)
theorem four_new (w : World) (s : List Tl) (o : Obj) (ho : o = .cells #[.int .u64 0, .int .u64 0, .int .u64 0, .int .u64 0, .int .u64 0, .int .u64 0, .int .u64 0, .int .u64 0, .int .u64 0, .int .u64 0, .int .u64 0, .int .u64 0, .int .u64 0, .int .u64 0, .int .u64 0, .int .u64 0] 81) : Four ((((w.alloc o).alloc o).alloc o).alloc o) w.heap.size s [] := by
  subst ho
  refine ⟨?_, ?_, ?_, ?_⟩
  · exact colW_old (colW_old (colW_old ((colW_new w _ _ rfl).congr fun c => rfl) _) _) _
  · exact colW_old (colW_old ((colW_new _ _ _ (by simp)).congr fun c => rfl) _) _
  · exact colW_old ((colW_new _ _ _ (by simp)).congr fun c => rfl) _
  · exact (colW_new _ _ _ (by simp)).congr fun c => rfl
theorem Four.keep {w w' : World} {B : Nat} {s : List Tl} {T : List Nat} (h : Four w B s T) (hb : Below w.heap.size w w') : Four w' B s T := ⟨h.1.keep hb, h.2.1.keep hb, h.2.2.1.keep hb, h.2.2.2.keep hb⟩
theorem enclP_col (s : List Tl) (L : List Nat) (i a b c d : Nat) (ha : (ti s i).n = (a : Int)) (hb : (ti s i).e = (b : Int)) (hc : (ti s i).s = (c : Int)) (hd : (ti s i).w = (d : Int)) :
    enclP s L i = (colP Tl.s s L a && (colP Tl.w s L b && (colP Tl.n s L c && colP Tl.e s L d))) := by
  unfold enclP colP
  rw [ha, hb, hc, hd]
set_option maxHeartbeats 4000000 in
theorem enclosed_any (s : List Tl) (S : Option Addr) (m d : Nat) (L : List Nat) (A : Option Addr) (n c : Nat) (w : World) (hm : m = s.length) (hv : vld s = true) (hS : SetIn w w.heap.size S s) (hn : n = L.length) (hnl : n ≤ 1000) (hL : ∀ i ∈ L, i < s.length) (hA : IntsIn w w.heap.size A (idxI L)) :
    Calls Tryd.prog 30 #[.slice S m d, .slice A n c] w fun e w' => ∃ v, e = .returned v ∧ w'.ownsRow w.heap.size 3 1 v (keep1 (enclP s) L).length (vals (idxI (keep1 (enclP s) L))) ∧ Below w.heap.size w w' := by
  have HM := Lib.hid hm
  have HV := Lib.hid hv
  have HS := Lib.hid hS
  have HN := Lib.hid hn
  have HL := Lib.hid hL
  have HA := Lib.hid hA
  have hml : m ≤ 1000 := by rw [hm]; exact (vld_iff.1 hv).1
  clear hm hv hS hn hL hA
  obtain ⟨o, ho⟩ : ∃ o : Obj, o = .cells #[.int .u64 0, .int .u64 0, .int .u64 0, .int .u64 0, .int .u64 0, .int .u64 0, .int .u64 0, .int .u64 0, .int .u64 0, .int .u64 0, .int .u64 0, .int .u64 0, .int .u64 0, .int .u64 0, .int .u64 0, .int .u64 0] 81 := ⟨_, rfl⟩
  obtain ⟨W1, hW1⟩ : ∃ W1, W1 = (((w.alloc o).alloc o).alloc o).alloc o := ⟨_, rfl⟩
  have hc1 : Four W1 w.heap.size s (L.take 0) := by rw [hW1]; exact four_new w s o ho
  have hb1 : Below w.heap.size w W1 := by rw [hW1]; exact ((((Below.refl _ _).alloc (Nat.le_refl _) _).alloc (by simp) _).alloc (by simp; omega) _).alloc (by simp; omega) _
  rw [ho] at hW1
  have HW1 := Lib.hid hW1
  have HC1 := Lib.hid hc1
  have HB1 := Lib.hid hb1
  clear hW1 hc1 hb1 ho
  go_enter Tryd.func30, Tryd.ntmps30
  go_wp2_with fail
  rw [← HW1.out]
  go_loopw [17] (fun i wr => ∃ k : Nat, k ≤ n ∧ i = .int .i64 k ∧ Hid (Four wr w.heap.size s (L.take k)) ∧ Hid (Below w.heap.size w wr)) (fun i _ => n - (intOf i).toNat)
  case atStart => exact ⟨0, Nat.zero_le _, rfl, HC1, HB1⟩
  case round =>
    clear HC1 HB1
    obtain ⟨k, hk, rfl, hcw, hbr⟩ := hrel
    obtain ⟨wo, rfl⟩ : ∃ wo : World, wo = wr := ⟨_, rfl⟩
    by_cases hkn : k < n
    · have hkL : k < L.length := by rw [← HN.out]; exact hkn
      obtain ⟨i, hi⟩ : ∃ i, L[k]? = some i := ⟨_, List.getElem?_eq_getElem hkL⟩
      have hil := HL.out i (List.mem_of_getElem? hi)
      obtain ⟨ab, ao, rfl, ha⟩ := intsL_at HA.out hbr.out hi
      obtain ⟨sb, so, rfl, hsb, -⟩ := set_at HS.out hbr.out hil
      have HT : Hid (∀ W, Below w.heap.size w W → W.cell? ⟨sb, so + i * 4, none⟩ = some (.int .i64 (ti s i).n) ∧ W.cell? ⟨sb, so + i * 4 + 1, none⟩ = some (.int .i64 (ti s i).e) ∧ W.cell? ⟨sb, so + i * 4 + 2, none⟩ = some (.int .i64 (ti s i).s) ∧ W.cell? ⟨sb, so + i * 4 + 3, none⟩ = some (.int .i64 (ti s i).w)) := fun W hb => by
        obtain ⟨_, _, e, _, t0, t1, t2, t3⟩ := set_at HS.out hb hil
        injection e with e; injection e with e1 e2 _
        subst e1; subst e2
        exact ⟨t0, t1, t2, t3⟩
      obtain ⟨⟨h00, h01⟩, ⟨h10, h11⟩, ⟨h20, h21⟩, ⟨h30, h31⟩⟩ := okt_bounds HV.out hil
      obtain ⟨c0, hc0⟩ := Int.eq_ofNat_of_zero_le h00
      obtain ⟨c1, hc1⟩ := Int.eq_ofNat_of_zero_le h10
      obtain ⟨c2, hc2⟩ := Int.eq_ofNat_of_zero_le h20
      obtain ⟨c3, hc3⟩ := Int.eq_ofNat_of_zero_le h30
      have l0 : c0 < 1000 := by omega
      have l1 : c1 < 1000 := by omega
      have l2 : c2 < 1000 := by omega
      have l3 : c3 < 1000 := by omega
      rw [hc0, hc1, hc2, hc3] at HT
      obtain ⟨t0, -⟩ := HT.out wo hbr.out
      obtain ⟨q0, q1, q2, q3⟩ := hcw.out
      have hadd := cadd_any w.heap.size 0 c0 _ wo l0 q0
      have HADD := Lib.hid hadd
      have HQ : Hid (ColW wo (w.heap.size + 1) 0 (colP Tl.e s (L.take k)) ∧ ColW wo (w.heap.size + 2) 0 (colP Tl.s s (L.take k)) ∧ ColW wo (w.heap.size + 3) 0 (colP Tl.w s (L.take k))) := ⟨q1, q2, q3⟩
      have HNX : Hid (∀ (f : Tl → Int) (d : Nat), f (ti s i) = (d : Int) → ∀ c, (decide (c = d) || colP f s (L.take k) c) = colP f s (L.take (k + 1)) c) := fun f d hd c => by
        rw [List.take_add_one, hi]
        exact (colP_snoc f s _ i c d hd).symm
      have HC : Hid ((ti s i).n = (c0 : Int) ∧ (ti s i).e = (c1 : Int) ∧ (ti s i).s = (c2 : Int) ∧ (ti s i).w = (c3 : Int)) := ⟨hc0, hc1, hc2, hc3⟩
      have hi0 : (0 : Int) ≤ (i : Int) := by omega
      have him : (i : Int) < (m : Int) := by have := HM.out; omega
      have hk0 : (0 : Int) ≤ (k : Int) := by omega
      have hls : w.heap.size + 3 < wo.heap.size := q3.lt
      clear hkL hi hil h00 h01 h10 h11 h20 h21 h30 h31 hc0 hc1 hc2 hc3 hadd hcw hsb q0 q1 q2 q3
      go_upto_region 6 with (go_at_call 48; refine HADD.out.mono ?_; rintro e w2 ⟨rfl, hn2, hg2⟩)
      have hb2 : Below w.heap.size w w2 := hbr.out.grown hg2 hbr.out.size (fun j e => by cases e; exact Nat.le_refl _)
      obtain ⟨-, t1, -⟩ := HT.out w2 hb2
      have HADD2 := Lib.hid (cadd_any (w.heap.size + 1) 0 c1 _ w2 l1 (HQ.out.1.block (hg2.block _ (by omega) (by simp))))
      go_upto_region 7 with (go_at_call 48; refine HADD2.out.mono ?_; rintro e w3 ⟨rfl, he3, hg3⟩)
      have hs2 := hg2.size
      have hb3 : Below w.heap.size w w3 := hb2.grown hg3 hb2.size (fun j e => by cases e; omega)
      obtain ⟨-, -, t2, -⟩ := HT.out w3 hb3
      have HADD3 := Lib.hid (cadd_any (w.heap.size + 2) 0 c2 _ w3 l2 ((HQ.out.2.1.block (hg2.block _ (by omega) (by simp))).block (hg3.block _ (by omega) (by simp))))
      go_upto_region 8 with (go_at_call 48; refine HADD3.out.mono ?_; rintro e w4 ⟨rfl, hs4, hg4⟩)
      have hs3 := hg3.size
      have hb4 : Below w.heap.size w w4 := hb3.grown hg4 hb3.size (fun j e => by cases e; omega)
      obtain ⟨-, -, -, t3⟩ := HT.out w4 hb4
      have HADD4 := Lib.hid (cadd_any (w.heap.size + 3) 0 c3 _ w4 l3 (((HQ.out.2.2.block (hg2.block _ (by omega) (by simp))).block (hg3.block _ (by omega) (by simp))).block (hg4.block _ (by omega) (by simp))))
      have hs4' := hg4.size
      go_wp2_with (go_at_call 48; refine HADD4.out.mono ?_; rintro e w5 ⟨rfl, hw5, hg5⟩)
      have hb5 : Below w.heap.size w w5 := hb4.grown hg5 hb4.size (fun j e => by cases e; omega)
      have HF : Hid (Four w5 w.heap.size s (L.take (k + 1))) := by
        obtain ⟨e0, e1, e2, e3⟩ := HC.out
        refine ⟨?_, ?_, ?_, ?_⟩
        · exact (((hn2.block (hg3.block _ (by omega) (by simp))).block (hg4.block _ (by omega) (by simp))).block (hg5.block _ (by omega) (by simp))).congr (HNX.out Tl.n c0 e0)
        · exact ((he3.block (hg4.block _ (by omega) (by simp))).block (hg5.block _ (by omega) (by simp))).congr (HNX.out Tl.e c1 e1)
        · exact (hs4.block (hg5.block _ (by omega) (by simp))).congr (HNX.out Tl.s c2 e2)
        · exact hw5.congr (HNX.out Tl.w c3 e3)
      clear t0 t1 t2 t3
      go_roundw
      case rel => exact ⟨k + 1, by omega, by go_num, HF, hb5⟩
      case measure => simp [intOf]; omega
    · have hke : k = n := by omega
      have hcL : Four wo w.heap.size s L := by
        have h := hcw.out
        rw [hke, HN.out, List.take_length] at h
        exact h
      have HCL := Lib.hid hcL
      have hsz : w.heap.size < wo.heap.size := hcL.1.lt
      obtain ⟨i0, gi, gz0, gz1, gz2⟩ := info_parts int_info
      clear hcw hcL hke
      go_wp2_with fail
      go_loopw [11, 48] (fun v i wr => ∃ k : Nat, k ≤ n ∧ i = .int .i64 k ∧ Hid (wr.ownsRow wo.heap.size 3 1 v ((L.take k).filter (enclP s L)).length (vals (idxI ((L.take k).filter (enclP s L))))) ∧ Hid (Below wo.heap.size wo wr)) (fun _ i _ => n - (intOf i).toNat)
      case atStart => exact ⟨0, Nat.zero_le _, rfl, World.ownsRow_nil _ _ _ _, Below.refl _ _⟩
      case round =>
        obtain ⟨k, hk, rfl, hown, hbo⟩ := hrel
        obtain ⟨wi, rfl⟩ : ∃ wi : World, wi = wr := ⟨_, rfl⟩
        by_cases hkn : k < n
        · have hkL : k < L.length := by rw [← HN.out]; exact hkn
          obtain ⟨i, hi⟩ : ∃ i, L[k]? = some i := ⟨_, List.getElem?_eq_getElem hkL⟩
          have hil := HL.out i (List.mem_of_getElem? hi)
          have hbw := hbr.out.trans (hbo.out.mono hbr.out.size)
          obtain ⟨ab, ao, rfl, ha⟩ := intsL_at HA.out hbw hi
          obtain ⟨sb, so, rfl, hsb, t0, t1, t2, t3⟩ := set_at HS.out hbw hil
          obtain ⟨⟨h00, h01⟩, ⟨h10, h11⟩, ⟨h20, h21⟩, ⟨h30, h31⟩⟩ := okt_bounds HV.out hil
          obtain ⟨c0, hc0⟩ := Int.eq_ofNat_of_zero_le h00
          obtain ⟨c1, hc1⟩ := Int.eq_ofNat_of_zero_le h10
          obtain ⟨c2, hc2⟩ := Int.eq_ofNat_of_zero_le h20
          obtain ⟨c3, hc3⟩ := Int.eq_ofNat_of_zero_le h30
          have l0 : c0 < 1000 := by omega
          have l1 : c1 < 1000 := by omega
          have l2 : c2 < 1000 := by omega
          have l3 : c3 < 1000 := by omega
          have t0' : wi.cell? ⟨sb, so + i * 4, none⟩ = some (.int .i64 (c0 : Int)) := by rw [t0]; exact congrArg (fun z => some (Value.int .i64 z)) hc0
          have t1' : wi.cell? ⟨sb, so + i * 4 + 1, none⟩ = some (.int .i64 (c1 : Int)) := by rw [t1]; exact congrArg (fun z => some (Value.int .i64 z)) hc1
          have t2' : wi.cell? ⟨sb, so + i * 4 + 2, none⟩ = some (.int .i64 (c2 : Int)) := by rw [t2]; exact congrArg (fun z => some (Value.int .i64 z)) hc2
          have t3' : wi.cell? ⟨sb, so + i * 4 + 3, none⟩ = some (.int .i64 (c3 : Int)) := by rw [t3]; exact congrArg (fun z => some (Value.int .i64 z)) hc3
          obtain ⟨r0, hr0⟩ : ∃ r, r = colP Tl.s s L c0 := ⟨_, rfl⟩
          obtain ⟨r1, hr1⟩ : ∃ r, r = colP Tl.w s L c1 := ⟨_, rfl⟩
          obtain ⟨r2, hr2⟩ : ∃ r, r = colP Tl.n s L c2 := ⟨_, rfl⟩
          obtain ⟨r3, hr3⟩ : ∃ r, r = colP Tl.e s L c3 := ⟨_, rfl⟩
          have hen : enclP s L i = (r0 && (r1 && (r2 && r3))) := by rw [hr0, hr1, hr2, hr3]; exact enclP_col s L i c0 c1 c2 c3 hc0 hc1 hc2 hc3
          have hfour : ∀ o, Four (wi.alloc o) w.heap.size s L := fun o => HCL.out.keep (hbo.out.alloc hbo.out.size _)
          have H0 : Hid (∀ o, Calls Tryd.prog 38 #[.pointer (some ⟨w.heap.size + 2, 0, none⟩), .int .i64 (c0 : Int)] (wi.alloc o) fun e w' => e = .returned (.bool r0) ∧ wi.alloc o = w') := fun o => by rw [hr0]; exact chas_any (w.heap.size + 2) 0 c0 _ _ l0 (hfour o).2.2.1
          have H1 : Hid (∀ o, Calls Tryd.prog 38 #[.pointer (some ⟨w.heap.size + 3, 0, none⟩), .int .i64 (c1 : Int)] (wi.alloc o) fun e w' => e = .returned (.bool r1) ∧ wi.alloc o = w') := fun o => by rw [hr1]; exact chas_any (w.heap.size + 3) 0 c1 _ _ l1 (hfour o).2.2.2
          have H2 : Hid (∀ o, Calls Tryd.prog 38 #[.pointer (some ⟨w.heap.size, 0, none⟩), .int .i64 (c2 : Int)] (wi.alloc o) fun e w' => e = .returned (.bool r2) ∧ wi.alloc o = w') := fun o => by rw [hr2]; exact chas_any (w.heap.size) 0 c2 _ _ l2 (hfour o).1
          have H3 : Hid (∀ o, Calls Tryd.prog 38 #[.pointer (some ⟨w.heap.size + 1, 0, none⟩), .int .i64 (c3 : Int)] (wi.alloc o) fun e w' => e = .returned (.bool r3) ∧ wi.alloc o = w') := fun o => by rw [hr3]; exact chas_any (w.heap.size + 1) 0 c3 _ _ l3 (hfour o).2.1
          have hi0 : (0 : Int) ≤ (i : Int) := by omega
          have him : (i : Int) < (m : Int) := by have := HM.out; omega
          have hk0 : (0 : Int) ≤ (k : Int) := by omega
          have hfl : ((L.take k).filter (enclP s L)).length ≤ 1000 := Nat.le_trans (List.length_filter_le _ _) (by rw [List.length_take]; omega)
          obtain ⟨F, hF⟩ : ∃ F, F = (L.take k).filter (enclP s L) := ⟨_, rfl⟩
          rw [← hF] at hown hfl
          have hF1 : (L.take (k + 1)).filter (enclP s L) = F ++ (if (r0 && (r1 && (r2 && r3))) = true then [i] else []) := by
            rw [List.take_add_one, hi, List.filter_append, ← hF, ← hen]
            cases h : enclP s L i <;> simp [h]
          have HF1 := Lib.hid hF1
          obtain ⟨fn, hfn⟩ : ∃ fn, fn = F.length := ⟨_, rfl⟩
          rw [← hfn] at hown hfl
          have HFN := Lib.hid hfn
          have hbsz := hbo.out.size
          clear hkL hi hil t0 t1 t2 t3 h00 h01 h10 h11 h20 h21 h30 h31 hc0 hc1 hc2 hc3 hsb hr0 hr1 hr2 hr3 hen hfour hF hF1 hfn hbw
          have HNO : Hid ((r0 && (r1 && (r2 && r3))) = false → (wi.alloc (.cells #[.int .i64 (c0 : Int), .int .i64 (c1 : Int), .int .i64 (c2 : Int), .int .i64 (c3 : Int)] 53)).ownsRow wo.heap.size 3 1 u11 ((L.take (k + 1)).filter (enclP s L)).length (vals (idxI ((L.take (k + 1)).filter (enclP s L))))) := fun h => by
            rw [HF1.out, h]
            simpa [← HFN.out] using hown.out.alloc _
          have HBA : Hid (Below wo.heap.size wo (wi.alloc (.cells #[.int .i64 (c0 : Int), .int .i64 (c1 : Int), .int .i64 (c2 : Int), .int .i64 (c3 : Int)] 53))) := hbo.out.alloc hbsz _
          cases r0
          · go_wp2_with (first
              | (go_at_call 38; (with_reducible refine (H0.out _).mono ?_); rintro e w2 ⟨rfl, rfl⟩)
              | fail)
            go_roundw
            case rel => exact ⟨k + 1, by omega, by go_num, HNO.out rfl, HBA⟩
            case measure => simp [intOf]; omega
          cases r1
          · go_wp2_with (first
              | (go_at_call 38; (with_reducible refine (H0.out _).mono ?_); rintro e w2 ⟨rfl, rfl⟩)
              | (go_at_call 38; (with_reducible refine (H1.out _).mono ?_); rintro e w2 ⟨rfl, rfl⟩)
              | fail)
            go_roundw
            case rel => exact ⟨k + 1, by omega, by go_num, HNO.out rfl, HBA⟩
            case measure => simp [intOf]; omega
          cases r2
          · go_wp2_with (first
              | (go_at_call 38; (with_reducible refine (H0.out _).mono ?_); rintro e w2 ⟨rfl, rfl⟩)
              | (go_at_call 38; (with_reducible refine (H1.out _).mono ?_); rintro e w2 ⟨rfl, rfl⟩)
              | (go_at_call 38; (with_reducible refine (H2.out _).mono ?_); rintro e w2 ⟨rfl, rfl⟩)
              | fail)
            go_roundw
            case rel => exact ⟨k + 1, by omega, by go_num, HNO.out rfl, HBA⟩
            case measure => simp [intOf]; omega
          cases r3
          · go_wp2_with (first
              | (go_at_call 38; (with_reducible refine (H0.out _).mono ?_); rintro e w2 ⟨rfl, rfl⟩)
              | (go_at_call 38; (with_reducible refine (H1.out _).mono ?_); rintro e w2 ⟨rfl, rfl⟩)
              | (go_at_call 38; (with_reducible refine (H2.out _).mono ?_); rintro e w2 ⟨rfl, rfl⟩)
              | (go_at_call 38; (with_reducible refine (H3.out _).mono ?_); rintro e w2 ⟨rfl, rfl⟩)
              | fail)
            go_roundw
            case rel => exact ⟨k + 1, by omega, by go_num, HNO.out rfl, HBA⟩
            case measure => simp [intOf]; omega
          obtain ⟨wt, hwt⟩ : ∃ wt, wt = wi.alloc (.cells #[.int .i64 (c0 : Int), .int .i64 (c1 : Int), .int .i64 (c2 : Int), .int .i64 (c3 : Int)] 53) := ⟨_, rfl⟩
          have hownt : wt.ownsRow wo.heap.size 3 1 u11 fn (vals (idxI F)) := by rw [hwt]; exact hown.out.alloc _
          have hbt : Below wo.heap.size wo wt := by rw [hwt]; exact HBA.out
          have hbts := hbt.size
          have HWT := Lib.hid hwt
          have HOT := Lib.hid hownt
          have HBT := Lib.hid hbt
          clear hwt hownt hbt
          go_upto_region 16 with (first
              | (go_at_call 38; (with_reducible refine (H0.out _).mono ?_); rintro e w2 ⟨rfl, rfl⟩)
              | (go_at_call 38; (with_reducible refine (H1.out _).mono ?_); rintro e w2 ⟨rfl, rfl⟩)
              | (go_at_call 38; (with_reducible refine (H2.out _).mono ?_); rintro e w2 ⟨rfl, rfl⟩)
              | (go_at_call 38; (with_reducible refine (H3.out _).mono ?_); rintro e w2 ⟨rfl, rfl⟩)
              | fail)
          rw [← HWT.out]
          go_wp2_with (at_builtin; refine wpList_append_own_at _ rfl _ _ 25 rfl wo.heap.size 3 i0 _ 1 8 Tryd.underlying25 gi gz0 gz1 gz2 rfl (by decide) _ _ _ rfl (HOT.out.alloc _) ⟨wt.heap.size, 0, none⟩ 1 1 [.int .i64 (i : Int)] rfl rfl (fun jj uu hh => cell_news wt wt.heap.size rfl [.int .i64 (i : Int)] _ jj uu hh) (one_int (i : Int)) (by simp only [maxLen]; omega) (by omega) (by first | (simp; done) | (simp; omega)) ?_; intro v7 w7 hown7 hgrow7 hnil7 hat7)
          have hb7 : Below wo.heap.size wo w7 := (HBT.out.alloc hbts _).grown hgrow7 (by first | (simp; done) | (simp; omega)) (fun j e => (HOT.out.lt j e).1)
          go_roundw
          case rel => exact ⟨k + 1, by omega, by go_num, by show World.ownsRow _ _ _ _ _ _ _; rw [HF1.out]; simpa [← HFN.out, vals, idxI] using hown7, hb7⟩
          case measure => simp [intOf]; omega
        · have hke : k = n := by omega
          have hfin := hown.out
          rw [hke, HN.out, List.take_length] at hfin
          have HFIN := Lib.hid hfin
          have HBW := Lib.hid (hbr.out.trans (hbo.out.mono hbr.out.size))
          clear hfin hown hke
          go_wp2_with fail
          go_ret
          exact ⟨_, rfl, own_mono HFIN.out (Nat.le_of_lt hsz), HBW.out⟩
end Go.Proofs.YtgadfmknjpanpaaDoor
