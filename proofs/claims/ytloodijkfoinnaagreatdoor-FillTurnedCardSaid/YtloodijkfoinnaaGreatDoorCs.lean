/-
  tile.changes; tile.changeSet; Mirror, Upturn, Turn.
-/
import Derived.Test.YtloodijkfoinnaaGreatDoorTw
import Derived.Laws.EntriesVeiled
namespace Go.Proofs.YtloodijkfoinnaaGreatDoor
open Go.RowKit Go.Maps
set_option linter.unusedVariables false
set_option maxRecDepth 100000


theorem mir_fn (t : Tl) (w : World) : Calls Tryz.prog 46 #[.agg #[.int .i64 t.n, .int .i64 t.e, .int .i64 t.s, .int .i64 t.w]] w fun e w' => e = .returned (.agg #[.int .i64 (mirT t).n, .int .i64 (mirT t).e, .int .i64 (mirT t).s, .int .i64 (mirT t).w]) ∧ Below w.heap.size w w' := by
  go_enter Tryz.func46, Tryz.ntmps46
  go_wp2
  refine bodyPost_ret (v := .agg #[.int .i64 (mirT t).n, .int .i64 (mirT t).e, .int .i64 (mirT t).s, .int .i64 (mirT t).w]) (by simp [results, Tryz.results46, go_sem, mirT]) rfl ?_
  exact ⟨rfl, ((Below.refl _ _).alloc (Nat.le_refl _) _).alloc (by simp) _⟩

theorem up_fn (t : Tl) (w : World) : Calls Tryz.prog 49 #[.agg #[.int .i64 t.n, .int .i64 t.e, .int .i64 t.s, .int .i64 t.w]] w fun e w' => e = .returned (.agg #[.int .i64 (upT t).n, .int .i64 (upT t).e, .int .i64 (upT t).s, .int .i64 (upT t).w]) ∧ Below w.heap.size w w' := by
  go_enter Tryz.func49, Tryz.ntmps49
  go_wp2
  refine bodyPost_ret (v := .agg #[.int .i64 (upT t).n, .int .i64 (upT t).e, .int .i64 (upT t).s, .int .i64 (upT t).w]) (by simp [results, Tryz.results49, go_sem, upT]) rfl ?_
  exact ⟨rfl, ((Below.refl _ _).alloc (Nat.le_refl _) _).alloc (by simp) _⟩

theorem tur_fn (t : Tl) (w : World) : Calls Tryz.prog 52 #[.agg #[.int .i64 t.n, .int .i64 t.e, .int .i64 t.s, .int .i64 t.w]] w fun e w' => e = .returned (.agg #[.int .i64 (turT t).n, .int .i64 (turT t).e, .int .i64 (turT t).s, .int .i64 (turT t).w]) ∧ Below w.heap.size w w' := by
  go_enter Tryz.func52, Tryz.ntmps52
  go_wp2
  refine bodyPost_ret (v := .agg #[.int .i64 (turT t).n, .int .i64 (turT t).e, .int .i64 (turT t).s, .int .i64 (turT t).w]) (by simp [results, Tryz.results52, go_sem, turT]) rfl ?_
  exact ⟨rfl, ((Below.refl _ _).alloc (Nat.le_refl _) _).alloc (by simp) _⟩

def chV : Value := .agg #[.func (.func 46) #[] #[], .func (.func 47) #[] #[], .func (.func 48) #[] #[], .func (.func 49) #[] #[], .func (.func 50) #[] #[], .func (.func 51) #[] #[], .func (.func 52) #[] #[], .func (.func 53) #[] #[], .func (.func 54) #[] #[]]
theorem changes_any (w : World) : Calls Tryz.prog 36 #[] w fun e w' => e = .returned chV ∧ Below w.heap.size w w' := by
  go_enter Tryz.func36, Tryz.ntmps36
  go_wp2
  refine bodyPost_ret (v := chV) (by simp [results, Tryz.results36, go_sem, chV]) rfl ?_
  exact ⟨rfl, (Below.refl _ _).alloc (Nat.le_refl _) _⟩

/-- a row of tiles at block b, by a function -/
def TIn (w : World) (b : Nat) (m : Nat) (f : Nat → Tl) : Prop := ∀ i, i < m → ∀ j, j < 4 → w.cell? ⟨b, i * 4 + j, none⟩ = (tc (f i))[j]?
def fAt (s : List Tl) (g : Tl → Tl) (k i : Nat) : Tl := if i < k then g (s.getD i ⟨0, 0, 0, 0⟩) else ⟨0, 0, 0, 0⟩
theorem TIn.keep {w w' : World} {b m : Nat} {f : Nat → Tl} (h : TIn w b m f) (hb : Below w.heap.size w w') (hlt : b < w.heap.size) : TIn w' b m f := fun i hi j hj => (hb.cell (p := ⟨b, i * 4 + j, none⟩) hlt).trans (h i hi j hj)
theorem TIn.step {w : World} {b m : Nat} {s : List Tl} {g : Tl → Tl} {k : Nat} (h : TIn w b m (fAt s g k)) (hk : k < m) (t : Tl) (ht : t = g (s.getD k ⟨0, 0, 0, 0⟩)) :
    TIn ((((w.setCell ⟨b, k * 4, none⟩ (.int .i64 t.n)).setCell ⟨b, k * 4 + 1, none⟩ (.int .i64 t.e)).setCell ⟨b, k * 4 + 2, none⟩ (.int .i64 t.s)).setCell ⟨b, k * 4 + 3, none⟩ (.int .i64 t.w)) b m (fAt s g (k + 1)) := fun i hi j hj => by
  have ne : ∀ x y : Nat, x ≠ y → (⟨b, x, none⟩ : Addr) ≠ ⟨b, y, none⟩ := fun x y h e => h (by injection e)
  by_cases e : i = k
  · subst e
    have e0 : fAt s g (i + 1) i = t := by rw [ht]; simp [fAt]
    rw [e0]
    have c0 := h i hi 0 (by omega)
    have c1 := h i hi 1 (by omega)
    have c2 := h i hi 2 (by omega)
    have c3 := h i hi 3 (by omega)
    match j, hj with
    | 0, _ => rw [World.cell?_setCell_other _ _ _ _ (ne _ _ (by omega)), World.cell?_setCell_other _ _ _ _ (ne _ _ (by omega)), World.cell?_setCell_other _ _ _ _ (ne _ _ (by omega))]; exact World.cell?_setCell_same _ _ _ c0
    | 1, _ => rw [World.cell?_setCell_other _ _ _ _ (ne _ _ (by omega)), World.cell?_setCell_other _ _ _ _ (ne _ _ (by omega))]; exact World.cell?_setCell_same _ _ _ ((World.cell?_setCell_other _ _ _ _ (ne _ _ (by omega))).trans c1)
    | 2, _ => rw [World.cell?_setCell_other _ _ _ _ (ne _ _ (by omega))]; exact World.cell?_setCell_same _ _ _ ((World.cell?_setCell_other _ _ _ _ (ne _ _ (by omega))).trans ((World.cell?_setCell_other _ _ _ _ (ne _ _ (by omega))).trans c2))
    | 3, _ => exact World.cell?_setCell_same _ _ _ ((World.cell?_setCell_other _ _ _ _ (ne _ _ (by omega))).trans ((World.cell?_setCell_other _ _ _ _ (ne _ _ (by omega))).trans ((World.cell?_setCell_other _ _ _ _ (ne _ _ (by omega))).trans c3)))
  · have e0 : fAt s g (k + 1) i = fAt s g k i := by
      have : (i < k + 1) = (i < k) := by apply propext; omega
      simp [fAt, this]
    rw [e0, World.cell?_setCell_other _ _ _ _ (ne _ _ (by omega)), World.cell?_setCell_other _ _ _ _ (ne _ _ (by omega)), World.cell?_setCell_other _ _ _ _ (ne _ _ (by omega)), World.cell?_setCell_other _ _ _ _ (ne _ _ (by omega))]
    exact h i hi j hj
theorem TIn.set {w : World} {b lo : Nat} {s : List Tl} {g : Tl → Tl} (h : TIn w b s.length (fAt s g s.length)) (hlo : lo ≤ b) (hlt : b < w.heap.size) : SetNew w lo (some ⟨b, 0, none⟩) (s.map g) := fun hn => by
  refine ⟨b, 0, rfl, hlo, hlt, fun i hi => ?_⟩
  rw [List.length_map] at hi
  have e : (s.map g).getD i ⟨0, 0, 0, 0⟩ = fAt s g s.length i := by
    unfold fAt
    rw [if_pos hi, List.getD_eq_getElem?_getD, List.getD_eq_getElem?_getD, List.getElem?_map, List.getElem?_eq_getElem hi]
    rfl
  rw [e]
  have at' : ∀ j, j < 4 → w.cell? ⟨b, 0 + i * 4 + j, none⟩ = (tc (fAt s g s.length i))[j]? := fun j hj => by rw [Nat.zero_add]; exact h i hi j hj
  exact ⟨at' 0 (by omega), at' 1 (by omega), at' 2 (by omega), at' 3 (by omega)⟩
theorem own_tiles {w : World} {base n b c : Nat} {e : TypeId} {xs : List Value} (h : w.ownsRow base e 4 (.slice (some ⟨b, 0, none⟩) n c) n xs) : b < w.heap.size ∧ (∀ i, i < n * 4 → w.cell? ⟨b, i, none⟩ = xs[i]?) ∧ ∀ o, w.frozen? ⟨b, o, none⟩ = false := by
  rcases h.2 with ⟨h0, _⟩ | ⟨g, cap, cur, hv, hb, hh, hnc, hm, hs, hx⟩
  · simp at h0
  · have hg : b = g := by simp at hv; exact hv.1
    subst hg
    refine ⟨(Array.getElem?_eq_some_iff.1 hh).1, fun i hi => h.cellAt i (by omega), fun o => ?_⟩
    simp [World.frozen?, hh]
theorem made4_at (n i : Nat) (hi : i < n * 4) : (madeCells #[.int .i64 0, .int .i64 0, .int .i64 0, .int .i64 0] (n * 4)).toList[i]? = some (.int .i64 0) := by
  have h : ∀ x, x < 4 → (#[Value.int .i64 0, .int .i64 0, .int .i64 0, .int .i64 0] : Array Value)[x]! = .int .i64 0 := fun x hx => by
    match x, hx with
    | 0, _ => rfl
    | 1, _ => rfl
    | 2, _ => rfl
    | 3, _ => rfl
  rw [Array.getElem?_toList]
  unfold madeCells
  rw [Array.getElem?_map, Array.getElem?_eq_getElem (by simpa using hi), Array.getElem_range, Option.map_some]
  exact congrArg some (h _ (Nat.mod_lt _ (by decide)))
def IsSet (s' : List Tl) (W : World) (e : Ending) (w' : World) : Prop := Below W.heap.size W w' ∧ ∃ A c, e = .returned (.tuple #[.slice A s'.length c, .int .i64 0]) ∧ s'.length ≤ c ∧ c ≤ maxLen ∧ SetNew w' W.heap.size A s'
def IsNoSet (W : World) (e : Ending) (w' : World) : Prop := Below W.heap.size W w' ∧ e = .returned (.tuple #[.slice none 0 0, .int .i64 1])

theorem cs_mir_bad (s : List Tl) (A : Option Addr) (m c : Nat) (w : World) (hm : m = s.length) (hs : SetIn w w.heap.size A s) (hwf : ∀ t ∈ s, twf t) (hl : m ≤ 9223372036854775807) (hv : vld s = false) :
    Calls Tryz.prog 22 #[.slice A m c, .int .i64 0] w (IsNoSet w) := by
  have hval := valid_any s A c w hs hwf (by omega)
  rw [← hm, hv] at hval
  clear hm hv hs hwf
  go_enter Tryz.func22, Tryz.ntmps22
  go_wp2_with (go_at_call 29; refine hval.mono ?_; rintro e w3 ⟨rfl, hb3⟩)
  refine bodyPost_ret (v := .tuple #[.slice none 0 0, .int .i64 1]) (by simp [results, Tryz.results22, go_sem]) rfl ?_
  exact ⟨hb3, rfl⟩
set_option maxHeartbeats 4000000 in
theorem cs_mir_ok (s : List Tl) (A : Option Addr) (m c : Nat) (w : World) (hm : m = s.length) (hs : SetIn w w.heap.size A s) (hwf : ∀ t ∈ s, twf t) (hv : vld s = true) :
    Calls Tryz.prog 22 #[.slice A m c, .int .i64 0] w (IsSet (s.map mirT) w) := by
  have hn1 : m ≤ 1000 := by rw [hm]; exact (vld_iff.1 hv).1
  have hval := valid_any s A c w hs hwf (by omega)
  rw [← hm, hv] at hval
  have HM := Lib.hid hm
  have HS := Lib.hid hs
  obtain ⟨i0, hi, hz0, hz1, hz2⟩ := info_parts tile_info
  have hby : i0.bytes * m ≤ 281474976710656 := by rw [hz2]; omega
  clear hm hv hs hwf
  have hch := fun (W : World) => changes_any W
  have hix : ∀ W : World, (Instr.index 74 chV (.int .i64 0)).run Tryz.prog W = .ok (.agg #[.func (.func 46) #[] #[], .func (.func 47) #[] #[], .func (.func 48) #[] #[]]) W := fun W => by kernel_rfl
  simp only [chV] at hch hix
  go_enter Tryz.func22, Tryz.ntmps22
  go_wp2_with first | (go_at_call 29; refine hval.mono ?_; rintro e w1 ⟨rfl, hb1⟩) | (go_at_call 36; refine (hch _).mono ?_; rintro e w2 ⟨rfl, hb2⟩; have hs2 := hb2.size) | (at_make; refine wpList_make_full _ rfl _ _ 22 rfl (w2.heap.size + 1) 59 i0 (.agg #[.int .i64 0, .int .i64 0, .int .i64 0, .int .i64 0]) 4 Tryz.underlying22 hi hz0 hz1 .i64 .i64 _ _ m rfl rfl rfl rfl hby (by simp only [maxLen]; omega) (by simp) ?_; intro w4 hown4 hgrow4)
  obtain ⟨hlt4, hcw4, hfz4⟩ := own_tiles hown4
  have hb4 : Below (w2.heap.size + 1) (w2.alloc (.cells #[.func (.func 46) #[] #[], .func (.func 47) #[] #[], .func (.func 48) #[] #[]] 73)) w4 := ⟨hgrow4.os, hgrow4.tape, hgrow4.output, hgrow4.size, fun k hk => hgrow4.block k (by simpa using hk) (by simp)⟩
  have g0 : w4.cell? ⟨w2.heap.size, 0, none⟩ = some (.func (.func 46) #[] #[]) := (hb4.cell (p := ⟨w2.heap.size, 0, none⟩) (by show w2.heap.size < _; omega)).trans (by simp)
  have hw0 : Hid (TIn w4 (w2.heap.size + 1) m (fAt s mirT 0)) := fun x hx j hj => by
    rw [show w2.heap.size + 1 = (w2.alloc (.cells #[.func (.func 46) #[] #[], .func (.func 47) #[] #[], .func (.func 48) #[] #[]] 73)).heap.size by simp, hcw4 _ (by omega)]
    have e : fAt s mirT 0 x = ⟨0, 0, 0, 0⟩ := by simp [fAt]
    rw [e]
    refine (made4_at m _ (by omega)).trans ?_
    match j, hj with
    | 0, _ => rfl
    | 1, _ => rfl
    | 2, _ => rfl
    | 3, _ => rfl
  have hlt4' : w2.heap.size + 1 < w4.heap.size := by simpa using hlt4
  have hfz4' : Hid (∀ o, w4.frozen? ⟨w2.heap.size + 1, o, none⟩ = false) := fun o => by simpa using hfz4 o
  have hb12 : Below w.heap.size w w2 := hb1.trans (hb2.mono hb1.size)
  have hsz2 := hb12.size
  have hb14 : Below w.heap.size w w4 := (hb12.alloc hb12.size _).trans (hb4.mono (by omega))
  have HG0 := Lib.hid g0
  clear hown4 hgrow4 hcw4 hfz4 hlt4 hb4 g0
  go_loopw [21] (fun i wr => ∃ k : Nat, k ≤ m ∧ i = .int .i64 k ∧ Hid (TIn wr (w2.heap.size + 1) m (fAt s mirT k)) ∧ Hid (∀ o, wr.frozen? ⟨w2.heap.size + 1, o, none⟩ = false) ∧ w2.heap.size + 1 < wr.heap.size ∧ Below (w2.heap.size + 1) w4 wr) (fun i _ => m - (intOf i).toNat)
  case atStart => exact ⟨0, Nat.zero_le _, rfl, hw0, hfz4', hlt4', Below.refl _ _⟩
  case round =>
    clear hw0 hfz4' hlt4'
    obtain ⟨k, hk, rfl, htn, hfz, hsr, hbr⟩ := hrel
    have hbw : Below w.heap.size w wr := hb14.trans (hbr.mono (by omega))
    by_cases hlt : k < m
    · have hkc : k < s.length := by rw [← HM.out]; exact hlt
      obtain ⟨bk, off, rfl, hbk, d0, d1, d2, d3⟩ := set_at HS.out hbw hkc
      obtain ⟨t, ht⟩ : ∃ t, t = s.getD k ⟨0, 0, 0, 0⟩ := ⟨_, rfl⟩
      have hstep := fun (W : World) (hW : TIn W (w2.heap.size + 1) m (fAt s mirT k)) => hW.step hlt (mirT t) (by rw [ht])
      rw [← ht] at d0 d1 d2 d3
      have HST := Lib.hid hstep
      have hbs : bk < wr.heap.size := Nat.lt_of_lt_of_le hbk hbw.size
      have g0 := (hbr.cell (p := ⟨w2.heap.size, 0, none⟩) (by show w2.heap.size < _; omega)).trans HG0.out
      have hs2r : w2.heap.size < wr.heap.size := by omega
      have hfn := fun (W : World) => mir_fn t W
      obtain ⟨u, hu⟩ : ∃ u, u = mirT t := ⟨_, rfl⟩
      rw [← hu] at hfn HST
      clear hkc ht hstep hu
      go_wp2_with (go_at_call 46; refine (hfn _).mono ?_; rintro e w5 ⟨rfl, hb5⟩; have hs5 := hb5.size; simp at hs5; have hb45 : Below wr.heap.size wr w5 := ((Below.refl _ _).alloc (Nat.le_refl _) _).trans (hb5.mono (by simp)); have a0 := (hb45.cell (p := ⟨w2.heap.size + 1, k * 4 + 0, none⟩) hsr).trans (htn.out k hlt 0 (by omega)); have a1 := (hb45.cell (p := ⟨w2.heap.size + 1, k * 4 + 1, none⟩) hsr).trans (htn.out k hlt 1 (by omega)); have a2 := (hb45.cell (p := ⟨w2.heap.size + 1, k * 4 + 2, none⟩) hsr).trans (htn.out k hlt 2 (by omega)); have a3 := (hb45.cell (p := ⟨w2.heap.size + 1, k * 4 + 3, none⟩) hsr).trans (htn.out k hlt 3 (by omega)); simp only [tc, List.getElem?_cons_zero, List.getElem?_cons_succ, Nat.add_zero] at a0 a1 a2 a3; have az : ∀ o, w5.frozen? ⟨w2.heap.size + 1, o, none⟩ = false := fun o => (hb45.frozen (p := ⟨w2.heap.size + 1, o, none⟩) hsr).trans (hfz.out o))
      go_roundw
      case rel =>
        refine ⟨k + 1, by omega, by go_num, HST.out _ (htn.out.keep hb45 hsr), ?_, ?_, ?_⟩
        · exact fun o => by
            rw [World.frozen?_setCell, World.frozen?_setCell, World.frozen?_setCell, World.frozen?_setCell]
            exact az o
        · exact Nat.lt_of_lt_of_le hsr (by simpa [World.setCell] using hb45.size)
        · exact ((((hbr.trans (hb45.mono (Nat.le_of_lt hsr))).setCell (Nat.le_refl _) _).setCell (Nat.le_refl _) _).setCell (Nat.le_refl _) _).setCell (Nat.le_refl _) _
      case measure => simp [intOf]; omega
    · have e : k = m := by omega
      subst e
      have hset : SetNew wr w.heap.size (some ⟨w2.heap.size + 1, 0, none⟩) (s.map mirT) := by
        have h := htn.out
        rw [HM.out] at h
        exact h.set (by omega) hsr
      have HL : Hid (k = (s.map mirT).length) := by show _ = _; rw [List.length_map]; exact HM.out
      clear htn hfz
      go_wp2
      refine bodyPost_ret (v := .tuple #[.slice (some ⟨w2.heap.size + 1, 0, none⟩) k k, .int .i64 0]) (by simp [results, Tryz.results22, go_sem]) rfl ?_
      exact ⟨hbw, _, k, by rw [← HL.out], by rw [← HL.out]; exact Nat.le_refl _, by simp only [maxLen]; omega, hset⟩

theorem mir_bad (s : List Tl) (A : Option Addr) (m c : Nat) (w : World) (hm : m = s.length) (hs : SetIn w w.heap.size A s) (hwf : ∀ t ∈ s, twf t) (hl : m ≤ 9223372036854775807) (hv : vld s = false) :
    Calls Tryz.prog 7 #[.slice A m c] w (IsNoSet w) := by
  have hc := cs_mir_bad s A m c w hm hs hwf hl hv
  clear hm hs hwf hv
  go_enter Tryz.func7, Tryz.ntmps7
  go_wp2_with (go_at_call 22; refine hc.mono ?_; rintro e w3 ⟨hb3, rfl⟩)
  refine bodyPost_ret (v := .tuple #[.slice none 0 0, .int .i64 1]) (by simp [results, Tryz.results7, go_sem]) rfl ?_
  exact ⟨hb3, rfl⟩
theorem mirS_ok (s : List Tl) (A : Option Addr) (m c : Nat) (w : World) (hm : m = s.length) (hs : SetIn w w.heap.size A s) (hwf : ∀ t ∈ s, twf t) (hv : vld s = true) :
    Calls Tryz.prog 7 #[.slice A m c] w (IsSet (s.map mirT) w) := by
  have hc := cs_mir_ok s A m c w hm hs hwf hv
  clear hm hs hwf hv
  go_enter Tryz.func7, Tryz.ntmps7
  go_wp2_with (go_at_call 22; refine hc.mono ?_; rintro e w3 ⟨hb3, B, d, rfl, hd1, hd2, hd3⟩)
  refine bodyPost_ret (v := .tuple #[.slice B (s.map mirT).length d, .int .i64 0]) (by simp [results, Tryz.results7, go_sem]) rfl ?_
  exact ⟨hb3, B, d, rfl, hd1, hd2, hd3⟩

theorem cs_up_bad (s : List Tl) (A : Option Addr) (m c : Nat) (w : World) (hm : m = s.length) (hs : SetIn w w.heap.size A s) (hwf : ∀ t ∈ s, twf t) (hl : m ≤ 9223372036854775807) (hv : vld s = false) :
    Calls Tryz.prog 22 #[.slice A m c, .int .i64 1] w (IsNoSet w) := by
  have hval := valid_any s A c w hs hwf (by omega)
  rw [← hm, hv] at hval
  clear hm hv hs hwf
  go_enter Tryz.func22, Tryz.ntmps22
  go_wp2_with (go_at_call 29; refine hval.mono ?_; rintro e w3 ⟨rfl, hb3⟩)
  refine bodyPost_ret (v := .tuple #[.slice none 0 0, .int .i64 1]) (by simp [results, Tryz.results22, go_sem]) rfl ?_
  exact ⟨hb3, rfl⟩
set_option maxHeartbeats 4000000 in
theorem cs_up_ok (s : List Tl) (A : Option Addr) (m c : Nat) (w : World) (hm : m = s.length) (hs : SetIn w w.heap.size A s) (hwf : ∀ t ∈ s, twf t) (hv : vld s = true) :
    Calls Tryz.prog 22 #[.slice A m c, .int .i64 1] w (IsSet (s.map upT) w) := by
  have hn1 : m ≤ 1000 := by rw [hm]; exact (vld_iff.1 hv).1
  have hval := valid_any s A c w hs hwf (by omega)
  rw [← hm, hv] at hval
  have HM := Lib.hid hm
  have HS := Lib.hid hs
  obtain ⟨i0, hi, hz0, hz1, hz2⟩ := info_parts tile_info
  have hby : i0.bytes * m ≤ 281474976710656 := by rw [hz2]; omega
  clear hm hv hs hwf
  have hch := fun (W : World) => changes_any W
  have hix : ∀ W : World, (Instr.index 74 chV (.int .i64 1)).run Tryz.prog W = .ok (.agg #[.func (.func 49) #[] #[], .func (.func 50) #[] #[], .func (.func 51) #[] #[]]) W := fun W => by kernel_rfl
  simp only [chV] at hch hix
  go_enter Tryz.func22, Tryz.ntmps22
  go_wp2_with first | (go_at_call 29; refine hval.mono ?_; rintro e w1 ⟨rfl, hb1⟩) | (go_at_call 36; refine (hch _).mono ?_; rintro e w2 ⟨rfl, hb2⟩; have hs2 := hb2.size) | (at_make; refine wpList_make_full _ rfl _ _ 22 rfl (w2.heap.size + 1) 59 i0 (.agg #[.int .i64 0, .int .i64 0, .int .i64 0, .int .i64 0]) 4 Tryz.underlying22 hi hz0 hz1 .i64 .i64 _ _ m rfl rfl rfl rfl hby (by simp only [maxLen]; omega) (by simp) ?_; intro w4 hown4 hgrow4)
  obtain ⟨hlt4, hcw4, hfz4⟩ := own_tiles hown4
  have hb4 : Below (w2.heap.size + 1) (w2.alloc (.cells #[.func (.func 49) #[] #[], .func (.func 50) #[] #[], .func (.func 51) #[] #[]] 73)) w4 := ⟨hgrow4.os, hgrow4.tape, hgrow4.output, hgrow4.size, fun k hk => hgrow4.block k (by simpa using hk) (by simp)⟩
  have g0 : w4.cell? ⟨w2.heap.size, 0, none⟩ = some (.func (.func 49) #[] #[]) := (hb4.cell (p := ⟨w2.heap.size, 0, none⟩) (by show w2.heap.size < _; omega)).trans (by simp)
  have hw0 : Hid (TIn w4 (w2.heap.size + 1) m (fAt s upT 0)) := fun x hx j hj => by
    rw [show w2.heap.size + 1 = (w2.alloc (.cells #[.func (.func 49) #[] #[], .func (.func 50) #[] #[], .func (.func 51) #[] #[]] 73)).heap.size by simp, hcw4 _ (by omega)]
    have e : fAt s upT 0 x = ⟨0, 0, 0, 0⟩ := by simp [fAt]
    rw [e]
    refine (made4_at m _ (by omega)).trans ?_
    match j, hj with
    | 0, _ => rfl
    | 1, _ => rfl
    | 2, _ => rfl
    | 3, _ => rfl
  have hlt4' : w2.heap.size + 1 < w4.heap.size := by simpa using hlt4
  have hfz4' : Hid (∀ o, w4.frozen? ⟨w2.heap.size + 1, o, none⟩ = false) := fun o => by simpa using hfz4 o
  have hb12 : Below w.heap.size w w2 := hb1.trans (hb2.mono hb1.size)
  have hsz2 := hb12.size
  have hb14 : Below w.heap.size w w4 := (hb12.alloc hb12.size _).trans (hb4.mono (by omega))
  have HG0 := Lib.hid g0
  clear hown4 hgrow4 hcw4 hfz4 hlt4 hb4 g0
  go_loopw [21] (fun i wr => ∃ k : Nat, k ≤ m ∧ i = .int .i64 k ∧ Hid (TIn wr (w2.heap.size + 1) m (fAt s upT k)) ∧ Hid (∀ o, wr.frozen? ⟨w2.heap.size + 1, o, none⟩ = false) ∧ w2.heap.size + 1 < wr.heap.size ∧ Below (w2.heap.size + 1) w4 wr) (fun i _ => m - (intOf i).toNat)
  case atStart => exact ⟨0, Nat.zero_le _, rfl, hw0, hfz4', hlt4', Below.refl _ _⟩
  case round =>
    clear hw0 hfz4' hlt4'
    obtain ⟨k, hk, rfl, htn, hfz, hsr, hbr⟩ := hrel
    have hbw : Below w.heap.size w wr := hb14.trans (hbr.mono (by omega))
    by_cases hlt : k < m
    · have hkc : k < s.length := by rw [← HM.out]; exact hlt
      obtain ⟨bk, off, rfl, hbk, d0, d1, d2, d3⟩ := set_at HS.out hbw hkc
      obtain ⟨t, ht⟩ : ∃ t, t = s.getD k ⟨0, 0, 0, 0⟩ := ⟨_, rfl⟩
      have hstep := fun (W : World) (hW : TIn W (w2.heap.size + 1) m (fAt s upT k)) => hW.step hlt (upT t) (by rw [ht])
      rw [← ht] at d0 d1 d2 d3
      have HST := Lib.hid hstep
      have hbs : bk < wr.heap.size := Nat.lt_of_lt_of_le hbk hbw.size
      have g0 := (hbr.cell (p := ⟨w2.heap.size, 0, none⟩) (by show w2.heap.size < _; omega)).trans HG0.out
      have hs2r : w2.heap.size < wr.heap.size := by omega
      have hfn := fun (W : World) => up_fn t W
      obtain ⟨u, hu⟩ : ∃ u, u = upT t := ⟨_, rfl⟩
      rw [← hu] at hfn HST
      clear hkc ht hstep hu
      go_wp2_with (go_at_call 49; refine (hfn _).mono ?_; rintro e w5 ⟨rfl, hb5⟩; have hs5 := hb5.size; simp at hs5; have hb45 : Below wr.heap.size wr w5 := ((Below.refl _ _).alloc (Nat.le_refl _) _).trans (hb5.mono (by simp)); have a0 := (hb45.cell (p := ⟨w2.heap.size + 1, k * 4 + 0, none⟩) hsr).trans (htn.out k hlt 0 (by omega)); have a1 := (hb45.cell (p := ⟨w2.heap.size + 1, k * 4 + 1, none⟩) hsr).trans (htn.out k hlt 1 (by omega)); have a2 := (hb45.cell (p := ⟨w2.heap.size + 1, k * 4 + 2, none⟩) hsr).trans (htn.out k hlt 2 (by omega)); have a3 := (hb45.cell (p := ⟨w2.heap.size + 1, k * 4 + 3, none⟩) hsr).trans (htn.out k hlt 3 (by omega)); simp only [tc, List.getElem?_cons_zero, List.getElem?_cons_succ, Nat.add_zero] at a0 a1 a2 a3; have az : ∀ o, w5.frozen? ⟨w2.heap.size + 1, o, none⟩ = false := fun o => (hb45.frozen (p := ⟨w2.heap.size + 1, o, none⟩) hsr).trans (hfz.out o))
      go_roundw
      case rel =>
        refine ⟨k + 1, by omega, by go_num, HST.out _ (htn.out.keep hb45 hsr), ?_, ?_, ?_⟩
        · exact fun o => by
            rw [World.frozen?_setCell, World.frozen?_setCell, World.frozen?_setCell, World.frozen?_setCell]
            exact az o
        · exact Nat.lt_of_lt_of_le hsr (by simpa [World.setCell] using hb45.size)
        · exact ((((hbr.trans (hb45.mono (Nat.le_of_lt hsr))).setCell (Nat.le_refl _) _).setCell (Nat.le_refl _) _).setCell (Nat.le_refl _) _).setCell (Nat.le_refl _) _
      case measure => simp [intOf]; omega
    · have e : k = m := by omega
      subst e
      have hset : SetNew wr w.heap.size (some ⟨w2.heap.size + 1, 0, none⟩) (s.map upT) := by
        have h := htn.out
        rw [HM.out] at h
        exact h.set (by omega) hsr
      have HL : Hid (k = (s.map upT).length) := by show _ = _; rw [List.length_map]; exact HM.out
      clear htn hfz
      go_wp2
      refine bodyPost_ret (v := .tuple #[.slice (some ⟨w2.heap.size + 1, 0, none⟩) k k, .int .i64 0]) (by simp [results, Tryz.results22, go_sem]) rfl ?_
      exact ⟨hbw, _, k, by rw [← HL.out], by rw [← HL.out]; exact Nat.le_refl _, by simp only [maxLen]; omega, hset⟩

theorem up_bad (s : List Tl) (A : Option Addr) (m c : Nat) (w : World) (hm : m = s.length) (hs : SetIn w w.heap.size A s) (hwf : ∀ t ∈ s, twf t) (hl : m ≤ 9223372036854775807) (hv : vld s = false) :
    Calls Tryz.prog 8 #[.slice A m c] w (IsNoSet w) := by
  have hc := cs_up_bad s A m c w hm hs hwf hl hv
  clear hm hs hwf hv
  go_enter Tryz.func8, Tryz.ntmps8
  go_wp2_with (go_at_call 22; refine hc.mono ?_; rintro e w3 ⟨hb3, rfl⟩)
  refine bodyPost_ret (v := .tuple #[.slice none 0 0, .int .i64 1]) (by simp [results, Tryz.results8, go_sem]) rfl ?_
  exact ⟨hb3, rfl⟩
theorem upS_ok (s : List Tl) (A : Option Addr) (m c : Nat) (w : World) (hm : m = s.length) (hs : SetIn w w.heap.size A s) (hwf : ∀ t ∈ s, twf t) (hv : vld s = true) :
    Calls Tryz.prog 8 #[.slice A m c] w (IsSet (s.map upT) w) := by
  have hc := cs_up_ok s A m c w hm hs hwf hv
  clear hm hs hwf hv
  go_enter Tryz.func8, Tryz.ntmps8
  go_wp2_with (go_at_call 22; refine hc.mono ?_; rintro e w3 ⟨hb3, B, d, rfl, hd1, hd2, hd3⟩)
  refine bodyPost_ret (v := .tuple #[.slice B (s.map upT).length d, .int .i64 0]) (by simp [results, Tryz.results8, go_sem]) rfl ?_
  exact ⟨hb3, B, d, rfl, hd1, hd2, hd3⟩

theorem cs_tur_bad (s : List Tl) (A : Option Addr) (m c : Nat) (w : World) (hm : m = s.length) (hs : SetIn w w.heap.size A s) (hwf : ∀ t ∈ s, twf t) (hl : m ≤ 9223372036854775807) (hv : vld s = false) :
    Calls Tryz.prog 22 #[.slice A m c, .int .i64 2] w (IsNoSet w) := by
  have hval := valid_any s A c w hs hwf (by omega)
  rw [← hm, hv] at hval
  clear hm hv hs hwf
  go_enter Tryz.func22, Tryz.ntmps22
  go_wp2_with (go_at_call 29; refine hval.mono ?_; rintro e w3 ⟨rfl, hb3⟩)
  refine bodyPost_ret (v := .tuple #[.slice none 0 0, .int .i64 1]) (by simp [results, Tryz.results22, go_sem]) rfl ?_
  exact ⟨hb3, rfl⟩
set_option maxHeartbeats 4000000 in
theorem cs_tur_ok (s : List Tl) (A : Option Addr) (m c : Nat) (w : World) (hm : m = s.length) (hs : SetIn w w.heap.size A s) (hwf : ∀ t ∈ s, twf t) (hv : vld s = true) :
    Calls Tryz.prog 22 #[.slice A m c, .int .i64 2] w (IsSet (s.map turT) w) := by
  have hn1 : m ≤ 1000 := by rw [hm]; exact (vld_iff.1 hv).1
  have hval := valid_any s A c w hs hwf (by omega)
  rw [← hm, hv] at hval
  have HM := Lib.hid hm
  have HS := Lib.hid hs
  obtain ⟨i0, hi, hz0, hz1, hz2⟩ := info_parts tile_info
  have hby : i0.bytes * m ≤ 281474976710656 := by rw [hz2]; omega
  clear hm hv hs hwf
  have hch := fun (W : World) => changes_any W
  have hix : ∀ W : World, (Instr.index 74 chV (.int .i64 2)).run Tryz.prog W = .ok (.agg #[.func (.func 52) #[] #[], .func (.func 53) #[] #[], .func (.func 54) #[] #[]]) W := fun W => by kernel_rfl
  simp only [chV] at hch hix
  go_enter Tryz.func22, Tryz.ntmps22
  go_wp2_with first | (go_at_call 29; refine hval.mono ?_; rintro e w1 ⟨rfl, hb1⟩) | (go_at_call 36; refine (hch _).mono ?_; rintro e w2 ⟨rfl, hb2⟩; have hs2 := hb2.size) | (at_make; refine wpList_make_full _ rfl _ _ 22 rfl (w2.heap.size + 1) 59 i0 (.agg #[.int .i64 0, .int .i64 0, .int .i64 0, .int .i64 0]) 4 Tryz.underlying22 hi hz0 hz1 .i64 .i64 _ _ m rfl rfl rfl rfl hby (by simp only [maxLen]; omega) (by simp) ?_; intro w4 hown4 hgrow4)
  obtain ⟨hlt4, hcw4, hfz4⟩ := own_tiles hown4
  have hb4 : Below (w2.heap.size + 1) (w2.alloc (.cells #[.func (.func 52) #[] #[], .func (.func 53) #[] #[], .func (.func 54) #[] #[]] 73)) w4 := ⟨hgrow4.os, hgrow4.tape, hgrow4.output, hgrow4.size, fun k hk => hgrow4.block k (by simpa using hk) (by simp)⟩
  have g0 : w4.cell? ⟨w2.heap.size, 0, none⟩ = some (.func (.func 52) #[] #[]) := (hb4.cell (p := ⟨w2.heap.size, 0, none⟩) (by show w2.heap.size < _; omega)).trans (by simp)
  have hw0 : Hid (TIn w4 (w2.heap.size + 1) m (fAt s turT 0)) := fun x hx j hj => by
    rw [show w2.heap.size + 1 = (w2.alloc (.cells #[.func (.func 52) #[] #[], .func (.func 53) #[] #[], .func (.func 54) #[] #[]] 73)).heap.size by simp, hcw4 _ (by omega)]
    have e : fAt s turT 0 x = ⟨0, 0, 0, 0⟩ := by simp [fAt]
    rw [e]
    refine (made4_at m _ (by omega)).trans ?_
    match j, hj with
    | 0, _ => rfl
    | 1, _ => rfl
    | 2, _ => rfl
    | 3, _ => rfl
  have hlt4' : w2.heap.size + 1 < w4.heap.size := by simpa using hlt4
  have hfz4' : Hid (∀ o, w4.frozen? ⟨w2.heap.size + 1, o, none⟩ = false) := fun o => by simpa using hfz4 o
  have hb12 : Below w.heap.size w w2 := hb1.trans (hb2.mono hb1.size)
  have hsz2 := hb12.size
  have hb14 : Below w.heap.size w w4 := (hb12.alloc hb12.size _).trans (hb4.mono (by omega))
  have HG0 := Lib.hid g0
  clear hown4 hgrow4 hcw4 hfz4 hlt4 hb4 g0
  go_loopw [21] (fun i wr => ∃ k : Nat, k ≤ m ∧ i = .int .i64 k ∧ Hid (TIn wr (w2.heap.size + 1) m (fAt s turT k)) ∧ Hid (∀ o, wr.frozen? ⟨w2.heap.size + 1, o, none⟩ = false) ∧ w2.heap.size + 1 < wr.heap.size ∧ Below (w2.heap.size + 1) w4 wr) (fun i _ => m - (intOf i).toNat)
  case atStart => exact ⟨0, Nat.zero_le _, rfl, hw0, hfz4', hlt4', Below.refl _ _⟩
  case round =>
    clear hw0 hfz4' hlt4'
    obtain ⟨k, hk, rfl, htn, hfz, hsr, hbr⟩ := hrel
    have hbw : Below w.heap.size w wr := hb14.trans (hbr.mono (by omega))
    by_cases hlt : k < m
    · have hkc : k < s.length := by rw [← HM.out]; exact hlt
      obtain ⟨bk, off, rfl, hbk, d0, d1, d2, d3⟩ := set_at HS.out hbw hkc
      obtain ⟨t, ht⟩ : ∃ t, t = s.getD k ⟨0, 0, 0, 0⟩ := ⟨_, rfl⟩
      have hstep := fun (W : World) (hW : TIn W (w2.heap.size + 1) m (fAt s turT k)) => hW.step hlt (turT t) (by rw [ht])
      rw [← ht] at d0 d1 d2 d3
      have HST := Lib.hid hstep
      have hbs : bk < wr.heap.size := Nat.lt_of_lt_of_le hbk hbw.size
      have g0 := (hbr.cell (p := ⟨w2.heap.size, 0, none⟩) (by show w2.heap.size < _; omega)).trans HG0.out
      have hs2r : w2.heap.size < wr.heap.size := by omega
      have hfn := fun (W : World) => tur_fn t W
      obtain ⟨u, hu⟩ : ∃ u, u = turT t := ⟨_, rfl⟩
      rw [← hu] at hfn HST
      clear hkc ht hstep hu
      go_wp2_with (go_at_call 52; refine (hfn _).mono ?_; rintro e w5 ⟨rfl, hb5⟩; have hs5 := hb5.size; simp at hs5; have hb45 : Below wr.heap.size wr w5 := ((Below.refl _ _).alloc (Nat.le_refl _) _).trans (hb5.mono (by simp)); have a0 := (hb45.cell (p := ⟨w2.heap.size + 1, k * 4 + 0, none⟩) hsr).trans (htn.out k hlt 0 (by omega)); have a1 := (hb45.cell (p := ⟨w2.heap.size + 1, k * 4 + 1, none⟩) hsr).trans (htn.out k hlt 1 (by omega)); have a2 := (hb45.cell (p := ⟨w2.heap.size + 1, k * 4 + 2, none⟩) hsr).trans (htn.out k hlt 2 (by omega)); have a3 := (hb45.cell (p := ⟨w2.heap.size + 1, k * 4 + 3, none⟩) hsr).trans (htn.out k hlt 3 (by omega)); simp only [tc, List.getElem?_cons_zero, List.getElem?_cons_succ, Nat.add_zero] at a0 a1 a2 a3; have az : ∀ o, w5.frozen? ⟨w2.heap.size + 1, o, none⟩ = false := fun o => (hb45.frozen (p := ⟨w2.heap.size + 1, o, none⟩) hsr).trans (hfz.out o))
      go_roundw
      case rel =>
        refine ⟨k + 1, by omega, by go_num, HST.out _ (htn.out.keep hb45 hsr), ?_, ?_, ?_⟩
        · exact fun o => by
            rw [World.frozen?_setCell, World.frozen?_setCell, World.frozen?_setCell, World.frozen?_setCell]
            exact az o
        · exact Nat.lt_of_lt_of_le hsr (by simpa [World.setCell] using hb45.size)
        · exact ((((hbr.trans (hb45.mono (Nat.le_of_lt hsr))).setCell (Nat.le_refl _) _).setCell (Nat.le_refl _) _).setCell (Nat.le_refl _) _).setCell (Nat.le_refl _) _
      case measure => simp [intOf]; omega
    · have e : k = m := by omega
      subst e
      have hset : SetNew wr w.heap.size (some ⟨w2.heap.size + 1, 0, none⟩) (s.map turT) := by
        have h := htn.out
        rw [HM.out] at h
        exact h.set (by omega) hsr
      have HL : Hid (k = (s.map turT).length) := by show _ = _; rw [List.length_map]; exact HM.out
      clear htn hfz
      go_wp2
      refine bodyPost_ret (v := .tuple #[.slice (some ⟨w2.heap.size + 1, 0, none⟩) k k, .int .i64 0]) (by simp [results, Tryz.results22, go_sem]) rfl ?_
      exact ⟨hbw, _, k, by rw [← HL.out], by rw [← HL.out]; exact Nat.le_refl _, by simp only [maxLen]; omega, hset⟩

theorem tur_bad (s : List Tl) (A : Option Addr) (m c : Nat) (w : World) (hm : m = s.length) (hs : SetIn w w.heap.size A s) (hwf : ∀ t ∈ s, twf t) (hl : m ≤ 9223372036854775807) (hv : vld s = false) :
    Calls Tryz.prog 9 #[.slice A m c] w (IsNoSet w) := by
  have hc := cs_tur_bad s A m c w hm hs hwf hl hv
  clear hm hs hwf hv
  go_enter Tryz.func9, Tryz.ntmps9
  go_wp2_with (go_at_call 22; refine hc.mono ?_; rintro e w3 ⟨hb3, rfl⟩)
  refine bodyPost_ret (v := .tuple #[.slice none 0 0, .int .i64 1]) (by simp [results, Tryz.results9, go_sem]) rfl ?_
  exact ⟨hb3, rfl⟩
theorem turS_ok (s : List Tl) (A : Option Addr) (m c : Nat) (w : World) (hm : m = s.length) (hs : SetIn w w.heap.size A s) (hwf : ∀ t ∈ s, twf t) (hv : vld s = true) :
    Calls Tryz.prog 9 #[.slice A m c] w (IsSet (s.map turT) w) := by
  have hc := cs_tur_ok s A m c w hm hs hwf hv
  clear hm hs hwf hv
  go_enter Tryz.func9, Tryz.ntmps9
  go_wp2_with (go_at_call 22; refine hc.mono ?_; rintro e w3 ⟨hb3, B, d, rfl, hd1, hd2, hd3⟩)
  refine bodyPost_ret (v := .tuple #[.slice B (s.map turT).length d, .int .i64 0]) (by simp [results, Tryz.results9, go_sem]) rfl ?_
  exact ⟨hb3, B, d, rfl, hd1, hd2, hd3⟩

end Go.Proofs.YtloodijkfoinnaaGreatDoor
