/-
  torus.band.first: the first tower of a height.
-/
import Derived.Test.YthjponagoahdhaaDoorTg
import Derived.Lib.SliceRun
namespace Go.Proofs.YthjponagoahdhaaDoor
open Go.RowKit Go.Maps Go.BigFrame Go.Sort
set_option linter.unusedVariables false
set_option linter.unusedSimpArgs false
set_option maxRecDepth 100000

theorem bool_infoT : (Tryd.prog.info? 4).map (fun i => (i.zero, i.size, i.bytes)) = some (some (.bool false), 1, 1) := by kernel_rfl
theorem bools_infoT : (Tryd.prog.info? 84).map (fun i => (i.zero, i.size, i.bytes)) = some (some (.slice none 0 0), 1, 24) := by kernel_rfl
theorem zero_boolT (w : World) : (zeroValue 4).run Tryd.prog w = .ok (.bool false) w := by kernel_rfl
/-- the table of dead lines while it is made: y tables are there -/
structure DeadP (w : World) (B mb x h y : Nat) (Q : Nat → Nat) : Prop where
  le : B ≤ mb
  lt : mb < w.heap.size
  fr : ∀ o, w.frozen? ⟨mb, o, none⟩ = false
  nil : ∀ j, j < h → y ≤ j → w.cell? ⟨mb, j, none⟩ = some (.slice none 0 0)
  tab : ∀ j, j < y → Q j ≠ mb ∧ B ≤ Q j ∧ Q j < w.heap.size ∧ w.cell? ⟨mb, j, none⟩ = some (.slice (some ⟨Q j, 0, none⟩) x x) ∧ BTab w (Q j) x (fun _ => false)
  inj : ∀ j j', j < y → j' < y → Q j = Q j' → j = j'
theorem DeadP.done {w : World} {B mb x h : Nat} {Q : Nat → Nat} (d : DeadP w B mb x h h Q) : DeadT w B w.heap.size mb x h Q fun _ _ => false :=
  ⟨d.le, d.lt, Nat.le_refl _, d.fr, d.tab, d.inj⟩
theorem DeadP.more {w w' : World} {B mb x h y q : Nat} {Q : Nat → Nat} (d : DeadP w B mb x h y Q) (hy : y < h) (hb : Below w.heap.size w w') (hq : w.heap.size ≤ q) (ht : BTab w' q x fun _ => false) :
    DeadP (w'.setCell ⟨mb, y, none⟩ (.slice (some ⟨q, 0, none⟩) x x)) B mb x h (y + 1) (updF Q y q) := by
  have hg := grown_one w' mb y (.slice (some ⟨q, 0, none⟩) x x)
  have hlt := d.lt
  have hle := d.le
  have hs := hb.size
  refine ⟨d.le, by rw [setCell_heap_size]; omega, fun o => by rw [World.frozen?_setCell]; exact (hb.frozen (p := ⟨mb, o, none⟩) d.lt).trans (d.fr o), fun j hj hyj => ?_, fun j hj => ?_, fun j j' hj hj' e => ?_⟩
  · rw [World.cell?_setCell_other _ _ _ _ (fun e => by injection e with _ e2; omega)]
    exact (hb.cell (p := ⟨mb, j, none⟩) d.lt).trans (d.nil j hj (by omega))
  · by_cases e : j = y
    · subst e
      have e1 : updF Q j q j = q := by simp [updF]
      rw [e1]
      have hc := (hb.cell (p := ⟨mb, j, none⟩) d.lt).trans (d.nil j hy (Nat.le_refl _))
      refine ⟨by omega, by omega, ?_, World.cell?_setCell_same _ _ _ hc, ht.grown hg (by intro e; injection e with e; omega)⟩
      rw [setCell_heap_size]
      exact ht.1
    · have e1 : updF Q y q j = Q j := by simp [updF, e]
      rw [e1]
      obtain ⟨h1, h2, h3, h4, h5⟩ := d.tab j (by omega)
      refine ⟨h1, h2, by rw [setCell_heap_size]; omega, ?_, (h5.keep hb).grown hg (by intro e; injection e with e; exact h1 e)⟩
      rw [World.cell?_setCell_other _ _ _ _ (fun e' => by injection e' with _ e2; omega)]
      exact (hb.cell (p := ⟨mb, j, none⟩) d.lt).trans h4
  · by_cases e1 : j = y
    · by_cases e2 : j' = y
      · omega
      · have h3 := (d.tab j' (by omega)).2.2.1
        simp only [updF, e1, if_true, if_neg e2] at e
        omega
    · by_cases e2 : j' = y
      · have h3 := (d.tab j (by omega)).2.2.1
        simp only [updF, e2, if_true, if_neg e1] at e
        omega
      · simp only [updF, if_neg e1, if_neg e2] at e
        exact d.inj j j' (by omega) (by omega) e
/-- the same tables, lower -/
theorem DeadT.lower {w : World} {B T T' mb x h : Nat} {Q : Nat → Nat} {F : Nat → Nat → Bool} (d : DeadT w B T mb x h Q F) (h0 : mb < T') (h1 : ∀ y, y < h → Q y < T') (h2 : T' ≤ w.heap.size) : DeadT w B T' mb x h Q F where
  le := d.le
  lt := h0
  up := h2
  fr := d.fr
  tab y hy := by
    obtain ⟨a, b, c, e, f⟩ := d.tab y hy
    exact ⟨a, b, h1 y hy, e, f⟩
  inj := d.inj
theorem DeadT.congr {w : World} {B T mb x h : Nat} {Q : Nat → Nat} {F G : Nat → Nat → Bool} (d : DeadT w B T mb x h Q F) (e : ∀ y l, y < h → l < x → F y l = G y l) : DeadT w B T mb x h Q G where
  le := d.le
  lt := d.lt
  up := d.up
  fr := d.fr
  tab y hy := by
    obtain ⟨a, b, c, e', f⟩ := d.tab y hy
    exact ⟨a, b, c, e', f.congr fun L hL => by simpa using e y L hy hL⟩
  inj := d.inj
theorem btab_clear {w : World} {q n : Nat} {f : Int → Bool} (h : BTab w q n f) : BTab (w.setCells q 0 (List.replicate n (.bool false))) q n fun _ => false := by
  have ht : w.there q 0 (List.replicate n (Value.bool false)).length := fun j hj => by
    rw [List.length_replicate] at hj
    rw [Nat.zero_add]
    exact ⟨by rw [h.2.1 j hj]; rfl, h.2.2 j⟩
  have hr := World.rangeAt_setCells_same w q 0 (List.replicate n (.bool false)) ht
  have hg := setCells_grown q (List.replicate n (.bool false)) 0 w
  refine ⟨by rw [hg.2]; exact h.1, fun L hL => ?_, fun o => ?_⟩
  · have := hr L (.bool false) (by simp [hL])
    simpa using this
  · have : ∀ (vs : List Value) (o' : Nat) (W : World), W.frozen? ⟨q, o, none⟩ = false → (W.setCells q o' vs).frozen? ⟨q, o, none⟩ = false := by
      intro vs
      induction vs with
      | nil => intro o' W h; exact h
      | cons v vs ih => intro o' W h; exact ih (o' + 1) _ (by rw [World.frozen?_setCell]; exact h)
    exact this _ _ _ (h.2.2 o)
/-- the indices of the rings of the first tower -/
def firstT (s : List Tl) (x h : Nat) : Option (List Nat) := (List.range (ringsE s x).length).findSome? fun b => towerT (ovT s x) (noT s x) (soT s x) h b
/-- the same over the first j bottoms -/
def firstK (s : List Tl) (x h j : Nat) : Option (List Nat) := (List.range j).findSome? fun b => towerT (ovT s x) (noT s x) (soT s x) h b
theorem firstK_none (s : List Tl) (x h j : Nat) (h0 : firstK s x h j = none) (h1 : towerT (ovT s x) (noT s x) (soT s x) h j = none) : firstK s x h (j + 1) = none := by
  unfold firstK at h0 ⊢
  rw [List.range_succ, List.findSome?_append, h0]
  simp [h1]
theorem firstK_some (s : List Tl) (x h j : Nat) (hj : j < (ringsE s x).length) (u : List Nat) (h0 : firstK s x h j = none) (h1 : towerT (ovT s x) (noT s x) (soT s x) h j = some u) : firstT s x h = some u := by
  unfold firstK at h0
  unfold firstT
  have e : List.range (ringsE s x).length = List.range j ++ j :: (List.range ((ringsE s x).length - (j + 1))).map (j + 1 + ·) := by
    have h2 : (ringsE s x).length = j + (1 + ((ringsE s x).length - (j + 1))) := by omega
    conv => lhs; rw [h2, List.range_add, List.range_add]
    simp [Nat.add_assoc, Nat.add_comm, Nat.add_left_comm]
  rw [e, List.findSome?_append, h0]
  simp [h1]
/-- its rings are the first torus -/
theorem firstT_tors (s : List Tl) (x h : Nat) (hh : 1 ≤ h) : (firstT s x h).map (fun u => u.map fun i => (ringsE s x).getD i []) = (torsE s x h).head? := by
  unfold firstT
  rw [findSome_map]
  exact tower_first s x h hh (numT s x) (numT_inj s x)
theorem fst_idx {over : Nat → List Nat} {nor : Nat → Nat} {s rn : Nat} (ho : ∀ l, ∀ r ∈ over l, r < rn) : ∀ (k l : Nat) (u : List Nat), fstT over nor s k l = some u → ∀ i ∈ u, i < rn
  | 0, l, u, h, i, hi => by
    simp only [fstT] at h
    split at h
    · cases h; cases hi
    · cases h
  | k + 1, l, u, h, i, hi => by
    obtain ⟨r, hr, hr2⟩ := List.exists_of_findSome?_eq_some h
    cases e : fstT over nor s k (nor r) with
    | none => rw [e] at hr2; cases hr2
    | some v =>
      rw [e] at hr2
      cases hr2
      rcases List.mem_cons.1 hi with h1 | h1
      · rw [h1]; exact ho l r hr
      · exact fst_idx ho k _ v e i h1
theorem tower_idx {over : Nat → List Nat} {nor sou : Nat → Nat} {h b rn : Nat} (ho : ∀ l, ∀ r ∈ over l, r < rn) (hb : b < rn) {u : List Nat} (e : towerT over nor sou h b = some u) : ∀ i ∈ u, i < rn := by
  unfold towerT at e
  cases e' : fstT over nor (sou b) (h - 1) (nor b) with
  | none => rw [e'] at e; cases e
  | some v =>
    rw [e'] at e
    cases e
    intro i hi
    rcases List.mem_cons.1 hi with h1 | h1
    · rw [h1]; exact hb
    · exact fst_idx ho _ _ _ e' i h1
/-- what first returns -/
def IsFirstT (s : List Tl) (x h : Nat) (W : World) (e : Ending) (w' : World) : Prop :=
  Below W.heap.size W w' ∧ match firstT s x h with
    | none => e = .returned (.slice none 0 0)
    | some u => ∃ g, e = .returned (.slice (some ⟨g, 0, none⟩) h h) ∧ W.heap.size ≤ g ∧ g < w'.heap.size ∧ u.length = h ∧ (∀ i ∈ u, i < (ringsE s x).length) ∧ ∀ y r, (u.map fun i => (ringsE s x).getD i [])[y]? = some r → w'.rangeAt g (y * 8) (ringV s x r)
set_option maxHeartbeats 8000000 in
theorem first_anyT (s : List Tl) (x h rc O oc : Nat) (R : Option Addr) (w : World) (hx : x ≤ 6) (hh1 : 1 ≤ h) (hh6 : h ≤ 6) (hrn9 : (ringsE s x).length ≤ 100000000) (hB : BandIn s x w w.heap.size R O) :
    Calls Tryd.prog 27 #[.agg #[.slice R (ringsE s x).length rc, .slice (some ⟨O, 0, none⟩) (nlT s x) oc], .int .i64 (h : Nat)] w (IsFirstT s x h w) := by
  obtain ⟨i0, hi, hz0, hz1, hz2⟩ := info_parts bool_infoT
  obtain ⟨i1, gi, gz0, gz1, gz2⟩ := info_parts bools_infoT
  obtain ⟨rn, hrn⟩ : ∃ rn, rn = (ringsE s x).length := ⟨_, rfl⟩
  obtain ⟨nl, hnl⟩ : ∃ nl, nl = nlT s x := ⟨_, rfl⟩
  rw [← hrn] at hrn9 ⊢
  rw [← hnl]
  have hnl9 : nl ≤ 200000000 := by
    have := lines6_len s (ringsE s x)
    rw [hnl]
    unfold nlT
    omega
  have hby : i0.bytes * nl ≤ 281474976710656 := by rw [hz2]; omega
  have hby1 : i1.bytes * h ≤ 281474976710656 := by rw [gz2]; omega
  have HRN := Lib.hid hrn
  have HNL := Lib.hid hnl
  have HB := Lib.hid hB
  clear hrn hnl hB
  go_enter Tryd.func27, Tryd.ntmps27
  go_wp2_with (first
    | (at_make; refine wpList_make_full _ rfl _ _ 83 rfl (w.heap.size + 1) 84 i1 (.slice none 0 0) 1 Tryd.underlying83 gi gz0 gz1 .i64 .i64 _ _ h rfl rfl rfl rfl hby1 (by simp only [maxLen]; omega) (by simp) ?_; intro w3 hown3 hgrow3)
    | fail)
  obtain ⟨hlt3, hcw3, hfz3⟩ := own_words hown3
  have hs3 : w.heap.size + 1 < w3.heap.size := by simpa using hlt3
  have hb3 : Below w.heap.size w w3 := ((Below.refl _ _).alloc (Nat.le_refl _) _).grown hgrow3 (by simp) (fun j hj => by cases hj)
  have hbox3 : w3.heap[w.heap.size]? = some (.cells #[.slice R rn rc, .slice (some ⟨O, 0, none⟩) nl oc] 55 (0, 0)) := (hgrow3.block _ (by simp) (by simp)).trans (heap_at w _ _ rfl)
  have hdp3 : DeadP w3 (w.heap.size + 1) (w.heap.size + 1) nl h 0 (fun _ => 0) := by
    refine ⟨Nat.le_refl _, hs3, fun o => by simpa using hfz3 o, fun j hj _ => ?_, fun j hj => by omega, fun j j' hj => by omega⟩
    have := (hcw3 j hj).trans (made_at (.slice none 0 0) (h * 1) j (by omega))
    simpa using this
  clear hown3 hgrow3 hlt3 hcw3 hfz3
  go_loopw [15] (fun i wr => ∃ (y : Nat) (Q : Nat → Nat), y ≤ h ∧ i = .int .i64 y ∧ Hid (DeadP wr (w.heap.size + 1) (w.heap.size + 1) nl h y Q) ∧ Hid (wr.heap[w.heap.size]? = some (.cells #[.slice R rn rc, .slice (some ⟨O, 0, none⟩) nl oc] 55 (0, 0))) ∧ Below w.heap.size w wr) (fun i _ => h - (intOf i).toNat)
  case atStart => exact ⟨0, fun _ => 0, Nat.zero_le _, rfl, hdp3, hbox3, hb3⟩
  case round =>
    clear hdp3 hbox3 hb3 hs3
    obtain ⟨y, Q, hy, rfl, hdp, hbox, hbw⟩ := hrel
    obtain ⟨wo, rfl⟩ : ∃ wo : World, wo = wr := ⟨_, rfl⟩
    obtain ⟨q0, q1⟩ := cells2 hbox.out
    have hmlt := hdp.out.lt
    by_cases hyh : y < h
    · have hy0 : (0 : Int) ≤ (y : Int) := by omega
      have hy1 : (y : Int) < (h : Int) := by omega
      have hnily := hdp.out.nil y hyh (Nat.le_refl _)
      have hfry := hdp.out.fr y
      go_wp2_with (first
        | (at_make; refine wpList_make_full _ rfl _ _ 84 rfl wo.heap.size 4 i0 (.bool false) 1 Tryd.underlying84 hi hz0 hz1 .i64 .i64 _ _ nl rfl rfl rfl rfl hby (by simp only [maxLen]; omega) (Nat.le_refl _) ?_; intro w4 hown4 hgrow4; have hb4 : Below wo.heap.size wo w4 := ⟨hgrow4.os, hgrow4.tape, hgrow4.output, hgrow4.size, fun k hk => hgrow4.block k hk (by simp)⟩; have z4 := (hb4.cell (p := ⟨w.heap.size + 1, y, none⟩) hmlt).trans hnily; have zf4 := (hb4.frozen (p := ⟨w.heap.size + 1, y, none⟩) hmlt).trans hfry)
        | fail)
      obtain ⟨hlt4, hcw4, hfz4⟩ := own_words hown4
      have hbt : BTab w4 wo.heap.size nl fun _ => false := ⟨hlt4, fun L hL => (hcw4 L hL).trans (made_at (.bool false) (nl * 1) L (by omega)), hfz4⟩
      have hdp5 := hdp.out.more hyh hb4 (Nat.le_refl _) hbt
      have hg5 := grown_one w4 (w.heap.size + 1) y (.slice (some ⟨wo.heap.size, 0, none⟩) nl nl)
      have hbox5 : Hid ((w4.setCell ⟨w.heap.size + 1, y, none⟩ (.slice (some ⟨wo.heap.size, 0, none⟩) nl nl)).heap[w.heap.size]? = some (.cells #[.slice R rn rc, .slice (some ⟨O, 0, none⟩) nl oc] 55 (0, 0))) := (hg5.block _ (by have := hb4.size; omega) (by simp)).trans ((hb4.block _ (by omega)).trans hbox.out)
      have hb5 : Below w.heap.size w (w4.setCell ⟨w.heap.size + 1, y, none⟩ (.slice (some ⟨wo.heap.size, 0, none⟩) nl nl)) := (hbw.trans (hb4.mono hbw.size)).grown hg5 (by have := hb4.size; omega) (fun j e => by cases e; omega)
      have HDP5 := Lib.hid hdp5
      clear hown4 hgrow4 hdp5 hbt hcw4 hfz4 hlt4 z4 zf4 hnily hfry hg5 hb4 q0 q1 hdp hbox hbw
      go_roundw
      case rel => exact ⟨y + 1, updF Q y wo.heap.size, by omega, by go_num, HDP5.out, hbox5, hb5⟩
      case measure => simp [intOf]; omega
    · have e : h = y := by omega
      subst e
      have HDT := Lib.hid hdp.out.done
      have HBOX := Lib.hid hbox.out
      have hbwo := hbw
      clear hdp hbox
      go_wp2_with fail
      go_loopw [29] (fun i wr => ∃ j T : Nat, j ≤ rn ∧ i = .int .i64 j ∧ Hid (DeadT wr (w.heap.size + 1) T (w.heap.size + 1) nl h Q fun _ _ => false) ∧ Hid (wr.heap[w.heap.size]? = some (.cells #[.slice R rn rc, .slice (some ⟨O, 0, none⟩) nl oc] 55 (0, 0))) ∧ Below w.heap.size w wr ∧ Hid (firstK s x h j = none)) (fun i _ => rn - (intOf i).toNat)
      case atStart => exact ⟨0, wo.heap.size, Nat.zero_le _, rfl, HDT.out, HBOX.out, hbwo, rfl⟩
      case round =>
        clear HDT HBOX q0 q1 hmlt hbwo hbw
        obtain ⟨j, T, hj, rfl, hdt, hbox, hbw, hno⟩ := hrel
        obtain ⟨wi, rfl⟩ : ∃ wi : World, wi = wr := ⟨_, rfl⟩
        obtain ⟨q0, q1⟩ := cells2 hbox.out
        by_cases hjn : j < rn
        · have hjl : j < (ringsE s x).length := by rw [← HRN.out]; exact hjn
          obtain ⟨rb, rfl, hrb, hrg⟩ := HB.out.rings (fun e => by rw [e] at hjl; simp at hjl)
          have hsw : w.heap.size < wi.heap.size := (Array.getElem?_eq_some_iff.1 hbox.out).1
          have hB1 : ∀ W, Below (w.heap.size + 1) wi W → Below w.heap.size w W := fun W hb => hbw.trans (hb.mono (by omega))
          have hring : ∀ W, Below (w.heap.size + 1) wi W → ∀ i, i < rn → W.cell? ⟨rb, i * 8 + 6, none⟩ = some (.int .i64 (noT s x i : Nat)) ∧ W.cell? ⟨rb, i * 8 + 7, none⟩ = some (.int .i64 (soT s x i : Nat)) := fun W hb i hi' => by
            have hil : i < (ringsE s x).length := by rw [← HRN.out]; exact hi'
            obtain ⟨r, hr⟩ : ∃ r, (ringsE s x)[i]? = some r := ⟨_, List.getElem?_eq_getElem hil⟩
            have hk := rangeAt_keep (hrg i r hr) (hB1 W hb) hrb
            have h6 := ringA_at s x r (by rw [(rings_row (List.mem_of_getElem? hr)).1]; exact hx)
            have hgd : (ringsE s x).getD i [] = r := by rw [List.getD_eq_getElem?_getD, hr]; rfl
            unfold noT soT
            rw [hgd]
            exact ⟨hk 6 _ h6.1, hk 7 _ h6.2⟩
          have hover : ∀ W, Below (w.heap.size + 1) wi W → ∀ l, l < nl → ∃ A c, W.cell? ⟨O, l, none⟩ = some (.slice A (ovT s x l).length c) ∧ ∀ i r, (ovT s x l)[i]? = some r → r < rn ∧ ∃ ab ao, A = some ⟨ab, ao, none⟩ ∧ W.cell? ⟨ab, ao + i, none⟩ = some (.int .i64 (r : Nat)) := fun W hb l hl => by
            obtain ⟨A, c, h1, h2⟩ := HB.out.over l (by rw [← HNL.out]; exact hl)
            refine ⟨A, c, ((hB1 W hb).cell (p := ⟨O, l, none⟩) HB.out.lt).trans h1, fun i r hr => ⟨by rw [HRN.out]; exact ovT_lt (List.mem_of_getElem? hr), ?_⟩⟩
            have hil := (List.getElem?_eq_some_iff.1 hr).1
            obtain ⟨ab, ao, hA, hab, hcl⟩ := h2 (fun e => by have := congrArg List.length e; simp [idxI] at this; rw [this] at hil; simp at hil)
            refine ⟨ab, ao, hA, ((hB1 W hb).cell (p := ⟨ab, ao + i, none⟩) hab).trans ((hcl i (by simpa [idxI] using hil)).trans ?_)⟩
            simp [idxI, hr]
          have hnor : ∀ i, i < rn → noT s x i < nl := fun i hi' => by
            rw [HNL.out]
            unfold noT
            exact (numT_lt s x (getD_mem' (by rw [← HRN.out]; exact hi'))).2
          have hnl0 : 0 < nl := Nat.lt_of_le_of_lt (Nat.zero_le _) (hnor j hjn)
          have hc := climb_abs (ovT s x) (noT s x) (soT s x) (w.heap.size + 1) (w.heap.size + 1) nl h h rn rc rb O oc j Q wi hring hover hnor hjn hrn9 hh1 hh6 (fun l => Nat.le_trans (ovT_len s x l) (by rw [← HRN.out]; exact hrn9)) (by omega) (hdt.out.mono hdt.out.up (Nat.le_refl _))
          have hQT : ∀ y, y < h → Q y < T := fun y hy => (hdt.out.tab y hy).2.2.1
          have HC := Lib.hid hc
          have HRG := Lib.hid hrg
          have HQT := Lib.hid hQT
          have hTw := hdt.out.up
          have hmT := hdt.out.lt
          clear hc hring hover hnor hrg hjl hQT hB1
          cases htw : towerT (ovT s x) (noT s x) (soT s x) h j with
          | none =>
            have hno1 : Hid (firstK s x h (j + 1) = none) := firstK_none s x h j hno.out htw
            have HTW := Lib.hid htw
            clear htw
            go_wp2_with (first
              | (go_at_call 46; refine HC.out.mono ?_; rintro e w5 ⟨v5, F5, rfl, hb5, hd5, hres⟩; rw [HTW.out] at hres; obtain rfl : v5 = .slice none 0 0 := hres)
              | fail)
            have hbox5 : Hid (w5.heap[w.heap.size]? = some (.cells #[.slice (some ⟨rb, 0, none⟩) rn rc, .slice (some ⟨O, 0, none⟩) nl oc] 55 (0, 0))) := (hb5.block _ (by omega)).trans hbox.out
            have hbw5 : Below w.heap.size w w5 := hbw.trans (hb5.mono (by omega))
            have hd5' : DeadT w5 (w.heap.size + 1) wi.heap.size (w.heap.size + 1) nl h Q fun y l => if y < 0 then false else F5 y l := hd5.congr fun y l _ _ => by simp
            have HD5 := Lib.hid hd5'
            clear hd5 hd5' hb5 hdt hbox q0 q1
            go_loopw [44] (fun i wr => ∃ k : Nat, k ≤ h ∧ i = .int .i64 k ∧ Hid (DeadT wr (w.heap.size + 1) wi.heap.size (w.heap.size + 1) nl h Q fun y l => if y < k then false else F5 y l) ∧ Hid (wr.heap[w.heap.size]? = some (.cells #[.slice (some ⟨rb, 0, none⟩) rn rc, .slice (some ⟨O, 0, none⟩) nl oc] 55 (0, 0))) ∧ Below w.heap.size w wr) (fun i _ => h - (intOf i).toNat)
            case atStart => exact ⟨0, Nat.zero_le _, rfl, HD5.out, hbox5.out, hbw5⟩
            case round =>
              clear HD5 hbox5 hbw5
              obtain ⟨k, hk, rfl, hdk, hboxk, hbwk⟩ := hrel
              obtain ⟨wk, rfl⟩ : ∃ wk : World, wk = wr := ⟨_, rfl⟩
              by_cases hkh : k < h
              · have hk0 : (0 : Int) ≤ (k : Int) := by omega
                have hk1 : (k : Int) < (h : Int) := by omega
                obtain ⟨t1, t2, t3, t4, t5⟩ := hdk.out.tab k hkh
                have hcl : ∀ ty, (Builtin.clear_ #[84] ty #[.slice (some ⟨Q k, 0, none⟩) nl nl]).run Tryd.prog wk = .ok (.tuple #[]) (wk.setCells (Q k) 0 (List.replicate nl (.bool false))) :=
                  fun ty => Lib.run_clear_slice wk 84 4 ty (.bool false) Tryd.underlying84 zero_boolT rfl rfl (Q k) 0 nl nl hnl0 (fun j' hj' => by rw [Nat.zero_add, t5.2.1 j' hj']; rfl) (fun j' hj' => t5.2.2 _)
                have hsg := (setCells_grown (Q k) (List.replicate nl (.bool false)) 0 wk).1
                have hd6 := (hdk.out.set k hkh hsg (fun _ => false) (btab_clear t5)).congr (G := fun y l => if y < k + 1 then false else F5 y l) fun y l _ _ => by
                  by_cases e1 : y = k
                  · simp [e1]
                  · by_cases e2 : y < k
                    · simp [e1, e2, show y < k + 1 by omega]
                    · simp [e1, e2, show ¬ y < k + 1 by omega]
                have hbox6 : Hid ((wk.setCells (Q k) 0 (List.replicate nl (.bool false))).heap[w.heap.size]? = some (.cells #[.slice (some ⟨rb, 0, none⟩) rn rc, .slice (some ⟨O, 0, none⟩) nl oc] 55 (0, 0))) := (hsg.block _ (Array.getElem?_eq_some_iff.1 hboxk.out).1 (by intro e; injection e with e; omega)).trans hboxk.out
                have hbw6 := hbwk.grown hsg (by have := hbwk.size; omega) (fun j' e => by cases e; omega)
                have HD6 := Lib.hid hd6
                clear t5 hsg hd6 hdk hboxk
                go_wp2_with (simp only [hcl])
                go_roundw
                case rel => exact ⟨k + 1, by omega, by go_num, HD6.out, hbox6, hbw6⟩
                case measure => simp [intOf]; omega
              · have e : h = k := by omega
                subst e
                have hd7 := hdk.out.congr (G := fun _ _ => false) fun y l hy _ => by simp [hy]
                have HD7 := Lib.hid hd7
                clear hd7 hdk
                go_wp2_with fail
                go_roundw
                case rel => exact ⟨j + 1, wi.heap.size, by omega, by go_num, HD7.out, hboxk, hbwk, hno1⟩
                case measure => simp [intOf]; omega
          | some u =>
            have hul : u.length = h := tower_len hh1 htw
            have hfs : firstT s x h = some u := firstK_some s x h j (by rw [← HRN.out]; exact hjn) u hno.out htw
            have hui : ∀ i ∈ u, i < rn := tower_idx (fun l r hr => by rw [HRN.out]; exact ovT_lt hr) hjn htw
            have h0 : (0 : Int) < (h : Int) := by omega
            have HTW := Lib.hid htw
            have HUL := Lib.hid hul
            have HFS := Lib.hid hfs
            have HUI := Lib.hid hui
            clear htw hul hfs hui
            go_wp2_with (first
              | (go_at_call 46; refine HC.out.mono ?_; rintro e w5 ⟨v5, F5, rfl, hb5, hd5, hres⟩; rw [HTW.out] at hres; obtain ⟨A, c, hv5, hI5⟩ := hres; rw [HUL.out] at hv5; subst hv5; obtain ⟨z0, z1⟩ := cells2 ((hb5.block _ (by omega)).trans hbox.out); have HI5 := Lib.hid hI5; have HD5 := Lib.hid hd5; have HB5 := Lib.hid hb5; clear hI5 hd5 hb5)
              | (go_at_call 47; refine (ringsAt_any s x rb rn rc O nl oc h c A u w5 hx HRN.out hrn9 (fun W hb i r hr => rangeAt_keep (HRG.out i r hr) ((hbw.trans (HB5.out.mono (by omega))).trans (hb.mono (by have := HB5.out.size; omega))) hrb) HUL.out.symm hh6 HI5.out HUI.out).mono ?_; rintro e w6 ⟨g, rfl, hb6, hg6, hg6', hr6⟩)
              | fail)
            go_ret
            have hb5s := HB5.out.size
            refine ⟨(hbw.trans (HB5.out.mono (by omega))).trans (hb6.mono (by omega)), ?_⟩
            rw [HFS.out]
            exact ⟨g, rfl, by omega, hg6', HUL.out, fun i hi' => by rw [← HRN.out]; exact HUI.out i hi', hr6⟩
        · have e : rn = j := by omega
          subst e
          have hres : firstT s x h = none := by
            have := hno.out
            rw [HRN.out] at this
            exact this
          have HRES := Lib.hid hres
          clear hres hdt hbox
          go_wp2_with fail
          go_ret
          refine ⟨hbw, ?_⟩
          rw [HRES.out]
          rfl
end Go.Proofs.YthjponagoahdhaaDoor
