/-
  strip: indices, settled, Core, Rows.
-/
import Derived.Test.YtgadfmknjpanpaaDoorSb
namespace Go.Proofs.YtgadfmknjpanpaaDoor
open Go.RowKit Go.Maps Go.BigFrame
set_option linter.unusedVariables false
set_option linter.unusedSimpArgs false
set_option maxRecDepth 100000

set_option maxHeartbeats 1000000 in
theorem indices_any (S : Option Addr) (m d : Nat) (w : World) (hm : m ≤ 1000) :
    Calls Tryd.prog 29 #[.slice S m d] w fun e w' => ∃ A c, e = .returned (.slice A m c) ∧ IntsIn w' w'.heap.size A (idxI (List.range m)) ∧ Below w.heap.size w w' := by
  obtain ⟨i0, hi, hz0, hz1, hz2⟩ := info_parts int_info
  have hby : i0.bytes * m ≤ 281474976710656 := by rw [hz2]; omega
  go_enter Tryd.func29, Tryd.ntmps29
  go_upto_region 2 with (at_make; refine wpList_make_full _ rfl _ _ 25 rfl w.heap.size 3 i0 (.int .i64 0) 1 Tryd.underlying25 hi hz0 hz1 .i64 .i64 _ _ m rfl rfl rfl rfl hby (by simp only [maxLen]; omega) (by omega) ?_; intro w5 hown5 hgrow5)
  have hb5 : Below w.heap.size w w5 := ⟨hgrow5.os, hgrow5.tape, hgrow5.output, hgrow5.size, fun k hk => hgrow5.block k hk (by simp)⟩
  have hc5 : ∀ j, j < m → ∃ u, w5.cell? ⟨w.heap.size, j, none⟩ = some u := fun j hj => ⟨.int .i64 0, by rw [hown5.cellAt j (by omega), Nat.mul_one]; exact made_at _ _ _ hj⟩
  have hf5 : ∀ o, w5.frozen? ⟨w.heap.size, o, none⟩ = false := fun o => hown5.frozenAt o
  have hlt : w.heap.size < w5.heap.size := (hown5.lt _ rfl).2
  have HB5 := Lib.hid hb5
  have HC5 := Lib.hid hc5
  have HF5 := Lib.hid hf5
  clear hown5 hgrow5 hb5 hc5 hf5
  go_wp2_with fail
  go_loopw [10] (fun i wr => ∃ k : Nat, k ≤ m ∧ i = .int .i64 k ∧ Hid (∀ j, j < k → wr.cell? ⟨w.heap.size, j, none⟩ = some (.int .i64 (j : Int))) ∧ Hid (w5.grownBy wr (some w.heap.size)) ∧ Hid (∀ j, j < m → ∃ u, wr.cell? ⟨w.heap.size, j, none⟩ = some u) ∧ Hid (∀ o, wr.frozen? ⟨w.heap.size, o, none⟩ = false)) (fun i _ => m - (intOf i).toNat)
  case atStart => exact ⟨0, Nat.zero_le _, rfl, fun j hj => by omega, World.grownBy.refl _ _, HC5, HF5⟩
  case round =>
    clear HC5 HF5
    obtain ⟨k, hk, rfl, hdone, hg, hc, hf⟩ := hrel
    obtain ⟨wo, rfl⟩ : ∃ wo : World, wo = wr := ⟨_, rfl⟩
    by_cases hkm : k < m
    · obtain ⟨u, hu⟩ := hc.out k hkm
      have hz := hf.out k
      have hk0 : (0 : Int) ≤ (k : Int) := by omega
      have hD : Hid (∀ j, j < k + 1 → (wo.setCell ⟨w.heap.size, k, none⟩ (.int .i64 (k : Int))).cell? ⟨w.heap.size, j, none⟩ = some (.int .i64 (j : Int))) := fun j hj => by
        by_cases e : j = k
        · subst e; exact World.cell?_setCell_same _ _ _ hu
        · exact (World.cell?_setCell_other _ _ _ _ (fun e' => by injection e' with _ e2; omega)).trans (hdone.out j (by omega))
      have hC : Hid (∀ j, j < m → ∃ u, (wo.setCell ⟨w.heap.size, k, none⟩ (.int .i64 (k : Int))).cell? ⟨w.heap.size, j, none⟩ = some u) := fun j hj => by
        by_cases e : j = k
        · subst e; exact ⟨_, World.cell?_setCell_same _ _ _ hu⟩
        · obtain ⟨u', hu'⟩ := hc.out j hj
          exact ⟨u', (World.cell?_setCell_other _ _ _ _ (fun e' => by injection e' with _ e2; omega)).trans hu'⟩
      have hFz : Hid (∀ o, (wo.setCell ⟨w.heap.size, k, none⟩ (.int .i64 (k : Int))).frozen? ⟨w.heap.size, o, none⟩ = false) := fun o => (World.frozen?_setCell _ _ _ _).trans (hf.out o)
      have hG : Hid (w5.grownBy (wo.setCell ⟨w.heap.size, k, none⟩ (.int .i64 (k : Int))) (some w.heap.size)) := grown_cell hg.out k _
      clear hdone hg hc hf
      go_wp2_with fail
      go_roundw
      case rel => exact ⟨k + 1, by omega, by go_num, hD, hG, hC, hFz⟩
      case measure => simp [intOf]; omega
    · have hke : k = m := by omega
      have hI : Hid (IntsIn wo wo.heap.size (some ⟨w.heap.size, 0, none⟩) (idxI (List.range m))) := fun _ => by
        refine ⟨w.heap.size, 0, rfl, Nat.lt_of_lt_of_le hlt hg.out.size, fun i hi' => ?_⟩
        have him : i < m := by simpa [idxI] using hi'
        have h1 := hdone.out i (by omega)
        rw [Nat.zero_add, h1]
        congr 2
        simp [idxI, him]
      have hb : Hid (Below w.heap.size w wo) := HB5.out.trans ⟨hg.out.os, hg.out.tape, hg.out.output, hg.out.size, fun j hj => hg.out.block j (by omega) (by simp; omega)⟩
      clear hdone hg hc hf hke
      go_wp2_with fail
      go_ret
      exact ⟨_, _, rfl, hI.out, hb.out⟩
/-- what settled returns -/
def IsSettled (P : List Nat → Nat → Bool) (L : List Nat) (W : World) (e : Ending) (w' : World) : Prop :=
  ∃ j A c, e = .returned (.tuple #[.slice A (rounds P j L).length c, .int .i64 (j : Nat)]) ∧ keep1 P (rounds P j L) = rounds P j L ∧ (∀ i, i < j → (rounds P (i + 1) L).length < (rounds P i L).length) ∧ IntsIn w' w'.heap.size A (idxI (rounds P j L)) ∧ Below W.heap.size W w'
def sliceLen (v : Value) : Nat := match v with
  | .slice _ n _ => n
  | _ => 0
theorem rounds_len {P : List Nat → Nat → Bool} {L : List Nat} {j : Nat} (h : ∀ i, i < j → (rounds P (i + 1) L).length < (rounds P i L).length) : (rounds P j L).length + j ≤ L.length := by
  induction j with
  | zero => exact Nat.le_refl _
  | succ j ih =>
    have h1 := ih fun i hi => h i (by omega)
    have h2 := h j (by omega)
    omega
set_option maxHeartbeats 2000000 in
theorem settled_leading (s : List Tl) (S : Option Addr) (m d : Nat) (L : List Nat) (A : Option Addr) (n c : Nat) (w : World) (hm : m = s.length) (hv : vld s = true) (hS : SetIn w w.heap.size S s) (hn : n = L.length) (hnl : n ≤ 1000) (hL : ∀ i ∈ L, i < s.length) (hA : IntsIn w w.heap.size A (idxI L)) :
    Calls Tryd.prog 28 #[.slice A n c, .func (.func 31) #[.slice S m d] #[]] w (IsSettled (leadP s) L w) := by
  have hcall : ∀ (W : World) (T : List Nat) (B : Option Addr) (q cq : Nat), Below w.heap.size w W → q = T.length → q ≤ 1000 → (∀ i ∈ T, i < s.length) → IntsIn W W.heap.size B (idxI T) → Calls Tryd.prog 31 #[.slice S m d, .slice B q cq] W fun e w' => ∃ v, e = .returned v ∧ w'.ownsRow W.heap.size 3 1 v (keep1 (leadP s) T).length (vals (idxI (keep1 (leadP s) T))) ∧ Below W.heap.size W w' := fun W T B q cq hb hq hq1 hT hB => leading_any s S m d T B q cq W hm hv (hS.keep hb hb.size) hq hq1 hT hB
  have HC := Lib.hid hcall
  have HL := Lib.hid hL
  have HA := Lib.hid hA
  have HN := Lib.hid hn
  clear hcall hm hv hS hL hA hn
  go_enter Tryd.func28, Tryd.ntmps28
  go_wp2_with fail
  go_loopw [0, 6] (fun lv rv wr => ∃ (j q cq : Nat) (B : Option Addr), lv = .slice B q cq ∧ rv = .int .i64 (j : Int) ∧ Hid (q = (rounds (leadP s) j L).length) ∧ j ≤ 1000 ∧ q ≤ 1000 ∧ Hid (∀ i, i < j → (rounds (leadP s) (i + 1) L).length < (rounds (leadP s) i L).length) ∧ Hid (IntsIn wr wr.heap.size B (idxI (rounds (leadP s) j L))) ∧ Hid (Below w.heap.size w wr)) (fun lv _ _ => sliceLen lv)
  case atStart => exact ⟨0, n, c, A, rfl, rfl, HN.out, Nat.zero_le _, hnl, fun i hi => by omega, HA.out, Below.refl _ _⟩
  case round =>
    clear HA
    obtain ⟨j, q, cq, B, rfl, rfl, hq, hj, hq1, hdec, hB, hbr⟩ := hrel
    obtain ⟨wo, rfl⟩ : ∃ wo : World, wo = wr := ⟨_, rfl⟩
    obtain ⟨T, hT⟩ : ∃ T, T = rounds (leadP s) j L := ⟨_, rfl⟩
    rw [← hT] at hq hB
    have hk : rounds (leadP s) (j + 1) L = keep1 (leadP s) T := by rw [hT]; exact rounds_succ _ _ _
    have hcl := HC.out wo T B q cq hbr.out hq hq1 (fun i hi => HL.out i (by rw [hT] at hi; exact rounds_sub _ _ _ i hi)) hB.out
    obtain ⟨q2, hq2⟩ : ∃ q2, q2 = (keep1 (leadP s) T).length := ⟨_, rfl⟩
    rw [← hq2] at hcl
    have hle : q2 ≤ q := by rw [hq2, hq]; exact keep1_le _ _
    have hjl := rounds_len hdec.out
    have HT := Lib.hid hT
    have HK := Lib.hid hk
    have HCL := Lib.hid hcl
    have HQ2 := Lib.hid hq2
    have HQ := Lib.hid hq
    have HJL := Lib.hid hjl
    clear hT hk hcl hq2 hq hjl
    by_cases he : q2 = q
    · have d0 : ((q2 : Int) == (q : Int)) = true := by rw [beq_iff_eq]; omega
      have hsame : Hid (keep1 (leadP s) T = T) := keep1_same _ _ (by rw [← HQ2.out, he, HQ.out])
      have HE := Lib.hid he
      clear he
      go_wp2_with (go_at_call 31; refine HCL.out.mono ?_; rintro e w2 ⟨v, rfl, hown, hb2⟩; obtain ⟨A2, c2, rfl, -, -, -, hI2, -⟩ := own_ints hown; have HI2 := Lib.hid hI2; clear hown hI2)
      go_ret2
      refine ⟨j, A2, c2, ?_, by rw [← HT.out]; exact hsame.out, hdec.out, ?_, hbr.out.trans (hb2.mono hbr.out.size)⟩
      · rw [← HT.out, ← HQ.out, ← HE.out]; rfl
      · have h := HI2.out
        rw [hsame.out] at h
        rw [← HT.out]; exact h
    · have d0 : ((q2 : Int) == (q : Int)) = false := by rw [beq_eq_false_iff_ne]; omega
      have hlt : q2 < q := by omega
      have hj1 : j + 1 ≤ 1000 := by
        have h1 := HJL.out
        rw [← HT.out, ← HQ.out, ← HN.out] at h1
        omega
      clear he
      go_wp2_with (go_at_call 31; refine HCL.out.mono ?_; rintro e w2 ⟨v, rfl, hown, hb2⟩; obtain ⟨A2, c2, rfl, -, -, -, hI2, -⟩ := own_ints hown; have HI2 := Lib.hid hI2; clear hown hI2)
      go_roundw
      case rel => exact ⟨j + 1, q2, c2, A2, rfl, by go_num, by show _ = _; rw [HK.out]; exact HQ2.out, hj1, by omega, fun i hi => by
        rcases Nat.lt_succ_iff_lt_or_eq.1 hi with h | h
        · exact hdec.out i h
        · subst h
          rw [HK.out, ← HT.out, ← HQ2.out, ← HQ.out]; exact hlt, by show IntsIn _ _ _ _; rw [HK.out]; exact HI2.out, hbr.out.trans (hb2.mono hbr.out.size)⟩
      case measure => show q2 < q; exact hlt
set_option maxHeartbeats 2000000 in
theorem settled_enclosed (s : List Tl) (S : Option Addr) (m d : Nat) (L : List Nat) (A : Option Addr) (n c : Nat) (w : World) (hm : m = s.length) (hv : vld s = true) (hS : SetIn w w.heap.size S s) (hn : n = L.length) (hnl : n ≤ 1000) (hL : ∀ i ∈ L, i < s.length) (hA : IntsIn w w.heap.size A (idxI L)) :
    Calls Tryd.prog 28 #[.slice A n c, .func (.func 30) #[.slice S m d] #[]] w (IsSettled (enclP s) L w) := by
  have hcall : ∀ (W : World) (T : List Nat) (B : Option Addr) (q cq : Nat), Below w.heap.size w W → q = T.length → q ≤ 1000 → (∀ i ∈ T, i < s.length) → IntsIn W W.heap.size B (idxI T) → Calls Tryd.prog 30 #[.slice S m d, .slice B q cq] W fun e w' => ∃ v, e = .returned v ∧ w'.ownsRow W.heap.size 3 1 v (keep1 (enclP s) T).length (vals (idxI (keep1 (enclP s) T))) ∧ Below W.heap.size W w' := fun W T B q cq hb hq hq1 hT hB => enclosed_any s S m d T B q cq W hm hv (hS.keep hb hb.size) hq hq1 hT hB
  have HC := Lib.hid hcall
  have HL := Lib.hid hL
  have HA := Lib.hid hA
  have HN := Lib.hid hn
  clear hcall hm hv hS hL hA hn
  go_enter Tryd.func28, Tryd.ntmps28
  go_wp2_with fail
  go_loopw [0, 6] (fun lv rv wr => ∃ (j q cq : Nat) (B : Option Addr), lv = .slice B q cq ∧ rv = .int .i64 (j : Int) ∧ Hid (q = (rounds (enclP s) j L).length) ∧ j ≤ 1000 ∧ q ≤ 1000 ∧ Hid (∀ i, i < j → (rounds (enclP s) (i + 1) L).length < (rounds (enclP s) i L).length) ∧ Hid (IntsIn wr wr.heap.size B (idxI (rounds (enclP s) j L))) ∧ Hid (Below w.heap.size w wr)) (fun lv _ _ => sliceLen lv)
  case atStart => exact ⟨0, n, c, A, rfl, rfl, HN.out, Nat.zero_le _, hnl, fun i hi => by omega, HA.out, Below.refl _ _⟩
  case round =>
    clear HA
    obtain ⟨j, q, cq, B, rfl, rfl, hq, hj, hq1, hdec, hB, hbr⟩ := hrel
    obtain ⟨wo, rfl⟩ : ∃ wo : World, wo = wr := ⟨_, rfl⟩
    obtain ⟨T, hT⟩ : ∃ T, T = rounds (enclP s) j L := ⟨_, rfl⟩
    rw [← hT] at hq hB
    have hk : rounds (enclP s) (j + 1) L = keep1 (enclP s) T := by rw [hT]; exact rounds_succ _ _ _
    have hcl := HC.out wo T B q cq hbr.out hq hq1 (fun i hi => HL.out i (by rw [hT] at hi; exact rounds_sub _ _ _ i hi)) hB.out
    obtain ⟨q2, hq2⟩ : ∃ q2, q2 = (keep1 (enclP s) T).length := ⟨_, rfl⟩
    rw [← hq2] at hcl
    have hle : q2 ≤ q := by rw [hq2, hq]; exact keep1_le _ _
    have hjl := rounds_len hdec.out
    have HT := Lib.hid hT
    have HK := Lib.hid hk
    have HCL := Lib.hid hcl
    have HQ2 := Lib.hid hq2
    have HQ := Lib.hid hq
    have HJL := Lib.hid hjl
    clear hT hk hcl hq2 hq hjl
    by_cases he : q2 = q
    · have d0 : ((q2 : Int) == (q : Int)) = true := by rw [beq_iff_eq]; omega
      have hsame : Hid (keep1 (enclP s) T = T) := keep1_same _ _ (by rw [← HQ2.out, he, HQ.out])
      have HE := Lib.hid he
      clear he
      go_wp2_with (go_at_call 30; refine HCL.out.mono ?_; rintro e w2 ⟨v, rfl, hown, hb2⟩; obtain ⟨A2, c2, rfl, -, -, -, hI2, -⟩ := own_ints hown; have HI2 := Lib.hid hI2; clear hown hI2)
      go_ret2
      refine ⟨j, A2, c2, ?_, by rw [← HT.out]; exact hsame.out, hdec.out, ?_, hbr.out.trans (hb2.mono hbr.out.size)⟩
      · rw [← HT.out, ← HQ.out, ← HE.out]; rfl
      · have h := HI2.out
        rw [hsame.out] at h
        rw [← HT.out]; exact h
    · have d0 : ((q2 : Int) == (q : Int)) = false := by rw [beq_eq_false_iff_ne]; omega
      have hlt : q2 < q := by omega
      have hj1 : j + 1 ≤ 1000 := by
        have h1 := HJL.out
        rw [← HT.out, ← HQ.out, ← HN.out] at h1
        omega
      clear he
      go_wp2_with (go_at_call 30; refine HCL.out.mono ?_; rintro e w2 ⟨v, rfl, hown, hb2⟩; obtain ⟨A2, c2, rfl, -, -, -, hI2, -⟩ := own_ints hown; have HI2 := Lib.hid hI2; clear hown hI2)
      go_roundw
      case rel => exact ⟨j + 1, q2, c2, A2, rfl, by go_num, by show _ = _; rw [HK.out]; exact HQ2.out, hj1, by omega, fun i hi => by
        rcases Nat.lt_succ_iff_lt_or_eq.1 hi with h | h
        · exact hdec.out i h
        · subst h
          rw [HK.out, ← HT.out, ← HQ2.out, ← HQ.out]; exact hlt, by show IntsIn _ _ _ _; rw [HK.out]; exact HI2.out, hbr.out.trans (hb2.mono hbr.out.size)⟩
      case measure => show q2 < q; exact hlt
end Go.Proofs.YtgadfmknjpanpaaDoor
