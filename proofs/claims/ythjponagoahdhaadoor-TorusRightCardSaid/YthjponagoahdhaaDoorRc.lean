/-
  groutworkref01: Torus.
-/
import Derived.Test.YthjponagoahdhaaDoorRb
namespace Go.Proofs.YthjponagoahdhaaDoor
open Go.RowKit Go.Maps Go.BigFrame
set_option linter.unusedVariables false
set_option maxRecDepth 100000

def edgeE (s : List Tl) (p : Pt) (a y : Nat) : Prop := (tl s (cel p (a - 1) y)).e = (tl s (cel p 0 y)).w
def edgeN (s : List Tl) (p : Pt) (b x : Nat) : Prop := (tl s (cel p x (b - 1))).n = (tl s (cel p x 0)).s
theorem agrs_torus {s : List Tl} {a b : Nat} {cs : List Int} (ha : 1 ≤ a) (hb : 1 ≤ b) : agrs s ⟨a, b, cs⟩ a b = true ↔ agrs s ⟨a, b, cs⟩ ((a : Int) - 1) ((b : Int) - 1) = true ∧ (∀ y, y < b → edgeE s ⟨a, b, cs⟩ a y) ∧ ∀ x, x < a → edgeN s ⟨a, b, cs⟩ b x := by
  rw [agrs_iff, agrs_iff]
  simp only [Int.toNat_natCast]
  have ea : a - 1 + 1 = a := by omega
  have eb : b - 1 + 1 = b := by omega
  constructor
  · intro h
    refine ⟨fun y hy x hx => ?_, fun y hy => ?_, fun x hx => ?_⟩
    · obtain ⟨h1, h2⟩ := h y hy x hx
      exact ⟨fun g => h1 (by omega), fun g => h2 (by omega)⟩
    · have h1 := (h y hy (a - 1) (by omega)).1 (by omega)
      rw [Int.toNat_natCast, ea, Nat.mod_self] at h1
      exact h1
    · have h1 := (h (b - 1) (by omega) x hx).2 (by omega)
      rw [Int.toNat_natCast, eb, Nat.mod_self] at h1
      exact h1
  · rintro ⟨h, hE, hN⟩ y hy x hx
    obtain ⟨h1, h2⟩ := h y hy x hx
    refine ⟨fun g => ?_, fun g => ?_⟩
    · by_cases e : x + 1 < a
      · exact h1 (by omega)
      · have e2 : x = a - 1 := by omega
        have := hE y hy
        subst e2
        rw [Int.toNat_natCast, ea, Nat.mod_self]
        exact this
    · by_cases e : y + 1 < b
      · exact h2 (by omega)
      · have e2 : y = b - 1 := by omega
        have := hN x hx
        subst e2
        rw [Int.toNat_natCast, eb, Nat.mod_self]
        exact this
theorem ofr_weak {s : List Tl} {a b : Int} {cs : List Int} (h : ofr (a - 1) (b - 1) s ⟨a, b, cs⟩ = false) : ofr a b s ⟨a, b, cs⟩ = false := by
  rw [Bool.eq_false_iff] at h ⊢
  intro ht
  refine h ?_
  unfold ofr at ht ⊢
  simp only [Bool.and_eq_true] at ht ⊢
  refine ⟨ht.1, ht.2.1, ?_⟩
  rw [agrs_iff]
  intro y hy x hx
  obtain ⟨h1, h2⟩ := agrs_iff.1 ht.2.2 y hy x hx
  exact ⟨fun g => h1 (by omega), fun g => h2 (by omega)⟩

set_option maxHeartbeats 8000000 in
theorem rtorus_any (a b : Int) (cs : List Int) (s : List Tl) (A S : Option Addr) (m n c d : Nat) (r : Bool) (w : World) (hm : m = s.length) (hn : n = cs.length) (hr : ofr a b s ⟨a, b, cs⟩ = r)
    (hS : SetIn w w.heap.size S s) (hP : IntsIn w w.heap.size A cs) (hml : m ≤ 9223372036854775807) (hnl : n ≤ 9223372036854775807) :
    Calls Tryd.prog 32 #[.slice S m d, .agg #[.int .i64 a, .int .i64 b, .slice A n c]] w fun e w' => e = .returned (.bool r) ∧ Below w.heap.size w w' := by
  have HM := Lib.hid hm
  have HN := Lib.hid hn
  have HRR := Lib.hid hr
  clear hm hn hr
  obtain ⟨W0, hW0⟩ : ∃ W0, W0 = w.alloc (.cells #[.int .i64 a, .int .i64 b, .slice A n c] 27) := ⟨_, rfl⟩
  have hb0 : Below w.heap.size w W0 := by rw [hW0]; exact (Below.refl _ _).alloc (Nat.le_refl _) _
  have hcall := fun (r : Bool) (hr : ofr (a - 1) (b - 1) s ⟨a, b, cs⟩ = r) => rof_any a b cs s A S m n c d r W0 HM.out HN.out hr (hS.keep hb0 hb0.size) (hP.keep hb0 hb0.size) hml hnl
  cases ho : ofr (a - 1) (b - 1) s ⟨a, b, cs⟩
  · have HK : Hid (r = false) := by show _ = _; rw [← HRR.out]; exact ofr_weak ho
    have hc := hcall false ho
    rw [hW0] at hc hb0
    clear hS hP hcall ho hW0
    go_enter Tryd.func32, Tryd.ntmps32
    go_wp2_with (go_at_call 50; refine hc.mono ?_; rintro e w3 ⟨rfl, hb3⟩)
    go_ret
    exact ⟨ret_bool HK.out.symm, hb0.trans (hb3.mono (by simp))⟩
  have hc := hcall true ho
  have HO := Lib.hid ho
  obtain ⟨hf, hrf, hag⟩ : form ⟨a, b, cs⟩ = true ∧ refers s ⟨a, b, cs⟩ = true ∧ agrs s ⟨a, b, cs⟩ (a - 1) (b - 1) = true := by
    have h := ho
    unfold ofr at h
    simp only [Bool.and_eq_true] at h
    exact ⟨h.1, h.2.1, h.2.2⟩
  have HF := Lib.hid hf
  have HR := Lib.hid hrf
  obtain ⟨a', b', e1, e2, h1, h2, h3, h4⟩ := form_nat hf
  have e1' : a = a' := e1
  have e2' : b = b' := e2
  subst e1'
  subst e2'
  have HAG := Lib.hid hag
  have q0 : W0.cell? ⟨w.heap.size, 0, none⟩ = some (.int .i64 (a' : Int)) := by rw [hW0]; simp
  have q1 : W0.cell? ⟨w.heap.size, 1, none⟩ = some (.int .i64 (b' : Int)) := by rw [hW0]; simp
  have q2 : W0.cell? ⟨w.heap.size, 2, none⟩ = some (.slice A n c) := by rw [hW0]; simp
  have hz : w.heap.size < W0.heap.size := by rw [hW0]; simp
  have HCL : Hid (cs.length = a' * b') := h4
  have c3' : a' ≤ 40000 := by have := Nat.le_mul_of_pos_right a' (show 0 < b' by omega); omega
  have c4' : b' ≤ 40000 := by have := Nat.le_mul_of_pos_left b' (show 0 < a' by omega); omega
  clear e1 e2 hf hrf hag ho hcall h4
  go_enter Tryd.func32, Tryd.ntmps32
  go_wp2_with fail
  rw [← hW0]
  clear hW0
  refine hc.mono ?_
  rintro e W1 ⟨rfl, hbf⟩
  have HZ : Hid (w.heap.size < W1.heap.size) := Nat.lt_of_lt_of_le hz hbf.size
  have HP0' := Lib.hid ((hbf.cell (p := ⟨w.heap.size, 0, none⟩) hz).trans q0)
  have HP1 := Lib.hid ((hbf.cell (p := ⟨w.heap.size, 1, none⟩) hz).trans q1)
  have HP2 := Lib.hid ((hbf.cell (p := ⟨w.heap.size, 2, none⟩) hz).trans q2)
  have hb1 : Below w.heap.size w W1 := hb0.trans (hbf.mono hb0.size)
  have HS := Lib.hid hS
  have HPI := Lib.hid hP
  clear q0 q1 q2 hS hP hbf hz hc
  have HIN : Hid (∀ x y : Nat, x < a' → y < b' → 0 ≤ cel ⟨a', b', cs⟩ x y ∧ cel ⟨a', b', cs⟩ x y < m) := fun x y hx hy => by have h := refers_cel HF.out HR.out x y (by simpa using hx) (by simpa using hy); rw [← HM.out] at h; exact h
  go_wp2_with fail
  go_loopw [5] (fun i wr => ∃ y : Nat, y ≤ b' ∧ i = .int .i64 y ∧ Hid (∀ j, j < y → edgeE s ⟨a', b', cs⟩ a' j) ∧ Below W1.heap.size W1 wr) (fun i _ => b' - (intOf i).toNat)
  case atStart => exact ⟨0, Nat.zero_le _, rfl, fun j h => absurd h (by omega), Below.refl _ _⟩
  case round =>
    obtain ⟨y, hy, rfl, hall, hbj⟩ := hrel
    obtain ⟨wi, rfl⟩ : ∃ wi : World, wi = wr := ⟨_, rfl⟩
    have hwi : Below w.heap.size w wi := hb1.trans (hbj.mono hb1.size)
    have q0 := (hbj.cell (p := ⟨w.heap.size, 0, none⟩) HZ.out).trans HP0'.out
    have q1 := (hbj.cell (p := ⟨w.heap.size, 1, none⟩) HZ.out).trans HP1.out
    have q2 := (hbj.cell (p := ⟨w.heap.size, 2, none⟩) HZ.out).trans HP2.out
    by_cases hlt : y < b'
    · obtain ⟨v1, hv1⟩ : ∃ v, v = cel ⟨a', b', cs⟩ (a' - 1) y := ⟨_, rfl⟩
      obtain ⟨v2, hv2⟩ : ∃ v, v = cel ⟨a', b', cs⟩ 0 y := ⟨_, rfl⟩
      obtain ⟨l1, g1⟩ : 0 ≤ v1 ∧ v1 < (m : Int) := by rw [hv1]; exact HIN.out _ _ (by omega) (by omega)
      obtain ⟨l2, g2⟩ : 0 ≤ v2 ∧ v2 < (m : Int) := by rw [hv2]; exact HIN.out _ _ (by omega) (by omega)
      obtain ⟨sb, so, rfl, hsb, hst⟩ := tl_cell HS.out (v := v1) l1 (by rw [← HM.out]; exact g1)
      have z1 := (hst v1 l1 (by rw [← HM.out]; exact g1)).2.1
      have z2 := (hst v2 l2 (by rw [← HM.out]; exact g2)).2.2.2
      obtain ⟨n1, hn1⟩ : ∃ q, q = (tl s v1).e := ⟨_, rfl⟩
      obtain ⟨n2, hn2⟩ : ∃ q, q = (tl s v2).w := ⟨_, rfl⟩
      have HE : Hid (edgeE s ⟨a', b', cs⟩ a' y ↔ n1 = n2) := by
        show _ ↔ _
        unfold edgeE
        rw [← hv1, ← hv2, ← hn1, ← hn2]
      rw [← hn1] at z1
      rw [← hn2] at z2
      have HV1 := Lib.hid hv1
      have HV2 := Lib.hid hv2
      clear hv1 hv2 hn1 hn2 hst
      have f0 := ext_cell q0
      have f1 := ext_cell q1
      have f2 := ext_cell q2
      have f3 := ext_cell ((hwi.cell (p := ⟨sb, so + v1.toNat * 4 + 1, none⟩) hsb).trans z1)
      have f4 := ext_cell ((hwi.cell (p := ⟨sb, so + v2.toNat * 4 + 3, none⟩) hsb).trans z2)
      have hsz := hbj.size
      have HI3 := Lib.hid (HPI.out.keep hwi hwi.size)
      clear z1 z2
      by_cases kk : n1 = n2
      · have j0 : (n1 == n2) = true := by simpa using kk
        have j1 : (n1 != n2) = false := by simpa using kk
        have HK : Hid (∀ j, j < y + 1 → edgeE s ⟨a', b', cs⟩ a' j) := fun j hj => by
          by_cases e : j = y
          · rw [e]; exact HE.out.2 kk
          · exact hall.out j (by omega)
        clear kk hall
        go_wp2
        clear q0 q1 q2
        refine wp_region_ext (by kernel_rfl) (by kernel_rfl) ?_
        repeat (go_big_quiet_step (first | (go_at_call 51; (with_reducible refine ext_call (rcell_any a' b' cs A n c _ _ v1 ((a' - 1)) (y) _ ?_ ?_ HV1.out ?_ ?_ h3 HCL.out HN.out (HI3.out.keep (ext_below _) (ext_below _).size))); (all_goals (first | rfl | omega)); done) | (go_at_call 51; (with_reducible refine ext_call (rcell_any a' b' cs A n c _ _ v2 (0) (y) _ ?_ ?_ HV2.out ?_ ?_ h3 HCL.out HN.out (HI3.out.keep (ext_below _) (ext_below _).size))); (all_goals (first | rfl | omega)); done)))
        refine wpQuiet_nil ?_
        intro _ hw'
        obtain ⟨xq, rfl⟩ := hw'
        obtain ⟨W4, hbW4, heW4⟩ : ∃ W4, Below wi.heap.size wi W4 ∧ ext wi xq = W4 := ⟨_, ext_below _, rfl⟩
        rw [heW4]
        clear heW4 xq f0 f1 f2 f3 f4
        have hb4 : Below W1.heap.size W1 W4 := hbj.trans (hbW4.mono hbj.size)
        go_wp2
        go_roundw
        case rel => exact ⟨y + 1, by omega, by go_num, HK, hb4⟩
        case measure => simp [intOf]; omega
      · have j0 : (n1 == n2) = false := by simpa using kk
        have j1 : (n1 != n2) = true := by simpa using kk
        have HK : Hid (r = false) := by show _ = _; rw [← HRR.out, Bool.eq_false_iff]; intro h; unfold ofr at h; simp only [Bool.and_eq_true] at h; exact kk (HE.out.1 ((agrs_torus h1 h2).1 h.2.2 |>.2.1 y hlt))
        clear kk hall
        go_wp2
        clear q0 q1 q2
        refine wp_region_ext (by kernel_rfl) (by kernel_rfl) ?_
        repeat (go_big_quiet_step (first | (go_at_call 51; (with_reducible refine ext_call (rcell_any a' b' cs A n c _ _ v1 ((a' - 1)) (y) _ ?_ ?_ HV1.out ?_ ?_ h3 HCL.out HN.out (HI3.out.keep (ext_below _) (ext_below _).size))); (all_goals (first | rfl | omega)); done) | (go_at_call 51; (with_reducible refine ext_call (rcell_any a' b' cs A n c _ _ v2 (0) (y) _ ?_ ?_ HV2.out ?_ ?_ h3 HCL.out HN.out (HI3.out.keep (ext_below _) (ext_below _).size))); (all_goals (first | rfl | omega)); done)))
        refine wpQuiet_nil ?_
        intro _ hw'
        obtain ⟨xq, rfl⟩ := hw'
        obtain ⟨W4, hbW4, heW4⟩ : ∃ W4, Below wi.heap.size wi W4 ∧ ext wi xq = W4 := ⟨_, ext_below _, rfl⟩
        rw [heW4]
        clear heW4 xq f0 f1 f2 f3 f4
        have hb4 : Below W1.heap.size W1 W4 := hbj.trans (hbW4.mono hbj.size)
        go_wp2
        go_ret
        exact ⟨ret_bool HK.out.symm, hb1.trans (hb4.mono hb1.size)⟩
    · have HEE : Hid (∀ j, j < b' → edgeE s ⟨a', b', cs⟩ a' j) := fun j hj => hall.out j (by omega)
      clear hall
      go_wp2
      clear q0 q1 q2
      go_loopw [6] (fun i wr => ∃ x : Nat, x ≤ a' ∧ i = .int .i64 x ∧ Hid (∀ j, j < x → edgeN s ⟨a', b', cs⟩ b' j) ∧ Below W1.heap.size W1 wr) (fun i _ => a' - (intOf i).toNat)
      case atStart => exact ⟨0, Nat.zero_le _, rfl, fun j h => absurd h (by omega), hbj⟩
      case round =>
        clear hbj hwi
        obtain ⟨x, hy, rfl, hall, hbj⟩ := hrel
        obtain ⟨wi, rfl⟩ : ∃ wi : World, wi = wr := ⟨_, rfl⟩
        have hwi : Below w.heap.size w wi := hb1.trans (hbj.mono hb1.size)
        have q0 := (hbj.cell (p := ⟨w.heap.size, 0, none⟩) HZ.out).trans HP0'.out
        have q1 := (hbj.cell (p := ⟨w.heap.size, 1, none⟩) HZ.out).trans HP1.out
        have q2 := (hbj.cell (p := ⟨w.heap.size, 2, none⟩) HZ.out).trans HP2.out
        by_cases hlt : x < a'
        · obtain ⟨v1, hv1⟩ : ∃ v, v = cel ⟨a', b', cs⟩ x (b' - 1) := ⟨_, rfl⟩
          obtain ⟨v2, hv2⟩ : ∃ v, v = cel ⟨a', b', cs⟩ x 0 := ⟨_, rfl⟩
          obtain ⟨l1, g1⟩ : 0 ≤ v1 ∧ v1 < (m : Int) := by rw [hv1]; exact HIN.out _ _ (by omega) (by omega)
          obtain ⟨l2, g2⟩ : 0 ≤ v2 ∧ v2 < (m : Int) := by rw [hv2]; exact HIN.out _ _ (by omega) (by omega)
          obtain ⟨sb, so, rfl, hsb, hst⟩ := tl_cell HS.out (v := v1) l1 (by rw [← HM.out]; exact g1)
          have z1 := (hst v1 l1 (by rw [← HM.out]; exact g1)).1
          have z2 := (hst v2 l2 (by rw [← HM.out]; exact g2)).2.2.1
          obtain ⟨n1, hn1⟩ : ∃ q, q = (tl s v1).n := ⟨_, rfl⟩
          obtain ⟨n2, hn2⟩ : ∃ q, q = (tl s v2).s := ⟨_, rfl⟩
          have HE : Hid (edgeN s ⟨a', b', cs⟩ b' x ↔ n1 = n2) := by
            show _ ↔ _
            unfold edgeN
            rw [← hv1, ← hv2, ← hn1, ← hn2]
          rw [← hn1] at z1
          rw [← hn2] at z2
          have HV1 := Lib.hid hv1
          have HV2 := Lib.hid hv2
          clear hv1 hv2 hn1 hn2 hst
          have f0 := ext_cell q0
          have f1 := ext_cell q1
          have f2 := ext_cell q2
          have f3 := ext_cell ((hwi.cell (p := ⟨sb, so + v1.toNat * 4, none⟩) hsb).trans z1)
          have f4 := ext_cell ((hwi.cell (p := ⟨sb, so + v2.toNat * 4 + 2, none⟩) hsb).trans z2)
          have hsz := hbj.size
          have HI3 := Lib.hid (HPI.out.keep hwi hwi.size)
          clear z1 z2
          by_cases kk : n1 = n2
          · have j0 : (n1 == n2) = true := by simpa using kk
            have j1 : (n1 != n2) = false := by simpa using kk
            have HK : Hid (∀ j, j < x + 1 → edgeN s ⟨a', b', cs⟩ b' j) := fun j hj => by
              by_cases e : j = x
              · rw [e]; exact HE.out.2 kk
              · exact hall.out j (by omega)
            clear kk hall
            go_wp2
            clear q0 q1 q2
            refine wp_region_ext (by kernel_rfl) (by kernel_rfl) ?_
            repeat (go_big_quiet_step (first | (go_at_call 51; (with_reducible refine ext_call (rcell_any a' b' cs A n c _ _ v1 (x) ((b' - 1)) _ ?_ ?_ HV1.out ?_ ?_ h3 HCL.out HN.out (HI3.out.keep (ext_below _) (ext_below _).size))); (all_goals (first | rfl | omega)); done) | (go_at_call 51; (with_reducible refine ext_call (rcell_any a' b' cs A n c _ _ v2 (x) (0) _ ?_ ?_ HV2.out ?_ ?_ h3 HCL.out HN.out (HI3.out.keep (ext_below _) (ext_below _).size))); (all_goals (first | rfl | omega)); done)))
            refine wpQuiet_nil ?_
            intro _ hw'
            obtain ⟨xq, rfl⟩ := hw'
            obtain ⟨W4, hbW4, heW4⟩ : ∃ W4, Below wi.heap.size wi W4 ∧ ext wi xq = W4 := ⟨_, ext_below _, rfl⟩
            rw [heW4]
            clear heW4 xq f0 f1 f2 f3 f4
            have hb4 : Below W1.heap.size W1 W4 := hbj.trans (hbW4.mono hbj.size)
            go_wp2
            go_roundw
            case rel => exact ⟨x + 1, by omega, by go_num, HK, hb4⟩
            case measure => simp [intOf]; omega
          · have j0 : (n1 == n2) = false := by simpa using kk
            have j1 : (n1 != n2) = true := by simpa using kk
            have HK : Hid (r = false) := by show _ = _; rw [← HRR.out, Bool.eq_false_iff]; intro h; unfold ofr at h; simp only [Bool.and_eq_true] at h; exact kk (HE.out.1 ((agrs_torus h1 h2).1 h.2.2 |>.2.2 x hlt))
            clear kk hall
            go_wp2
            clear q0 q1 q2
            refine wp_region_ext (by kernel_rfl) (by kernel_rfl) ?_
            repeat (go_big_quiet_step (first | (go_at_call 51; (with_reducible refine ext_call (rcell_any a' b' cs A n c _ _ v1 (x) ((b' - 1)) _ ?_ ?_ HV1.out ?_ ?_ h3 HCL.out HN.out (HI3.out.keep (ext_below _) (ext_below _).size))); (all_goals (first | rfl | omega)); done) | (go_at_call 51; (with_reducible refine ext_call (rcell_any a' b' cs A n c _ _ v2 (x) (0) _ ?_ ?_ HV2.out ?_ ?_ h3 HCL.out HN.out (HI3.out.keep (ext_below _) (ext_below _).size))); (all_goals (first | rfl | omega)); done)))
            refine wpQuiet_nil ?_
            intro _ hw'
            obtain ⟨xq, rfl⟩ := hw'
            obtain ⟨W4, hbW4, heW4⟩ : ∃ W4, Below wi.heap.size wi W4 ∧ ext wi xq = W4 := ⟨_, ext_below _, rfl⟩
            rw [heW4]
            clear heW4 xq f0 f1 f2 f3 f4
            have hb4 : Below W1.heap.size W1 W4 := hbj.trans (hbW4.mono hbj.size)
            go_wp2
            go_ret
            exact ⟨ret_bool HK.out.symm, hb1.trans (hb4.mono hb1.size)⟩
        · have HNN : Hid (∀ j, j < a' → edgeN s ⟨a', b', cs⟩ b' j) := fun j hj => hall.out j (by omega)
          clear hall
          have HK : Hid (r = true) := by
            show _ = _
            rw [← HRR.out]
            unfold ofr
            rw [HF.out, HR.out, (agrs_torus h1 h2).2 ⟨HAG.out, HEE.out, HNN.out⟩]
            rfl
          go_wp2
          go_ret
          exact ⟨ret_bool HK.out.symm, hwi⟩

end Go.Proofs.YthjponagoahdhaaDoor
