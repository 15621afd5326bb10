/-
  groutworkref01: Form, Of.
-/
import Derived.Test.YthjponagoahdhaaDoorRa
namespace Go.Proofs.YthjponagoahdhaaDoor
open Go.RowKit Go.Maps Go.BigFrame
set_option linter.unusedVariables false
set_option maxRecDepth 100000

theorem rform_any (a b : Int) (cs : List Int) (A : Option Addr) (n c : Nat) (r : Bool) (w : World) (hn : n = cs.length) (hr : form ⟨a, b, cs⟩ = r) :
    Calls Tryd.prog 59 #[.agg #[.int .i64 a, .int .i64 b, .slice A n c]] w fun e w' => e = .returned (.bool r) ∧ Below w.heap.size w w' := by
  have HN := Lib.hid hn.symm
  clear hn
  by_cases c1 : 1 ≤ a
  rotate_left
  · skip
    have hv : r = false := by rw [← hr]; exact noform (by have := HN.out; omega)
    subst hv
    clear hr
    go_enter Tryd.func59, Tryd.ntmps59
    go_wp2
    go_ret
    exact ⟨rfl, (Below.refl _ _).alloc (Nat.le_refl _) _⟩
  by_cases c2 : 1 ≤ b
  rotate_left
  · skip
    have hv : r = false := by rw [← hr]; exact noform (by have := HN.out; omega)
    subst hv
    clear hr
    go_enter Tryd.func59, Tryd.ntmps59
    go_wp2
    go_ret
    exact ⟨rfl, (Below.refl _ _).alloc (Nat.le_refl _) _⟩
  have k1 : a ≤ a * b := by have := Int.mul_le_mul_of_nonneg_left (show (1 : Int) ≤ b by omega) (show 0 ≤ a by omega); omega
  have k2 : b ≤ a * b := by have := Int.mul_le_mul_of_nonneg_right (show (1 : Int) ≤ a by omega) (show 0 ≤ b by omega); omega
  by_cases c3 : a ≤ 40000
  rotate_left
  · skip
    have hv : r = false := by rw [← hr]; exact noform (by have := HN.out; omega)
    subst hv
    clear hr
    go_enter Tryd.func59, Tryd.ntmps59
    go_wp2
    go_ret
    exact ⟨rfl, (Below.refl _ _).alloc (Nat.le_refl _) _⟩
  by_cases c4 : b ≤ 40000
  rotate_left
  · skip
    have hv : r = false := by rw [← hr]; exact noform (by have := HN.out; omega)
    subst hv
    clear hr
    go_enter Tryd.func59, Tryd.ntmps59
    go_wp2
    go_ret
    exact ⟨rfl, (Below.refl _ _).alloc (Nat.le_refl _) _⟩
  have k3 : a * b ≤ 1600000000 := by have := Int.mul_le_mul c3 c4 (by omega) (by omega); omega
  have k4 : 0 ≤ a * b := by omega
  by_cases c5 : a * b ≤ 40000
  rotate_left
  · skip
    have hv : r = false := by rw [← hr]; exact noform (by have := HN.out; omega)
    subst hv
    clear hr
    go_enter Tryd.func59, Tryd.ntmps59
    go_wp2
    go_ret
    exact ⟨rfl, (Below.refl _ _).alloc (Nat.le_refl _) _⟩
  by_cases c6 : (n : Int) = a * b
  rotate_left
  · have c7 : ((n : Int) == a * b) = false := by simpa using c6
    have hv : r = false := by rw [← hr]; exact noform (by have := HN.out; omega)
    subst hv
    clear hr
    go_enter Tryd.func59, Tryd.ntmps59
    go_wp2
    go_ret
    exact ⟨rfl, (Below.refl _ _).alloc (Nat.le_refl _) _⟩
  have c7 : ((n : Int) == a * b) = true := by simpa using c6
  have hv : r = true := by rw [← hr]; exact form_iff.2 ⟨c1, c2, c5, by show (cs.length : Int) = a * b; have := HN.out; omega⟩
  subst hv
  clear hr
  go_enter Tryd.func59, Tryd.ntmps59
  go_wp2
  go_ret
  exact ⟨rfl, (Below.refl _ _).alloc (Nat.le_refl _) _⟩

/-- what ref's Of says -/
def ofr (cols rows : Int) (s : List Tl) (p : Pt) : Bool := form p && (refers s p && agrs s p cols rows)
theorem ofr_noform {cols rows : Int} {s : List Tl} {p : Pt} (h : form p = false) : ofr cols rows s p = false := by simp [ofr, h]
theorem ofr_norefers {cols rows : Int} {s : List Tl} {p : Pt} (h : refers s p = false) : ofr cols rows s p = false := by simp [ofr, h]
theorem ofr_noagrs {cols rows : Int} {s : List Tl} {p : Pt} (h : agrs s p cols rows = false) : ofr cols rows s p = false := by simp [ofr, h]

set_option maxHeartbeats 8000000 in
theorem rof_any (a b : Int) (cs : List Int) (s : List Tl) (A S : Option Addr) (m n c d : Nat) (r : Bool) (w : World) (hm : m = s.length) (hn : n = cs.length) (hr : ofr (a - 1) (b - 1) s ⟨a, b, cs⟩ = r)
    (hS : SetIn w w.heap.size S s) (hP : IntsIn w w.heap.size A cs) (hml : m ≤ 9223372036854775807) (hnl : n ≤ 9223372036854775807) :
    Calls Tryd.prog 50 #[.slice S m d, .agg #[.int .i64 a, .int .i64 b, .slice A n c]] w fun e w' => e = .returned (.bool r) ∧ Below w.heap.size w w' := by
  have HM := Lib.hid hm
  have HN := Lib.hid hn
  have HRR := Lib.hid hr
  clear hm hn hr
  cases hf : form ⟨a, b, cs⟩
  · have HK : Hid (r = false) := by show _ = _; rw [← HRR.out]; exact ofr_noform hf
    have hcall := fun (W : World) => rform_any a b cs A n c false W HN.out hf
    clear hS hP hf
    go_enter Tryd.func50, Tryd.ntmps50
    go_wp2_with (go_at_call 59; refine (hcall _).mono ?_; rintro e w3 ⟨rfl, hb3⟩)
    go_ret
    exact ⟨ret_bool HK.out.symm, ((Below.refl _ _).alloc (Nat.le_refl _) _).trans (hb3.mono (by simp))⟩
  have HF := Lib.hid hf
  obtain ⟨a', b', e1, e2, h1, h2, h3, h4⟩ := form_nat hf
  have e1' : a = a' := e1
  have e2' : b = b' := e2
  subst e1'
  subst e2'
  have hcall := fun (W : World) => rform_any (a' : Int) (b' : Int) cs A n c true W HN.out hf
  clear e1 e2 hf
  have c3' : a' ≤ 40000 := by have := Nat.le_mul_of_pos_right a' (show 0 < b' by omega); omega
  have c4' : b' ≤ 40000 := by have := Nat.le_mul_of_pos_left b' (show 0 < a' by omega); omega
  have hnl' : n = a' * b' := by rw [HN.out]; exact h4
  have hn4 : n ≤ 40000 := by omega
  have HCL : Hid (cs.length = a' * b') := h4
  have HNL := Lib.hid hnl'
  clear h4 hnl'
  go_enter Tryd.func50, Tryd.ntmps50
  go_wp2_with (go_at_call 59; refine (hcall _).mono ?_; rintro e W1 ⟨rfl, hbf⟩)
  have hsf := hbf.size
  simp at hsf
  have HZ : Hid (w.heap.size + 1 ≤ W1.heap.size) := hsf
  have p0 : W1.cell? ⟨w.heap.size, 0, none⟩ = some (.int .i64 (a' : Int)) := (hbf.cell (p := ⟨w.heap.size, 0, none⟩) (by simp)).trans (by simp)
  have p1 : W1.cell? ⟨w.heap.size, 1, none⟩ = some (.int .i64 (b' : Int)) := (hbf.cell (p := ⟨w.heap.size, 1, none⟩) (by simp)).trans (by simp)
  have p2 : W1.cell? ⟨w.heap.size, 2, none⟩ = some (.slice A n c) := (hbf.cell (p := ⟨w.heap.size, 2, none⟩) (by simp)).trans (by simp)
  have hb1 : Below w.heap.size w W1 := ((Below.refl _ _).alloc (Nat.le_refl _) _).trans (hbf.mono (by simp))
  have HP0' := Lib.hid p0
  have HP1 := Lib.hid p1
  have HP2 := Lib.hid p2
  have HS := Lib.hid hS
  have HPI := Lib.hid hP
  clear p0 p1 p2 hS hP hcall hbf hsf
  have HRZ : Hid (refK m cs 0) := by show _ = _; simp
  go_loopw [5] (fun i wr => ∃ j : Nat, j ≤ n ∧ i = .int .i64 j ∧ Hid (refK m cs j) ∧ Below W1.heap.size W1 wr) (fun i _ => n - (intOf i).toNat)
  case atStart => exact ⟨0, Nat.zero_le _, rfl, HRZ, Below.refl _ _⟩
  case round =>
    clear HRZ
    obtain ⟨j, hj, rfl, hrf, hbj⟩ := hrel
    obtain ⟨wi, rfl⟩ : ∃ wi : World, wi = wr := ⟨_, rfl⟩
    have hwi : Below w.heap.size w wi := hb1.trans (hbj.mono hb1.size)
    have q2 := (hbj.cell (p := ⟨w.heap.size, 2, none⟩) HZ.out).trans HP2.out
    by_cases hlj : j < n
    · have hjc : j < cs.length := by rw [← HN.out]; exact hlj
      obtain ⟨bk, off, rfl, hbk, hc⟩ := HPI.out (ne_nil_of_lt hjc)
      obtain ⟨v, hv⟩ : ∃ v, v = cs.getD j 0 := ⟨_, rfl⟩
      have x0 := hc j hjc
      rw [← hv] at x0
      have d0 := (hwi.cell (p := ⟨bk, off + j, none⟩) hbk).trans x0
      clear x0 hc
      by_cases i0 : 0 ≤ v
      rotate_left
      · have HK : Hid (r = false) := by show _ = _; rw [← HRR.out]; exact ofr_norefers (by rw [← refers_is, ← HM.out]; exact all_bad _ _ j hjc 0 (by rw [← hv]; simp [isIdx]; omega))
        clear hv hrf hjc
        go_wp2
        go_ret
        exact ⟨ret_bool HK.out.symm, hwi⟩
      by_cases i1 : v < (m : Int)
      rotate_left
      · have HK : Hid (r = false) := by show _ = _; rw [← HRR.out]; exact ofr_norefers (by rw [← refers_is, ← HM.out]; exact all_bad _ _ j hjc 0 (by rw [← hv]; simp [isIdx]; omega))
        clear hv hrf hjc
        go_wp2
        go_ret
        exact ⟨ret_bool HK.out.symm, hwi⟩
      have HK : Hid (refK m cs (j + 1)) := all_take _ _ j hjc 0 hrf.out (by rw [← hv]; simp [isIdx, i0, i1])
      clear hv hrf hjc
      go_wp2
      go_roundw
      case rel => exact ⟨j + 1, by omega, by go_num, HK, hbj⟩
      case measure => simp [intOf]; omega
    · have HR : Hid (refers s ⟨a', b', cs⟩ = true) := by
        have h : (cs.take j).all (isIdx m) = true := hrf.out
        rw [List.take_of_length_le (by rw [← HN.out]; omega), HM.out] at h
        exact h
      clear hrf
      go_wp2
      clear q2
      go_loopw [6] (fun i wr => ∃ y : Nat, y ≤ b' ∧ i = .int .i64 y ∧ Hid (rowsOk s ⟨a', b', cs⟩ ((a' : Int) - 1) ((b' : Int) - 1) y) ∧ Below W1.heap.size W1 wr) (fun i _ => b' - (intOf i).toNat)
      case atStart => exact ⟨0, Nat.zero_le _, rfl, fun y' h => absurd h (by omega), hbj⟩
      case round =>
        clear hbj hwi
        obtain ⟨y, hy, rfl, hrows, hby⟩ := hrel
        obtain ⟨wy, rfl⟩ : ∃ wy : World, wy = wr := ⟨_, rfl⟩
        have hwy : Below w.heap.size w wy := hb1.trans (hby.mono hb1.size)
        have q1 := (hby.cell (p := ⟨w.heap.size, 1, none⟩) HZ.out).trans HP1.out
        by_cases hlt : y < b'
        · go_wp2
          clear q1
          go_loopw [7] (fun i wr => ∃ x : Nat, x ≤ a' ∧ i = .int .i64 x ∧ Hid (rowOk s ⟨a', b', cs⟩ ((a' : Int) - 1) ((b' : Int) - 1) y x) ∧ Below W1.heap.size W1 wr) (fun i _ => a' - (intOf i).toNat)
          case atStart => exact ⟨0, Nat.zero_le _, rfl, fun x' h => absurd h (by omega), hby⟩
          case round =>
            clear hby hwy
            obtain ⟨x, hx, rfl, hrow, hbx⟩ := hrel
            obtain ⟨wi, rfl⟩ : ∃ wi : World, wi = wr := ⟨_, rfl⟩
            have hwi : Below w.heap.size w wi := hb1.trans (hbx.mono hb1.size)
            have q0 := (hbx.cell (p := ⟨w.heap.size, 0, none⟩) HZ.out).trans HP0'.out
            by_cases hltx : x < a'
            · have q1 := (hbx.cell (p := ⟨w.heap.size, 1, none⟩) HZ.out).trans HP1.out
              have q2 := (hbx.cell (p := ⟨w.heap.size, 2, none⟩) HZ.out).trans HP2.out
              obtain ⟨v0, hv0⟩ : ∃ v, v = cel ⟨a', b', cs⟩ x y := ⟨_, rfl⟩
              obtain ⟨v1, hv1⟩ : ∃ v, v = cel ⟨a', b', cs⟩ ((x + 1) % a') y := ⟨_, rfl⟩
              obtain ⟨v2, hv2⟩ : ∃ v, v = cel ⟨a', b', cs⟩ x ((y + 1) % b') := ⟨_, rfl⟩
              have HIN : Hid (∀ x y : Nat, x < a' → y < b' → 0 ≤ cel ⟨a', b', cs⟩ x y ∧ cel ⟨a', b', cs⟩ x y < m) := fun x y hx hy => by have h := refers_cel HF.out HR.out x y (by simpa using hx) (by simpa using hy); rw [← HM.out] at h; exact h
              have hxm := Nat.mod_lt (x + 1) (show 0 < a' by omega)
              have hym := Nat.mod_lt (y + 1) (show 0 < b' by omega)
              obtain ⟨l0, g0⟩ : 0 ≤ v0 ∧ v0 < (m : Int) := by rw [hv0]; exact HIN.out x y hltx hlt
              obtain ⟨l1, g1⟩ : 0 ≤ v1 ∧ v1 < (m : Int) := by rw [hv1]; exact HIN.out _ y hxm hlt
              obtain ⟨l2, g2⟩ : 0 ≤ v2 ∧ v2 < (m : Int) := by rw [hv2]; exact HIN.out x _ hltx hym
              obtain ⟨sb, so, rfl, hsb, hst⟩ := tl_cell HS.out (v := v0) l0 (by rw [← HM.out]; exact g0)
              obtain ⟨s0, s1, s2, s3⟩ := hst v0 l0 (by rw [← HM.out]; exact g0)
              obtain ⟨-, -, -, z1⟩ := hst v1 l1 (by rw [← HM.out]; exact g1)
              obtain ⟨-, -, z2, -⟩ := hst v2 l2 (by rw [← HM.out]; exact g2)
              obtain ⟨n0, hn0⟩ : ∃ q, q = (tl s v0).n := ⟨_, rfl⟩
              obtain ⟨e0, he0⟩ : ∃ q, q = (tl s v0).e := ⟨_, rfl⟩
              obtain ⟨u0, hu0⟩ : ∃ q, q = (tl s v0).s := ⟨_, rfl⟩
              obtain ⟨r0, hr0⟩ : ∃ q, q = (tl s v0).w := ⟨_, rfl⟩
              obtain ⟨r1, hr1⟩ : ∃ q, q = (tl s v1).w := ⟨_, rfl⟩
              obtain ⟨u2, hu2⟩ : ∃ q, q = (tl s v2).s := ⟨_, rfl⟩
              have HAG : Hid (agrAt s ⟨a', b', cs⟩ ((a' : Int) - 1) ((b' : Int) - 1) x y ↔ ((x : Int) < ((a' : Int) - 1) → e0 = r1) ∧ ((y : Int) < ((b' : Int) - 1) → n0 = u2)) := by
                show _ ↔ _
                unfold agrAt
                rw [Int.toNat_natCast, Int.toNat_natCast, ← hv0, ← hv1, ← hv2, ← he0, ← hr1, ← hn0, ← hu2]
              have HOK : Hid (((x : Int) < ((a' : Int) - 1) → e0 = r1) → ((y : Int) < ((b' : Int) - 1) → n0 = u2) → rowOk s ⟨a', b', cs⟩ ((a' : Int) - 1) ((b' : Int) - 1) y (x + 1)) := fun g1 g2 => rowOk_succ hrow.out (HAG.out.2 ⟨g1, g2⟩)
              have HBAD : Hid (¬ (((x : Int) < ((a' : Int) - 1) → e0 = r1) ∧ ((y : Int) < ((b' : Int) - 1) → n0 = u2)) → r = false) := fun g => by rw [← HRR.out]; exact ofr_noagrs (agrs_bad x y (by simpa using hltx) (by simpa using hlt) (fun h => g (HAG.out.1 h)))
              rw [← hn0] at s0
              rw [← he0] at s1
              rw [← hu0] at s2
              rw [← hr0] at s3
              rw [← hr1] at z1
              rw [← hu2] at z2
              clear hn0 he0 hu0 hr0 hr1 hu2 HAG HIN hxm hym hst
              have HV0 := Lib.hid hv0
              have HV1 := Lib.hid hv1
              have HV2 := Lib.hid hv2
              clear hv0 hv1 hv2
              have t0 := (hwi.cell (p := ⟨sb, so + v0.toNat * 4, none⟩) hsb).trans s0
              have t1 := (hwi.cell (p := ⟨sb, so + v0.toNat * 4 + 1, none⟩) hsb).trans s1
              have t2 := (hwi.cell (p := ⟨sb, so + v0.toNat * 4 + 2, none⟩) hsb).trans s2
              have t3 := (hwi.cell (p := ⟨sb, so + v0.toNat * 4 + 3, none⟩) hsb).trans s3
              have y1 := (hwi.cell (p := ⟨sb, so + v1.toNat * 4 + 3, none⟩) hsb).trans z1
              have y2 := (hwi.cell (p := ⟨sb, so + v2.toNat * 4 + 2, none⟩) hsb).trans z2
              clear s0 s1 s2 s3 z1 z2 hrow
              have HIwi := Lib.hid (HPI.out.keep hwi hwi.size)
              have hsz := hbx.size
              have hws : w.heap.size < wi.heap.size := Nat.lt_of_lt_of_le HZ.out hsz
              have hsw : sb < wi.heap.size := by have := hwi.size; omega
              go_wp2_with (go_at_call 51; refine (rcell_any a' b' cs A n c _ _ v0 x y _ rfl rfl HV0.out hltx hlt h3 HCL.out HN.out HIwi.out).mono ?_; rintro e wk ⟨rfl, hbk⟩; have u0' := (hbk.cell (p := ⟨sb, so + v0.toNat * 4, none⟩) hsw).trans t0; have u1' := (hbk.cell (p := ⟨sb, so + v0.toNat * 4 + 1, none⟩) hsw).trans t1; have u2' := (hbk.cell (p := ⟨sb, so + v0.toNat * 4 + 2, none⟩) hsw).trans t2; have u3' := (hbk.cell (p := ⟨sb, so + v0.toNat * 4 + 3, none⟩) hsw).trans t3; have hsk := hbk.size; have hswk : sb < wk.heap.size := Nat.lt_of_lt_of_le hsw hsk)
              clear t0 t1 t2 t3 u0' u1' u2' u3' l0 g0
              have hwk : Below w.heap.size w wk := hwi.trans (hbk.mono hwi.size)
              have hwsk : w.heap.size < wk.heap.size := Nat.lt_of_lt_of_le hws hsk
              obtain ⟨W3, hW3⟩ : ∃ W3, W3 = wk.alloc (.cells #[.int .i64 n0, .int .i64 e0, .int .i64 u0, .int .i64 r0] 43) := ⟨_, rfl⟩
              have hz3 : W3.heap.size = wk.heap.size + 1 := by rw [hW3]; simp
              have f0 := ext_cell (show W3.cell? ⟨wk.heap.size, 0, none⟩ = some (.int .i64 n0) by rw [hW3]; simp)
              have f1 := ext_cell (show W3.cell? ⟨wk.heap.size, 1, none⟩ = some (.int .i64 e0) by rw [hW3]; simp)
              have hb3 : Below wk.heap.size wk W3 := by rw [hW3]; exact (Below.refl _ _).alloc (Nat.le_refl _) _
              rw [← hW3]
              clear hW3
              have hb43 : Below wi.heap.size wi W3 := hbk.trans (hb3.mono hsk)
              have f2 := ext_cell ((hb43.cell (p := ⟨w.heap.size, 0, none⟩) hws).trans q0)
              have f3 := ext_cell ((hb43.cell (p := ⟨w.heap.size, 1, none⟩) hws).trans q1)
              have f4 := ext_cell ((hb43.cell (p := ⟨w.heap.size, 2, none⟩) hws).trans q2)
              have f5 := ext_cell ((hb43.cell (p := ⟨sb, so + v1.toNat * 4 + 3, none⟩) hsw).trans y1)
              have f6 := ext_cell ((hb43.cell (p := ⟨sb, so + v2.toNat * 4 + 2, none⟩) hsw).trans y2)
              have hr3 : Below W1.heap.size W1 W3 := hbx.trans (hb43.mono hbx.size)
              have hw3 : Below w.heap.size w W3 := hwi.trans (hb43.mono hwi.size)
              have HI3 := Lib.hid (HPI.out.keep hw3 hw3.size)
              clear q0 q1 q2 y1 y2 hz3 hsz HIwi
              have HMX : Hid (x + 1 < a' → v1 = cel ⟨a', b', cs⟩ (x + 1) y) := fun h => by rw [HV1.out, Nat.mod_eq_of_lt h]
              have HMY : Hid (y + 1 < b' → v2 = cel ⟨a', b', cs⟩ x (y + 1)) := fun h => by rw [HV2.out, Nat.mod_eq_of_lt h]
              by_cases hlx : x + 1 < a'
              · have d1 : decide ((x : Int) + 1 < a') = true := decide_eq_true (by omega)
                by_cases kx : e0 = r1
                · have j0 : (e0 == r1) = true := by simpa using kx
                  have j1 : (e0 != r1) = false := by simpa using kx
                  have HG1 : Hid ((x : Int) < ((a' : Int) - 1) → e0 = r1) := fun _ => kx
                  clear kx
                  by_cases hly : y + 1 < b'
                  · have d2 : decide ((y : Int) + 1 < b') = true := decide_eq_true (by omega)
                    by_cases kk : n0 = u2
                    · have j2 : (n0 == u2) = true := by simpa using kk
                      have j3 : (n0 != u2) = false := by simpa using kk
                      have HK : Hid (rowOk s ⟨a', b', cs⟩ ((a' : Int) - 1) ((b' : Int) - 1) y (x + 1)) := HOK.out HG1.out (fun _ => kk)
                      clear kk
                      refine wp_region_ext (by kernel_rfl) (by kernel_rfl) ?_
                      repeat (go_big_quiet_step (first | (go_at_call 51; exact ext_call (rcell_any a' b' cs A n c _ _ v1 (x + 1) y _ (by push_cast; rfl) rfl (HMX.out hlx) hlx hlt h3 HCL.out HN.out (HI3.out.keep (ext_below _) (ext_below _).size))) | (go_at_call 51; exact ext_call (rcell_any a' b' cs A n c _ _ v2 x (y + 1) _ rfl (by push_cast; rfl) (HMY.out hly) hltx hly h3 HCL.out HN.out (HI3.out.keep (ext_below _) (ext_below _).size)))))
                      refine wpQuiet_nil ?_
                      intro _ hw'
                      obtain ⟨xq, rfl⟩ := hw'
                      obtain ⟨W4, hbW4, heW4⟩ : ∃ W4, Below W3.heap.size W3 W4 ∧ ext W3 xq = W4 := ⟨_, ext_below _, rfl⟩
                      rw [heW4]
                      clear heW4 xq f0 f1 f2 f3 f4 f5 f6
                      have hb4 : Below W1.heap.size W1 W4 := hr3.trans (hbW4.mono hr3.size)
                      go_wp2
                      go_roundw
                      case rel => exact ⟨x + 1, by omega, by go_num, HK, hb4⟩
                      case measure => simp [intOf]; omega
                    · have j2 : (n0 == u2) = false := by simpa using kk
                      have j3 : (n0 != u2) = true := by simpa using kk
                      have HK : Hid (r = false) := HBAD.out (fun g => kk (g.2 (by omega)))
                      clear kk
                      refine wp_region_ext (by kernel_rfl) (by kernel_rfl) ?_
                      repeat (go_big_quiet_step (first | (go_at_call 51; exact ext_call (rcell_any a' b' cs A n c _ _ v1 (x + 1) y _ (by push_cast; rfl) rfl (HMX.out hlx) hlx hlt h3 HCL.out HN.out (HI3.out.keep (ext_below _) (ext_below _).size))) | (go_at_call 51; exact ext_call (rcell_any a' b' cs A n c _ _ v2 x (y + 1) _ rfl (by push_cast; rfl) (HMY.out hly) hltx hly h3 HCL.out HN.out (HI3.out.keep (ext_below _) (ext_below _).size)))))
                      refine wpQuiet_nil ?_
                      intro _ hw'
                      obtain ⟨xq, rfl⟩ := hw'
                      obtain ⟨W4, hbW4, heW4⟩ : ∃ W4, Below W3.heap.size W3 W4 ∧ ext W3 xq = W4 := ⟨_, ext_below _, rfl⟩
                      rw [heW4]
                      clear heW4 xq f0 f1 f2 f3 f4 f5 f6
                      have hb4 : Below W1.heap.size W1 W4 := hr3.trans (hbW4.mono hr3.size)
                      go_wp2
                      go_ret
                      exact ⟨ret_bool HK.out.symm, hb1.trans (hb4.mono hb1.size)⟩
                  · have d2 : decide ((y : Int) + 1 < b') = false := decide_eq_false (by omega)
                    have HK : Hid (rowOk s ⟨a', b', cs⟩ ((a' : Int) - 1) ((b' : Int) - 1) y (x + 1)) := HOK.out HG1.out (fun h => absurd h (by omega))
                    refine wp_region_ext (by kernel_rfl) (by kernel_rfl) ?_
                    repeat (go_big_quiet_step (first | (go_at_call 51; exact ext_call (rcell_any a' b' cs A n c _ _ v1 (x + 1) y _ (by push_cast; rfl) rfl (HMX.out hlx) hlx hlt h3 HCL.out HN.out (HI3.out.keep (ext_below _) (ext_below _).size)))))
                    refine wpQuiet_nil ?_
                    intro _ hw'
                    obtain ⟨xq, rfl⟩ := hw'
                    obtain ⟨W4, hbW4, heW4⟩ : ∃ W4, Below W3.heap.size W3 W4 ∧ ext W3 xq = W4 := ⟨_, ext_below _, rfl⟩
                    rw [heW4]
                    clear heW4 xq f0 f1 f2 f3 f4 f5 f6
                    have hb4 : Below W1.heap.size W1 W4 := hr3.trans (hbW4.mono hr3.size)
                    go_wp2
                    go_roundw
                    case rel => exact ⟨x + 1, by omega, by go_num, HK, hb4⟩
                    case measure => simp [intOf]; omega
                · have j0 : (e0 == r1) = false := by simpa using kx
                  have j1 : (e0 != r1) = true := by simpa using kx
                  have HK : Hid (r = false) := HBAD.out (fun g => kx (g.1 (by omega)))
                  clear kx
                  refine wp_region_ext (by kernel_rfl) (by kernel_rfl) ?_
                  repeat (go_big_quiet_step (first | (go_at_call 51; exact ext_call (rcell_any a' b' cs A n c _ _ v1 (x + 1) y _ (by push_cast; rfl) rfl (HMX.out hlx) hlx hlt h3 HCL.out HN.out (HI3.out.keep (ext_below _) (ext_below _).size)))))
                  refine wpQuiet_nil ?_
                  intro _ hw'
                  obtain ⟨xq, rfl⟩ := hw'
                  obtain ⟨W4, hbW4, heW4⟩ : ∃ W4, Below W3.heap.size W3 W4 ∧ ext W3 xq = W4 := ⟨_, ext_below _, rfl⟩
                  rw [heW4]
                  clear heW4 xq f0 f1 f2 f3 f4 f5 f6
                  have hb4 : Below W1.heap.size W1 W4 := hr3.trans (hbW4.mono hr3.size)
                  go_wp2
                  go_ret
                  exact ⟨ret_bool HK.out.symm, hb1.trans (hb4.mono hb1.size)⟩
              · have d1 : decide ((x : Int) + 1 < a') = false := decide_eq_false (by omega)
                have HG1 : Hid ((x : Int) < ((a' : Int) - 1) → e0 = r1) := fun h => absurd h (by omega)
                by_cases hly : y + 1 < b'
                · have d2 : decide ((y : Int) + 1 < b') = true := decide_eq_true (by omega)
                  by_cases kk : n0 = u2
                  · have j2 : (n0 == u2) = true := by simpa using kk
                    have j3 : (n0 != u2) = false := by simpa using kk
                    have HK : Hid (rowOk s ⟨a', b', cs⟩ ((a' : Int) - 1) ((b' : Int) - 1) y (x + 1)) := HOK.out HG1.out (fun _ => kk)
                    clear kk
                    refine wp_region_ext (by kernel_rfl) (by kernel_rfl) ?_
                    repeat (go_big_quiet_step (first | (go_at_call 51; exact ext_call (rcell_any a' b' cs A n c _ _ v2 x (y + 1) _ rfl (by push_cast; rfl) (HMY.out hly) hltx hly h3 HCL.out HN.out (HI3.out.keep (ext_below _) (ext_below _).size)))))
                    refine wpQuiet_nil ?_
                    intro _ hw'
                    obtain ⟨xq, rfl⟩ := hw'
                    obtain ⟨W4, hbW4, heW4⟩ : ∃ W4, Below W3.heap.size W3 W4 ∧ ext W3 xq = W4 := ⟨_, ext_below _, rfl⟩
                    rw [heW4]
                    clear heW4 xq f0 f1 f2 f3 f4 f5 f6
                    have hb4 : Below W1.heap.size W1 W4 := hr3.trans (hbW4.mono hr3.size)
                    go_wp2
                    go_roundw
                    case rel => exact ⟨x + 1, by omega, by go_num, HK, hb4⟩
                    case measure => simp [intOf]; omega
                  · have j2 : (n0 == u2) = false := by simpa using kk
                    have j3 : (n0 != u2) = true := by simpa using kk
                    have HK : Hid (r = false) := HBAD.out (fun g => kk (g.2 (by omega)))
                    clear kk
                    refine wp_region_ext (by kernel_rfl) (by kernel_rfl) ?_
                    repeat (go_big_quiet_step (first | (go_at_call 51; exact ext_call (rcell_any a' b' cs A n c _ _ v2 x (y + 1) _ rfl (by push_cast; rfl) (HMY.out hly) hltx hly h3 HCL.out HN.out (HI3.out.keep (ext_below _) (ext_below _).size)))))
                    refine wpQuiet_nil ?_
                    intro _ hw'
                    obtain ⟨xq, rfl⟩ := hw'
                    obtain ⟨W4, hbW4, heW4⟩ : ∃ W4, Below W3.heap.size W3 W4 ∧ ext W3 xq = W4 := ⟨_, ext_below _, rfl⟩
                    rw [heW4]
                    clear heW4 xq f0 f1 f2 f3 f4 f5 f6
                    have hb4 : Below W1.heap.size W1 W4 := hr3.trans (hbW4.mono hr3.size)
                    go_wp2
                    go_ret
                    exact ⟨ret_bool HK.out.symm, hb1.trans (hb4.mono hb1.size)⟩
                · have d2 : decide ((y : Int) + 1 < b') = false := decide_eq_false (by omega)
                  have HK : Hid (rowOk s ⟨a', b', cs⟩ ((a' : Int) - 1) ((b' : Int) - 1) y (x + 1)) := HOK.out HG1.out (fun h => absurd h (by omega))
                  refine wp_region_ext (by kernel_rfl) (by kernel_rfl) ?_
                  repeat (go_big_quiet_step (fail))
                  refine wpQuiet_nil ?_
                  intro _ hw'
                  obtain ⟨xq, rfl⟩ := hw'
                  obtain ⟨W4, hbW4, heW4⟩ : ∃ W4, Below W3.heap.size W3 W4 ∧ ext W3 xq = W4 := ⟨_, ext_below _, rfl⟩
                  rw [heW4]
                  clear heW4 xq f0 f1 f2 f3 f4 f5 f6
                  have hb4 : Below W1.heap.size W1 W4 := hr3.trans (hbW4.mono hr3.size)
                  go_wp2
                  go_roundw
                  case rel => exact ⟨x + 1, by omega, by go_num, HK, hb4⟩
                  case measure => simp [intOf]; omega
            · have HR2 : Hid (rowsOk s ⟨a', b', cs⟩ ((a' : Int) - 1) ((b' : Int) - 1) (y + 1)) := rowsOk_succ hrows.out (fun x' hx' => hrow.out x' (by simp at hx'; omega))
              clear hrow hrows
              go_wp2
              go_roundw
              case rel => exact ⟨y + 1, by omega, by go_num, HR2, hbx⟩
              case measure => simp [intOf]; omega
        · have HK : Hid (r = true) := by
            show _ = _
            rw [← HRR.out]
            unfold ofr
            rw [HF.out, HR.out, agrs_iff.2 (fun y' hy' x hx => hrows.out y' (by simp at hy'; omega) x hx)]
            rfl
          clear hrows
          go_wp2
          go_ret
          exact ⟨ret_bool HK.out.symm, hwy⟩
end Go.Proofs.YthjponagoahdhaaDoor
