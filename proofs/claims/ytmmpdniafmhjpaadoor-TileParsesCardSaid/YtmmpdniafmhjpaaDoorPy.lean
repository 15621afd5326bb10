/-
  groutworkref01.Parse, walked: it is pParse.
-/
import Derived.Test.YtmmpdniafmhjpaaDoorPx
import Derived.Test.YtmmpdniafmhjpaaDoorRe
namespace Go.Proofs.YtmmpdniafmhjpaaDoor
open Go.RowKit Go.Maps Go.BigFrame Go.Sort
set_option linter.unusedVariables false
set_option maxRecDepth 100000

def IsRParse (s : ByteArray) (W : World) (e : Ending) (w' : World) : Prop :=
  Below W.heap.size W w' ∧ match pParse s with
  | some set => ∃ A c, e = .returned (.tuple #[.slice A set.length c, .bool true]) ∧ SetNew w' W.heap.size A set
  | none => e = .returned (.tuple #[.slice none 0 0, .bool false])
theorem IsRParse.no {s : ByteArray} {W : World} {w' : World} (hb : Below W.heap.size W w') (h : pParse s = none) : IsRParse s W (.returned (.tuple #[.slice none 0 0, .bool false])) w' := by
  refine ⟨hb, ?_⟩
  rw [h]

/-- what has been read of s when k is the next byte; one step behind the last one: the last number is put, too -/
def Rd (s : ByteArray) (k : Nat) (st : Ps) : Prop := (k ≤ s.size ∧ runs Ps.zero (s.data.toList.take k) = some st) ∨ (k = s.size + 1 ∧ ∃ st0, runs Ps.zero s.data.toList = some st0 ∧ st0.fin = some st)
/-- the four numbers of a tile that is being read -/
def LIn (w : World) (b : Nat) (st : Ps) : Prop := (w.cell? ⟨b, 0, none⟩ = some (.int .i64 (st.l0 : Int)) ∧ w.cell? ⟨b, 1, none⟩ = some (.int .i64 (st.l1 : Int)) ∧ w.cell? ⟨b, 2, none⟩ = some (.int .i64 (st.l2 : Int)) ∧ w.cell? ⟨b, 3, none⟩ = some (.int .i64 (st.l3 : Int))) ∧ ∀ o, w.frozen? ⟨b, o, none⟩ = false

theorem LIn.put {w : World} {b : Nat} {st : Ps} (h : LIn w b st) (hp : st.pl ≤ 3) (j : Nat) (hj : j = st.pl) (N : Int) (hN : N = st.n) : LIn (w.setCell ⟨b, j, none⟩ (.int .i64 N)) b st.put := by
  subst hj
  subst hN
  have ne : ∀ i j : Nat, i ≠ j → (⟨b, i, none⟩ : Addr) ≠ ⟨b, j, none⟩ := fun i j h e => h (by injection e)
  obtain ⟨acc, l0, l1, l2, l3, pl, n, many⟩ := st
  obtain ⟨⟨h0, h1, h2, h3⟩, hz⟩ := h
  simp only at hp h0 h1 h2 h3 ⊢
  refine ⟨?_, fun o => (World.frozen?_setCell _ _ _ _).trans (hz o)⟩
  match pl, hp with
  | 0, _ => exact ⟨World.cell?_setCell_same _ _ _ h0, (World.cell?_setCell_other _ _ _ _ (ne _ _ (by omega))).trans h1, (World.cell?_setCell_other _ _ _ _ (ne _ _ (by omega))).trans h2, (World.cell?_setCell_other _ _ _ _ (ne _ _ (by omega))).trans h3⟩
  | 1, _ => exact ⟨(World.cell?_setCell_other _ _ _ _ (ne _ _ (by omega))).trans h0, World.cell?_setCell_same _ _ _ h1, (World.cell?_setCell_other _ _ _ _ (ne _ _ (by omega))).trans h2, (World.cell?_setCell_other _ _ _ _ (ne _ _ (by omega))).trans h3⟩
  | 2, _ => exact ⟨(World.cell?_setCell_other _ _ _ _ (ne _ _ (by omega))).trans h0, (World.cell?_setCell_other _ _ _ _ (ne _ _ (by omega))).trans h1, World.cell?_setCell_same _ _ _ h2, (World.cell?_setCell_other _ _ _ _ (ne _ _ (by omega))).trans h3⟩
  | 3, _ => exact ⟨(World.cell?_setCell_other _ _ _ _ (ne _ _ (by omega))).trans h0, (World.cell?_setCell_other _ _ _ _ (ne _ _ (by omega))).trans h1, (World.cell?_setCell_other _ _ _ _ (ne _ _ (by omega))).trans h2, World.cell?_setCell_same _ _ _ h3⟩
theorem LIn.keep {w w' : World} {b : Nat} {st : Ps} (h : LIn w b st) (hk : w'.heap[b]? = w.heap[b]?) : LIn w' b st := by
  have c := fun (o : Nat) => World.cell?_of_block (w := w) (w' := w') (a := ⟨b, o, none⟩) hk
  refine ⟨⟨(c 0).trans h.1.1, (c 1).trans h.1.2.1, (c 2).trans h.1.2.2.1, (c 3).trans h.1.2.2.2⟩, fun o => ?_⟩
  have := h.2 o
  unfold World.frozen? at this ⊢
  simp only [hk]
  exact this
theorem byte_at (s : ByteArray) (k : Nat) (hk : k < s.size) : s.data.toList[k]'(by rw [← size_list]; exact hk) = s[k] := rfl
theorem isD_iff {c : UInt8} : isD c = true ↔ 48 ≤ (c.toNat : Int) ∧ (c.toNat : Int) ≤ 57 := by
  unfold isD
  rw [decide_eq_true_iff]
  omega
theorem step_is (st : Ps) (c : UInt8) (r : Option Ps) (h : ¬ (48 ≤ (c.toNat : Int) ∧ (c.toNat : Int) ≤ 57 ∧ (st.many : Int) < 4))
    (hr : r = if st.many = 0 then none else if st.pl = 3 then (if c = 32 then some st.put else none) else (if c = 46 then some st.put else none)) : st.step c = r := by
  rw [hr]
  unfold Ps.step
  rw [if_neg (fun hh => h (by have := isD_iff.1 hh.1; omega))]
theorem rd_next {s : ByteArray} {k : Nat} {st st' : Ps} (hk : k < s.size) (h : runs Ps.zero (s.data.toList.take k) = some st) (hs : st.step s[k] = some st') : Rd s (k + 1) st' :=
  Or.inl ⟨hk, by rw [runs_take (e := st') h (by rw [← size_list]; exact hk) s[k] (byte_at s k hk)]; exact hs⟩
theorem rd_stop {s : ByteArray} {k : Nat} {st : Ps} (h0 : ¬ s.size = 0) (hk : k < s.size) (h : runs Ps.zero (s.data.toList.take k) = some st) (hs : st.step s[k] = none) : pParse s = none :=
  parse_stop h0 h (by rw [← size_list]; exact hk) (by rw [byte_at s k hk]; exact hs)
theorem byte_eq32 {c : UInt8} (h : (c.toNat : Int) = 32) : c = 32 := UInt8.toNat_inj.1 (by show c.toNat = 32; omega)
theorem byte_eq46 {c : UInt8} (h : (c.toNat : Int) = 46) : c = 46 := UInt8.toNat_inj.1 (by show c.toNat = 46; omega)
theorem byte_ne32 {c : UInt8} (h : ¬ (c.toNat : Int) = 32) : ¬ c = 32 := fun e => h (by rw [e]; rfl)
theorem byte_ne46 {c : UInt8} (h : ¬ (c.toNat : Int) = 46) : ¬ c = 46 := fun e => h (by rw [e]; rfl)
theorem put_many (st : Ps) (h : st.pl ≤ 3) : st.put.n = 0 ∧ st.put.many = 0 ∧ (st.pl < 3 → st.put.pl = st.pl + 1 ∧ st.put.acc = st.acc) ∧ (st.pl = 3 → st.put.pl = 0 ∧ st.put.acc = st.acc ++ [⟨st.l0, st.l1, st.l2, st.n⟩]) := by
  obtain ⟨acc, l0, l1, l2, l3, pl, n, many⟩ := st
  match pl, h with
  | 0, _ => exact ⟨rfl, rfl, fun _ => ⟨rfl, rfl⟩, fun h => by simp at h⟩
  | 1, _ => exact ⟨rfl, rfl, fun _ => ⟨rfl, rfl⟩, fun h => by simp at h⟩
  | 2, _ => exact ⟨rfl, rfl, fun _ => ⟨rfl, rfl⟩, fun h => by simp at h⟩
  | 3, _ => exact ⟨rfl, rfl, fun h => by simp at h, fun _ => ⟨rfl, rfl⟩⟩

set_option maxHeartbeats 8000000 in
theorem rparse_any (s : ByteArray) (hs : s.size ≤ 70000) (w : World) :
    Calls Tryd.prog 26 #[.string s] w (IsRParse s w) := by
  by_cases h0 : s.size = 0
  · have hp := Lib.hid (parse_nil s h0)
    have he : s.toList = [] := by rw [ByteArray.toList_eq]; exact List.eq_nil_of_length_eq_zero (by rw [← size_list]; exact h0)
    clear h0
    go_enter Tryd.func26, Tryd.ntmps26
    go_wp2
    refine bodyPost_ret (v := .tuple #[.slice none 0 0, .bool true]) (by simp [results, Tryd.results26, go_sem]) rfl ?_
    refine ⟨Below.refl _ _, ?_⟩
    rw [hp.out]
    exact ⟨none, 0, rfl, fun h => absurd rfl h⟩
  have he : s.toList.isEmpty = false := size_empty (decide_eq_false h0)
  have H0 := Lib.hid h0
  obtain ⟨i0, hi, hz0, hz1, hz2⟩ := info_parts tile_info
  clear h0
  go_enter Tryd.func26, Tryd.ntmps26
  go_wp2
  obtain ⟨W0, hW0⟩ : ∃ W0, W0 = w.alloc (.cells #[.int .i64 0, .int .i64 0, .int .i64 0, .int .i64 0] 78) := ⟨_, rfl⟩
  have hb0 : Below w.heap.size w W0 := by rw [hW0]; exact (Below.refl _ _).alloc (Nat.le_refl _) _
  have hz0' : W0.heap.size = w.heap.size + 1 := by rw [hW0]; simp
  have HL0 : Hid (LIn W0 w.heap.size Ps.zero) := by
    rw [hW0]
    exact ⟨⟨by simp [Ps.zero], by simp [Ps.zero], by simp [Ps.zero], by simp [Ps.zero]⟩, fun o => World.frozen?_alloc_at _ _ _ _ (by simp)⟩
  have HR0 : Hid (Rd s 0 Ps.zero) := Or.inl ⟨Nat.zero_le _, rfl⟩
  rw [← hW0]
  clear hW0
  go_loopw [4, 6, 7, 8, 9] (fun v u6 u7 u8 i wr => ∃ (k : Nat) (st : Ps) (P N M : Int), k ≤ s.size + 1 ∧ i = .int .i64 k ∧ u6 = .int .i64 P ∧ u7 = .int .i64 N ∧ u8 = .int .i64 M ∧ Hid (P = st.pl ∧ N = st.n ∧ M = st.many ∧ st.good ∧ st.acc.length ≤ k ∧ Rd s k st) ∧ Hid (LIn wr w.heap.size st) ∧ wr.ownsRow (w.heap.size + 1) 58 4 v st.acc.length (tcells st.acc) ∧ W0.heap.size ≤ wr.heap.size ∧ Below w.heap.size W0 wr) (fun _ _ _ _ i _ => s.size + 1 - (intOf i).toNat)
  case atStart => exact ⟨0, Ps.zero, 0, 0, 0, by omega, rfl, rfl, rfl, rfl, ⟨rfl, rfl, rfl, good_zero, Nat.zero_le _, HR0.out⟩, HL0, World.ownsRow_nil W0 _ _ 4, Nat.le_refl _, Below.refl _ _⟩
  case round =>
    clear HR0 HL0
    obtain ⟨k, st, P, N, M, hk, rfl, rfl, rfl, rfl, hst, hli, hown, hsz, hbr⟩ := hrel
    obtain ⟨wi, rfl⟩ : ∃ wi : World, wi = wr := ⟨_, rfl⟩
    have hN0 : 0 ≤ N ∧ N < 10000 := by have := good_n hst.out.2.2.2.1; have := hst.out.2.1; omega
    have hM0 : 0 ≤ M ∧ M ≤ 4 := by have := hst.out.2.2.2.1.2.1; have := hst.out.2.2.1; omega
    have hP0 : 0 ≤ P ∧ P ≤ 3 := by have := hst.out.2.2.2.1.1; have := hst.out.1; omega
    obtain ⟨N1, N2⟩ := hN0
    obtain ⟨M1, M2⟩ := hM0
    obtain ⟨P1, P2⟩ := hP0
    by_cases hks : k < s.size
    · have hruns : runs Ps.zero (s.data.toList.take k) = some st := by
        rcases hst.out.2.2.2.2.2 with h | h
        · exact h.2
        · omega
      have kn1 : ¬ k = s.size := by omega
      have kn2 : ((k : Int) == (s.size : Int)) = false := by rw [beq_eq_false_iff_ne]; omega
      by_cases d1 : (48 : Int) ≤ (s[k].toNat : Int)
      · by_cases d2 : (s[k].toNat : Int) ≤ 57
        · by_cases d3 : M < 4
          · have HRD : Hid (Rd s (k + 1) (st.more s[k])) := rd_next hks hruns (by
              unfold Ps.step
              rw [if_pos ⟨isD_iff.2 ⟨d1, d2⟩, by have := hst.out.2.2.1; omega⟩])
            have HST := Lib.hid hst.out
            have HG := Lib.hid (good_more hst.out.2.2.2.1 (by have := hst.out.2.2.1; omega) (isD_iff.2 ⟨d1, d2⟩))
            clear hruns
            go_wp2
            go_roundw
            case rel =>
              have h1 := HST.out.2.1
              have h2 := HST.out.2.2.1
              have h3 := HST.out.2.2.2.2.1
              refine ⟨k + 1, st.more s[k], P, _, _, by omega, by go_num, rfl, rfl, rfl, ⟨HST.out.1, ?_, ?_, HG.out, ?_, HRD.out⟩, hli.out, hown, hsz, hbr⟩
              · show _ = ((10 * st.n + (s[k].toNat - 48) : Nat) : Int)
                omega
              · show _ = ((st.many + 1 : Nat) : Int)
                omega
              · show st.acc.length ≤ k + 1
                omega
            case measure => simp [intOf]; omega
          · have kc : M = 4 := by omega
            by_cases m0 : M = 0
            · omega
            have mp : ¬ st.many = 0 := by have := hst.out.2.2.1; omega
            have mp : ¬ st.many = 0 := by have := hst.out.2.2.1; omega
            by_cases p3 : P = 3
            · subst p3
              have hpj : st.pl = 3 := by have := hst.out.1; omega
              have c32 : ¬ (s[k].toNat : Int) = 32 := by omega
              have c32b : (((s[k].toNat : Int)) == 32) = false := by rw [beq_eq_false_iff_ne]; exact c32
              have HK : Hid (pParse s = none) := rd_stop H0.out hks hruns (step_is st s[k] _ (by have := hst.out.2.2.1; omega) (by rw [if_neg mp, if_pos hpj, if_neg (byte_ne32 c32)]))
              clear hruns hst hli hown
              go_wp2
              refine bodyPost_ret (v := .tuple #[.slice none 0 0, .bool false]) (by simp [results, Tryd.results26, go_sem]) rfl ?_
              exact IsRParse.no (hb0.trans hbr) HK.out
            have c46 : ¬ (s[k].toNat : Int) = 46 := by omega
            have c46b : (((s[k].toNat : Int)) == 46) = false := by rw [beq_eq_false_iff_ne]; exact c46
            have c46c : (((s[k].toNat : Int)) != 46) = true := by rw [bne_iff_ne]; exact c46
            have p3n : P < 3 := by omega
            have hpn : ¬ st.pl = 3 := by have := hst.out.1; omega
            have HK : Hid (pParse s = none) := rd_stop H0.out hks hruns (step_is st s[k] _ (by have := hst.out.2.2.1; omega) (by rw [if_neg mp, if_neg hpn, if_neg (byte_ne46 c46)]))
            clear hruns hst hli hown
            go_wp2
            refine bodyPost_ret (v := .tuple #[.slice none 0 0, .bool false]) (by simp [results, Tryd.results26, go_sem]) rfl ?_
            exact IsRParse.no (hb0.trans hbr) HK.out
        · have kb : (57 : Int) < (s[k].toNat : Int) := by omega
          by_cases m0 : M = 0
          · subst m0
            have HK : Hid (pParse s = none) := rd_stop H0.out hks hruns (step_is st s[k] _ (by have := hst.out.2.2.1; omega) (by rw [if_pos (by have := hst.out.2.2.1; omega)]))
            clear hruns hst hli hown
            go_wp2
            refine bodyPost_ret (v := .tuple #[.slice none 0 0, .bool false]) (by simp [results, Tryd.results26, go_sem]) rfl ?_
            exact IsRParse.no (hb0.trans hbr) HK.out
          have mp : ¬ st.many = 0 := by have := hst.out.2.2.1; omega
          have m0b : (M == 0) = false := by rw [beq_eq_false_iff_ne]; exact m0
          by_cases p3 : P = 3
          · subst p3
            have hpj : st.pl = 3 := by have := hst.out.1; omega
            have c32 : ¬ (s[k].toNat : Int) = 32 := by omega
            have c32b : (((s[k].toNat : Int)) == 32) = false := by rw [beq_eq_false_iff_ne]; exact c32
            have HK : Hid (pParse s = none) := rd_stop H0.out hks hruns (step_is st s[k] _ (by have := hst.out.2.2.1; omega) (by rw [if_neg mp, if_pos hpj, if_neg (byte_ne32 c32)]))
            clear hruns hst hli hown
            go_wp2
            refine bodyPost_ret (v := .tuple #[.slice none 0 0, .bool false]) (by simp [results, Tryd.results26, go_sem]) rfl ?_
            exact IsRParse.no (hb0.trans hbr) HK.out
          have c46 : ¬ (s[k].toNat : Int) = 46 := by omega
          have c46b : (((s[k].toNat : Int)) == 46) = false := by rw [beq_eq_false_iff_ne]; exact c46
          have c46c : (((s[k].toNat : Int)) != 46) = true := by rw [bne_iff_ne]; exact c46
          have p3n : P < 3 := by omega
          have hpn : ¬ st.pl = 3 := by have := hst.out.1; omega
          have HK : Hid (pParse s = none) := rd_stop H0.out hks hruns (step_is st s[k] _ (by have := hst.out.2.2.1; omega) (by rw [if_neg mp, if_neg hpn, if_neg (byte_ne46 c46)]))
          clear hruns hst hli hown
          go_wp2
          refine bodyPost_ret (v := .tuple #[.slice none 0 0, .bool false]) (by simp [results, Tryd.results26, go_sem]) rfl ?_
          exact IsRParse.no (hb0.trans hbr) HK.out
      · have ka : (s[k].toNat : Int) < 48 := by omega
        by_cases m0 : M = 0
        · subst m0
          have HK : Hid (pParse s = none) := rd_stop H0.out hks hruns (step_is st s[k] _ (by have := hst.out.2.2.1; omega) (by rw [if_pos (by have := hst.out.2.2.1; omega)]))
          clear hruns hst hli hown
          go_wp2
          refine bodyPost_ret (v := .tuple #[.slice none 0 0, .bool false]) (by simp [results, Tryd.results26, go_sem]) rfl ?_
          exact IsRParse.no (hb0.trans hbr) HK.out
        have mp : ¬ st.many = 0 := by have := hst.out.2.2.1; omega
        have m0b : (M == 0) = false := by rw [beq_eq_false_iff_ne]; exact m0
        by_cases p3 : P = 3
        · subst p3
          have hpj : st.pl = 3 := by have := hst.out.1; omega
          by_cases c32 : (s[k].toNat : Int) = 32
          · have hc32 := byte_eq32 c32
            have HRD : Hid (Rd s (k + 1) st.put) := rd_next hks hruns (step_is st s[k] _ (by have := hst.out.2.2.1; omega) (by rw [if_neg mp, if_pos hpj, hc32]; rfl))
            have hpm := put_many st (by omega)
            have q0 := hli.out.1.1
            have q1 := hli.out.1.2.1
            have q2 := hli.out.1.2.2.1
            have q3 := hli.out.1.2.2.2
            have qz := hli.out.2
            have hlb : w.heap.size < wi.heap.size := by omega
            have HLP : Hid (LIn (wi.setCell ⟨w.heap.size, 3, none⟩ (.int .i64 N)) w.heap.size st.put) := hli.out.put (by omega) 3 (by omega) N hst.out.2.1
            have HG := Lib.hid (good_put hst.out.2.2.2.1)
            have HPM := Lib.hid hpm
            have HAL : Hid (st.acc.length ≤ k) := hst.out.2.2.2.2.1
            have HNN := Lib.hid hst.out.2.1
            have HPJ : Hid (st.put.pl = 0 ∧ st.put.acc = st.acc ++ [⟨st.l0, st.l1, st.l2, st.n⟩]) := hpm.2.2.2 (by omega)
            have hownS := ownsRow_setCell_below hown (a := ⟨w.heap.size, 3, none⟩) (by show w.heap.size < w.heap.size + 1; omega) (.int .i64 N)
            have hal : st.acc.length ≤ 70001 := by have := HAL.out; omega
            obtain ⟨L0, hL0⟩ : ∃ L : Int, L = (st.l0 : Int) := ⟨_, rfl⟩
            obtain ⟨L1, hL1⟩ : ∃ L : Int, L = (st.l1 : Int) := ⟨_, rfl⟩
            obtain ⟨L2, hL2⟩ : ∃ L : Int, L = (st.l2 : Int) := ⟨_, rfl⟩
            have HTS : Hid (tcells st.acc ++ [.int .i64 L0, .int .i64 L1, .int .i64 L2, .int .i64 N] = tcells st.put.acc) := by
              show _ = _
              rw [HPJ.out.2, ← tcells_snoc, hL0, hL1, hL2, HNN.out]
              rfl
            have HLEN : Hid (st.acc.length + 1 = st.put.acc.length) := by show _ = _; rw [HPJ.out.2]; simp
            rw [← hL0] at q0
            rw [← hL1] at q1
            rw [← hL2] at q2
            clear hruns hst hli hpm hL0 hL1 hL2
            go_wp2_with (at_builtin; refine wpList_append_own _ rfl _ _ 22 rfl (w.heap.size + 1) 58 i0 (.agg #[.int .i64 0, .int .i64 0, .int .i64 0, .int .i64 0]) 4 32 Tryd.underlying22 hi hz0 hz1 hz2 rfl (by decide) _ _ _ rfl (hownS.alloc _) ⟨_, 0, none⟩ 1 1 [.int .i64 L0, .int .i64 L1, .int .i64 L2, .int .i64 N] rfl rfl (cell_four_new _ _ (by simp) _ _ _ _ _) (four_one _ _ _ _) (by simp only [maxLen]; omega) (by omega) (by simp [World.setCell]; omega) ?_; intro v' w4 hown4 hgrow4 hnil4)
            have hb4 : Below w.heap.size W0 w4 := ((hbr.setCell (Nat.le_refl _) _).alloc (by simp [World.setCell]; omega) _).grown hgrow4 (by simp [World.setCell]; omega) (fun k hk => Nat.le_trans (Nat.le_succ _) (hown.lt k hk).1)
            rw [HTS.out, HLEN.out] at hown4
            have HL4 : Hid (LIn w4 w.heap.size st.put) := by
              refine HLP.out.keep ?_
              have hlb2 : w.heap.size < (wi.setCell ⟨w.heap.size, 3, none⟩ (.int .i64 N)).heap.size := by simpa [World.setCell] using hlb
              refine (hgrow4.block w.heap.size (by simp [World.setCell]; omega) (fun e => ?_)).trans (by simp [World.alloc, Array.getElem?_push, World.setCell]; omega)
              have := (hown.lt w.heap.size e.symm).1
              omega
            have hsz4 : W0.heap.size ≤ w4.heap.size := hb4.size
            clear hgrow4 hnil4 hownS
            go_wp2
            go_roundw
            case rel =>
              refine ⟨k + 1, st.put, _, _, _, by omega, by go_num, rfl, rfl, rfl, ⟨by rw [HPJ.out.1]; rfl, by rw [HPM.out.1]; rfl, by rw [HPM.out.2.1]; rfl, HG.out, ?_, HRD.out⟩, HL4.out, hown4, hsz4, hb4⟩
              rw [← HLEN.out]
              have := HAL.out
              omega
            case measure => simp [intOf]; omega
          · have c32b : (((s[k].toNat : Int)) == 32) = false := by rw [beq_eq_false_iff_ne]; exact c32
            have HK : Hid (pParse s = none) := rd_stop H0.out hks hruns (step_is st s[k] _ (by have := hst.out.2.2.1; omega) (by rw [if_neg mp, if_pos hpj, if_neg (byte_ne32 c32)]))
            clear hruns hst hli hown
            go_wp2
            refine bodyPost_ret (v := .tuple #[.slice none 0 0, .bool false]) (by simp [results, Tryd.results26, go_sem]) rfl ?_
            exact IsRParse.no (hb0.trans hbr) HK.out
        by_cases c46 : (s[k].toNat : Int) = 46
        · have hc46 := byte_eq46 c46
          by_cases p0 : P = 0
          · subst p0
            have hpj : st.pl = 0 := by have := hst.out.1; omega
            have HRD : Hid (Rd s (k + 1) st.put) := rd_next hks hruns (step_is st s[k] _ (by have := hst.out.2.2.1; omega) (by rw [if_neg mp, if_neg (by omega), hc46]; rfl))
            have hpm := put_many st (by omega)
            have q0 := hli.out.1.1
            have q1 := hli.out.1.2.1
            have q2 := hli.out.1.2.2.1
            have q3 := hli.out.1.2.2.2
            have qz := hli.out.2
            have hlb : w.heap.size < wi.heap.size := by omega
            have HLP : Hid (LIn (wi.setCell ⟨w.heap.size, 0, none⟩ (.int .i64 N)) w.heap.size st.put) := hli.out.put (by omega) 0 (by omega) N hst.out.2.1
            have HG := Lib.hid (good_put hst.out.2.2.2.1)
            have HPM := Lib.hid hpm
            have HAL : Hid (st.acc.length ≤ k) := hst.out.2.2.2.2.1
            have HNN := Lib.hid hst.out.2.1
            have HPJ : Hid (st.put.pl = 0 + 1 ∧ st.put.acc = st.acc) := by
              have := hpm.2.2.1 (by omega)
              exact ⟨by omega, this.2⟩
            clear hruns hst hli hpm
            go_wp2
            go_roundw
            case rel =>
              refine ⟨k + 1, st.put, _, _, _, by omega, by go_num, rfl, rfl, rfl, ⟨by rw [HPJ.out.1]; rfl, by rw [HPM.out.1]; rfl, by rw [HPM.out.2.1]; rfl, HG.out, ?_, HRD.out⟩, HLP.out, ?_, ?_, hbr.setCell (Nat.le_refl _) _⟩
              · rw [HPJ.out.2]
                have := HAL.out
                omega
              · rw [HPJ.out.2]
                exact ownsRow_setCell_below hown (by show w.heap.size < w.heap.size + 1; omega) _
              · simpa [World.setCell] using hsz
            case measure => simp [intOf]; omega
          by_cases p1 : P = 1
          · subst p1
            have hpj : st.pl = 1 := by have := hst.out.1; omega
            have HRD : Hid (Rd s (k + 1) st.put) := rd_next hks hruns (step_is st s[k] _ (by have := hst.out.2.2.1; omega) (by rw [if_neg mp, if_neg (by omega), hc46]; rfl))
            have hpm := put_many st (by omega)
            have q0 := hli.out.1.1
            have q1 := hli.out.1.2.1
            have q2 := hli.out.1.2.2.1
            have q3 := hli.out.1.2.2.2
            have qz := hli.out.2
            have hlb : w.heap.size < wi.heap.size := by omega
            have HLP : Hid (LIn (wi.setCell ⟨w.heap.size, 1, none⟩ (.int .i64 N)) w.heap.size st.put) := hli.out.put (by omega) 1 (by omega) N hst.out.2.1
            have HG := Lib.hid (good_put hst.out.2.2.2.1)
            have HPM := Lib.hid hpm
            have HAL : Hid (st.acc.length ≤ k) := hst.out.2.2.2.2.1
            have HNN := Lib.hid hst.out.2.1
            have HPJ : Hid (st.put.pl = 1 + 1 ∧ st.put.acc = st.acc) := by
              have := hpm.2.2.1 (by omega)
              exact ⟨by omega, this.2⟩
            clear hruns hst hli hpm
            go_wp2
            go_roundw
            case rel =>
              refine ⟨k + 1, st.put, _, _, _, by omega, by go_num, rfl, rfl, rfl, ⟨by rw [HPJ.out.1]; rfl, by rw [HPM.out.1]; rfl, by rw [HPM.out.2.1]; rfl, HG.out, ?_, HRD.out⟩, HLP.out, ?_, ?_, hbr.setCell (Nat.le_refl _) _⟩
              · rw [HPJ.out.2]
                have := HAL.out
                omega
              · rw [HPJ.out.2]
                exact ownsRow_setCell_below hown (by show w.heap.size < w.heap.size + 1; omega) _
              · simpa [World.setCell] using hsz
            case measure => simp [intOf]; omega
          by_cases p2 : P = 2
          · subst p2
            have hpj : st.pl = 2 := by have := hst.out.1; omega
            have HRD : Hid (Rd s (k + 1) st.put) := rd_next hks hruns (step_is st s[k] _ (by have := hst.out.2.2.1; omega) (by rw [if_neg mp, if_neg (by omega), hc46]; rfl))
            have hpm := put_many st (by omega)
            have q0 := hli.out.1.1
            have q1 := hli.out.1.2.1
            have q2 := hli.out.1.2.2.1
            have q3 := hli.out.1.2.2.2
            have qz := hli.out.2
            have hlb : w.heap.size < wi.heap.size := by omega
            have HLP : Hid (LIn (wi.setCell ⟨w.heap.size, 2, none⟩ (.int .i64 N)) w.heap.size st.put) := hli.out.put (by omega) 2 (by omega) N hst.out.2.1
            have HG := Lib.hid (good_put hst.out.2.2.2.1)
            have HPM := Lib.hid hpm
            have HAL : Hid (st.acc.length ≤ k) := hst.out.2.2.2.2.1
            have HNN := Lib.hid hst.out.2.1
            have HPJ : Hid (st.put.pl = 2 + 1 ∧ st.put.acc = st.acc) := by
              have := hpm.2.2.1 (by omega)
              exact ⟨by omega, this.2⟩
            clear hruns hst hli hpm
            go_wp2
            go_roundw
            case rel =>
              refine ⟨k + 1, st.put, _, _, _, by omega, by go_num, rfl, rfl, rfl, ⟨by rw [HPJ.out.1]; rfl, by rw [HPM.out.1]; rfl, by rw [HPM.out.2.1]; rfl, HG.out, ?_, HRD.out⟩, HLP.out, ?_, ?_, hbr.setCell (Nat.le_refl _) _⟩
              · rw [HPJ.out.2]
                have := HAL.out
                omega
              · rw [HPJ.out.2]
                exact ownsRow_setCell_below hown (by show w.heap.size < w.heap.size + 1; omega) _
              · simpa [World.setCell] using hsz
            case measure => simp [intOf]; omega
          omega
        have c46b : (((s[k].toNat : Int)) == 46) = false := by rw [beq_eq_false_iff_ne]; exact c46
        have c46c : (((s[k].toNat : Int)) != 46) = true := by rw [bne_iff_ne]; exact c46
        have p3n : P < 3 := by omega
        have hpn : ¬ st.pl = 3 := by have := hst.out.1; omega
        have HK : Hid (pParse s = none) := rd_stop H0.out hks hruns (step_is st s[k] _ (by have := hst.out.2.2.1; omega) (by rw [if_neg mp, if_neg hpn, if_neg (byte_ne46 c46)]))
        clear hruns hst hli hown
        go_wp2
        refine bodyPost_ret (v := .tuple #[.slice none 0 0, .bool false]) (by simp [results, Tryd.results26, go_sem]) rfl ?_
        exact IsRParse.no (hb0.trans hbr) HK.out
    · by_cases hke : k = s.size
      · have hruns : runs Ps.zero s.data.toList = some st := by
          rcases hst.out.2.2.2.2.2 with h | h
          · have := h.2
            rw [List.take_of_length_le (by rw [← size_list]; omega)] at this
            exact this
          · omega
        have hkn : (k : Int) = (s.size : Int) := by omega
        by_cases m0 : M = 0
        · subst m0
          have HK : Hid (pParse s = none) := parse_fin H0.out hruns (by unfold Ps.fin; rw [if_pos (by have := hst.out.2.2.1; omega)])
          clear hruns hst hli hown
          go_wp2
          refine bodyPost_ret (v := .tuple #[.slice none 0 0, .bool false]) (by simp [results, Tryd.results26, go_sem]) rfl ?_
          exact IsRParse.no (hb0.trans hbr) HK.out
        have mp : ¬ st.many = 0 := by have := hst.out.2.2.1; omega
        by_cases p3 : P = 3
        · subst p3
          have hpj : st.pl = 3 := by have := hst.out.1; omega
          have HRD : Hid (Rd s (k + 1) st.put) := Or.inr ⟨by omega, st, hruns, by unfold Ps.fin; rw [if_neg mp, if_pos hpj]⟩
          have hpm := put_many st (by omega)
          have q0 := hli.out.1.1
          have q1 := hli.out.1.2.1
          have q2 := hli.out.1.2.2.1
          have q3 := hli.out.1.2.2.2
          have qz := hli.out.2
          have hlb : w.heap.size < wi.heap.size := by omega
          have HLP : Hid (LIn (wi.setCell ⟨w.heap.size, 3, none⟩ (.int .i64 N)) w.heap.size st.put) := hli.out.put (by omega) 3 (by omega) N hst.out.2.1
          have HG := Lib.hid (good_put hst.out.2.2.2.1)
          have HPM := Lib.hid hpm
          have HAL : Hid (st.acc.length ≤ k) := hst.out.2.2.2.2.1
          have HNN := Lib.hid hst.out.2.1
          have HPJ : Hid (st.put.pl = 0 ∧ st.put.acc = st.acc ++ [⟨st.l0, st.l1, st.l2, st.n⟩]) := hpm.2.2.2 (by omega)
          have hownS := ownsRow_setCell_below hown (a := ⟨w.heap.size, 3, none⟩) (by show w.heap.size < w.heap.size + 1; omega) (.int .i64 N)
          have hal : st.acc.length ≤ 70001 := by have := HAL.out; omega
          obtain ⟨L0, hL0⟩ : ∃ L : Int, L = (st.l0 : Int) := ⟨_, rfl⟩
          obtain ⟨L1, hL1⟩ : ∃ L : Int, L = (st.l1 : Int) := ⟨_, rfl⟩
          obtain ⟨L2, hL2⟩ : ∃ L : Int, L = (st.l2 : Int) := ⟨_, rfl⟩
          have HTS : Hid (tcells st.acc ++ [.int .i64 L0, .int .i64 L1, .int .i64 L2, .int .i64 N] = tcells st.put.acc) := by
            show _ = _
            rw [HPJ.out.2, ← tcells_snoc, hL0, hL1, hL2, HNN.out]
            rfl
          have HLEN : Hid (st.acc.length + 1 = st.put.acc.length) := by show _ = _; rw [HPJ.out.2]; simp
          rw [← hL0] at q0
          rw [← hL1] at q1
          rw [← hL2] at q2
          clear hruns hst hli hpm hL0 hL1 hL2
          go_wp2_with (at_builtin; refine wpList_append_own _ rfl _ _ 22 rfl (w.heap.size + 1) 58 i0 (.agg #[.int .i64 0, .int .i64 0, .int .i64 0, .int .i64 0]) 4 32 Tryd.underlying22 hi hz0 hz1 hz2 rfl (by decide) _ _ _ rfl (hownS.alloc _) ⟨_, 0, none⟩ 1 1 [.int .i64 L0, .int .i64 L1, .int .i64 L2, .int .i64 N] rfl rfl (cell_four_new _ _ (by simp) _ _ _ _ _) (four_one _ _ _ _) (by simp only [maxLen]; omega) (by omega) (by simp [World.setCell]; omega) ?_; intro v' w4 hown4 hgrow4 hnil4)
          have hb4 : Below w.heap.size W0 w4 := ((hbr.setCell (Nat.le_refl _) _).alloc (by simp [World.setCell]; omega) _).grown hgrow4 (by simp [World.setCell]; omega) (fun k hk => Nat.le_trans (Nat.le_succ _) (hown.lt k hk).1)
          rw [HTS.out, HLEN.out] at hown4
          have HL4 : Hid (LIn w4 w.heap.size st.put) := by
            refine HLP.out.keep ?_
            have hlb2 : w.heap.size < (wi.setCell ⟨w.heap.size, 3, none⟩ (.int .i64 N)).heap.size := by simpa [World.setCell] using hlb
            refine (hgrow4.block w.heap.size (by simp [World.setCell]; omega) (fun e => ?_)).trans (by simp [World.alloc, Array.getElem?_push, World.setCell]; omega)
            have := (hown.lt w.heap.size e.symm).1
            omega
          have hsz4 : W0.heap.size ≤ w4.heap.size := hb4.size
          clear hgrow4 hnil4 hownS
          go_wp2
          go_roundw
          case rel =>
            refine ⟨k + 1, st.put, _, _, _, by omega, by go_num, rfl, rfl, rfl, ⟨by rw [HPJ.out.1]; rfl, by rw [HPM.out.1]; rfl, by rw [HPM.out.2.1]; rfl, HG.out, ?_, HRD.out⟩, HL4.out, hown4, hsz4, hb4⟩
            rw [← HLEN.out]
            have := HAL.out
            omega
          case measure => simp [intOf]; omega
        · have p3n : P < 3 := by omega
          have HK : Hid (pParse s = none) := parse_fin H0.out hruns (by unfold Ps.fin; rw [if_neg mp, if_neg (by have := hst.out.1; omega)])
          clear hruns hst hli hown
          go_wp2
          refine bodyPost_ret (v := .tuple #[.slice none 0 0, .bool false]) (by simp [results, Tryd.results26, go_sem]) rfl ?_
          exact IsRParse.no (hb0.trans hbr) HK.out
      · obtain ⟨st0, hr0, hf0⟩ : ∃ st0, runs Ps.zero s.data.toList = some st0 ∧ st0.fin = some st := by
          rcases hst.out.2.2.2.2.2 with h | h
          · omega
          · exact h.2
        have hpl : st.pl = 0 := by
          unfold Ps.fin at hf0
          split at hf0
          · cases hf0
          · split at hf0
            · rename_i h3
              injection hf0 with hf0
              rw [← hf0]
              exact ((put_many st0 (by omega)).2.2.2 h3).1
            · cases hf0
        have hP0 : P = 0 := by have := hst.out.1; omega
        subst hP0
        obtain ⟨A, c, rfl, -, hln, hset⟩ := own_set hown
        obtain ⟨hcap, hcm⟩ := own_cap hown
        simp only [maxLen] at hcm hln
        have HSET := Lib.hid hset
        have HWF : Hid (∀ t ∈ st.acc, twf t) := hst.out.2.2.2.1.2.2.2.2.2.2.2
        have hwi : Below w.heap.size w wi := hb0.trans hbr
        have hval := rvalid_any st.acc A st.acc.length c wi rfl hcap hcm hset.old
        obtain ⟨L, hL⟩ : ∃ L, L = st.acc.length := ⟨_, rfl⟩
        have HLL := Lib.hid hL
        rw [← hL] at hval
        cases hv : vld st.acc
        · have HK : Hid (pParse s = none) := parse_inv H0.out hr0 hf0 hv
          rw [hv] at hval
          rw [← hL]
          clear hst hli hown hset hr0 hf0 hpl hL hv
          go_wp2_with fail
          refine hval.mono ?_
          rintro e w3 ⟨rfl, hb3⟩
          go_wp2_with fail
          refine bodyPost_ret (v := .tuple #[.slice none 0 0, .bool false]) (by simp [results, Tryd.results26, go_sem]) rfl ?_
          exact IsRParse.no (hwi.trans (hb3.mono hwi.size)) HK.out
        · obtain ⟨T, hT⟩ : ∃ T, T = sText st.acc := ⟨_, rfl⟩
          rw [hv] at hval
          have hrt := fun (W : World) (hW : Below wi.heap.size wi W) => rtext_any st.acc A L c W HLL.out ((HSET.out.keep hW).old) HWF.out hv
          rw [← hT] at hrt
          by_cases hTs : T = s
          · have HK : Hid (pParse s = some st.acc) := parse_same hv (hT.symm.trans hTs)
            subst hTs
            rw [← hL]
            clear hst hli hown hset hr0 hf0 hpl hL hv hT
            go_wp2_with fail
            refine hval.mono ?_
            rintro e w3 ⟨rfl, hb3⟩
            go_wp2_with fail
            refine (hrt _ hb3).mono ?_
            rintro e w4 ⟨rfl, hb4⟩
            have hb34 := hb3.trans (hb4.mono hb3.size)
            go_wp2_with fail
            refine bodyPost_ret (v := .tuple #[.slice A L c, .bool true]) (by simp [results, Tryd.results26, go_sem]) rfl ?_
            refine ⟨hwi.trans (hb34.mono hwi.size), ?_⟩
            rw [HK.out]
            exact ⟨A, c, by rw [HLL.out], (HSET.out.keep hb34).mono (by omega)⟩
          · have HK : Hid (pParse s = none) := parse_other H0.out hr0 hf0 (by rw [← hT]; exact hTs)
            have hq : (T.toList == s.toList) = false := by rw [beq_eq_false_iff_ne]; exact fun e => hTs (bytes_inj e)
            have hq2 : (T.toList != s.toList) = true := by rw [bne_iff_ne]; exact fun e => hTs (bytes_inj e)
            rw [← hL]
            clear hst hli hown hset hr0 hf0 hpl hL hv hT hTs
            go_wp2_with fail
            refine hval.mono ?_
            rintro e w3 ⟨rfl, hb3⟩
            go_wp2_with fail
            refine (hrt _ hb3).mono ?_
            rintro e w4 ⟨rfl, hb4⟩
            have hb34 := hb3.trans (hb4.mono hb3.size)
            go_wp2_with fail
            refine bodyPost_ret (v := .tuple #[.slice none 0 0, .bool false]) (by simp [results, Tryd.results26, go_sem]) rfl ?_
            exact IsRParse.no (hwi.trans (hb34.mono hwi.size)) HK.out
end Go.Proofs.YtmmpdniafmhjpaaDoor
