/-
  groutworkref03.Find and Least: the first torus of a size; that of the first size.
-/
import Derived.Test.YteaoaglgoeichaaDoorRv
import Derived.Test.YteaoaglgoeichaaDoorTC
namespace Go.Proofs.YteaoaglgoeichaaDoor
open Go.RowKit Go.Maps Go.BigFrame Go.Sort
set_option linter.unusedVariables false
set_option linter.unusedSimpArgs false
set_option maxRecDepth 100000

theorem findSome_at {α β : Type} (f : α → Option β) (l : List α) (k : Nat) (a : α) (b : β) (hk : l[k]? = some a) (hno : ∀ j, j < k → ∀ c, l[j]? = some c → f c = none) (hf : f a = some b) : l.findSome? f = some b := by
  obtain ⟨hl, e⟩ := List.getElem?_eq_some_iff.1 hk
  refine List.findSome?_eq_some_iff.2 ⟨l.take k, a, l.drop (k + 1), ?_, hf, fun c hc => ?_⟩
  · rw [← e, ← List.drop_eq_getElem_cons hl, List.take_append_drop]
  · obtain ⟨j, hj⟩ := List.mem_iff_getElem?.1 hc
    have hjk : j < k := by have := (List.getElem?_eq_some_iff.1 hj).1; rw [List.length_take] at this; omega
    rw [List.getElem?_take_of_lt hjk] at hj
    exact hno j hjk c hj
theorem findSome_not {α β : Type} (f : α → Option β) (l : List α) (hno : ∀ j, j < l.length → ∀ c, l[j]? = some c → f c = none) : l.findSome? f = none := by
  rw [List.findSome?_eq_none_iff]
  intro c hc
  obtain ⟨j, hj⟩ := List.mem_iff_getElem?.1 hc
  exact hno j (List.getElem?_eq_some_iff.1 hj).1 c hj
/-- what Find returns -/
def IsFindR (s : List Tl) (a b : Nat) (W : World) (e : Ending) (w' : World) : Prop :=
  Below W.heap.size W w' ∧ match (torsE s a b).head? with
    | none => e = .returned (.tuple #[.agg #[.int .i64 0, .int .i64 0, .slice none 0 0], .bool false])
    | some t => ∃ A cc, e = .returned (.tuple #[.agg #[.int .i64 (a : Int), .int .i64 (b : Int), .slice A t.flatten.length cc], .bool true]) ∧ IntsIn w' w'.heap.size A (idxI t.flatten) ∧ ∀ q, A = some q → W.heap.size ≤ q.block
set_option maxHeartbeats 8000000 in
theorem rfind_any (s : List Tl) (S : Option Addr) (m sc a b : Nat) (w : World) (hcR : ∀ W, Below w.heap.size w W → Calls Tryd.prog 38 #[.slice S m sc, .int .i64 (a : Int)] W (IsRowsR s a W))
    (hm : m = s.length) (hml : m ≤ 1000) (hS : SetIn w w.heap.size S s) (ha1 : 1 ≤ a) (ha8 : a ≤ 8) (hb1 : 1 ≤ b) (hb60 : b ≤ 60) (hlc : pw (colsOf s).length a ≤ 1500) (hN : (rws s a).length ≤ 1000000000) :
    Calls Tryd.prog 11 #[.slice S m sc, .int .i64 (a : Int), .int .i64 (b : Int)] w (IsFindR s a b w) := by
  obtain ⟨R, hR⟩ : ∃ R, R = ringsE s a := ⟨_, rfl⟩
  obtain ⟨cn, hcn⟩ : ∃ cn, cn = (colsOf s).length := ⟨_, rfl⟩
  obtain ⟨x, hx⟩ : ∃ x, x = pw cn a := ⟨_, rfl⟩
  have hx1500 : x ≤ 1500 := by rw [hx, hcn]; exact hlc
  have hxp : (x : Int) = (cn : Int) ^ a := by
    have : x = cn ^ a := by rw [hx]; unfold pw at hx ⊢; omega
    rw [this]
    exact_mod_cast rfl
  have hSr : ∀ r ∈ R, 0 ≤ numS s r ∧ numS s r < (x : Int) := fun r hr => by rw [hxp, hcn]; rw [hR] at hr; exact numS_range (rings_rws hr)
  have hNr : ∀ r ∈ R, 0 ≤ numN s r ∧ numN s r < (x : Int) := fun r hr => by rw [hxp, hcn]; rw [hR] at hr; exact numN_range (rings_rws hr)
  have hRl : ∀ r ∈ R, r.length = a := fun r hr => by rw [hR] at hr; exact rws_len s a r (rings_rws hr)
  have hRn : R.length ≤ 1000000000 := by rw [hR]; exact Nat.le_trans (List.length_filter_le _ _) hN
  have htor : (torsE s a b).head? = R.findSome? (fromN R (numS s) (numN s) b) := by rw [hR]; exact tors_findSome s a b hb1
  have hcn2 : cn ≤ 2000 := by have := cols_len s; omega
  have cRd : ∀ W, Below w.heap.size w W → Calls Tryd.prog 25 #[.slice S m sc, .int .i64 (a : Int)] W (IsRing s a W) := fun W hb => rround_any s S m sc a W (hcR W hb) hm hml (hS.keep hb hb.size) ha1 ha8 hN
  have cCo : ∀ W, Below w.heap.size w W → Calls Tryd.prog 24 #[.slice S m sc] W fun e w' => ∃ V, e = .returned V ∧ w'.ownsRow W.heap.size 3 1 V cn ((colsOf s).map (Value.int .i64)) ∧ Below W.heap.size W w' := fun W hb => by
    have hh := rcolours_any s S m sc W hm (hS.keep hb hb.size) (by omega)
    rw [← hcn] at hh
    exact hh
  have cPw : ∀ W, Calls Tryd.prog 23 #[.int .i64 (cn : Int), .int .i64 (a : Int)] W fun e w' => e = .returned (.int .i64 (x : Int)) ∧ W = w' := fun W => by rw [hx]; exact rpower_any cn a W (by omega) (by omega)
  obtain ⟨W1, hW1⟩ : ∃ W1, W1 = w.alloc (.cells #[.int .i64 0, .int .i64 0, .slice none 0 0] 27) := ⟨_, rfl⟩
  have hres1 : W1.heap[w.heap.size]? = some (.cells #[.int .i64 0, .int .i64 0, .slice none 0 0] 27 (0, 0)) := by rw [hW1]; exact heap_at _ _ _ rfl
  have hb1' : Below w.heap.size w W1 := by rw [hW1]; exact (Below.refl _ _).alloc (Nat.le_refl _) _
  have hzz1 : w.heap.size < W1.heap.size := (Array.getElem?_eq_some_iff.1 hres1).1
  have HW1 := Lib.hid hW1
  have HB1 := Lib.hid hb1'
  have HRS := Lib.hid hres1
  have HR := Lib.hid hR
  have HSR := Lib.hid hSr
  have HNR := Lib.hid hNr
  have HRL := Lib.hid hRl
  have HRN := Lib.hid hRn
  have HTOR := Lib.hid htor
  clear hm hS hlc hN hR hcn hx hxp hSr hNr hRl hRn htor hW1 hb1' hres1 hcR
  go_enter Tryd.func11, Tryd.ntmps11
  go_wp2_with fail
  rw [← HW1.out]
  refine (cRd _ HB1.out).mono ?_
  rintro e2 w2 ⟨V2, Z, rfl, hZ, hown2, hzok, hb2⟩
  rw [← HR.out] at hZ
  have hb02 : Below w.heap.size w w2 := HB1.out.trans (hb2.mono HB1.out.size)
  obtain ⟨zn, hzn⟩ : ∃ zn, zn = Z.length := ⟨_, rfl⟩
  rw [← hzn] at hown2
  obtain ⟨A2, c2, rfl, hzc, hflat, hbase⟩ := own_flat hown2 (fun z hz => rz_len s z) hzn.symm
  have hzr : zn = R.length := by rw [hzn, ← hZ, List.length_map]
  have hzl : zn ≤ 1000000000 := by rw [hzr]; exact HRN.out
  have hzin : Z ≠ [] → ∃ g, A2 = some ⟨g, 0, none⟩ ∧ ZIn s w2 g Z := fun hne => by
    obtain ⟨g, h1, h2, h3⟩ := hflat hne
    exact ⟨g, h1, h2, h3, fun z hz => ⟨(hzok z hz).2.1, (hzok z hz).2.2.2⟩⟩
  have HZIN := Lib.hid hzin
  have HZ := Lib.hid hZ
  have HZN := Lib.hid hzn
  have HZR := Lib.hid hzr
  have HB02 := Lib.hid hb02
  have HB2 := Lib.hid hb2
  clear hown2 hzok hflat hbase hZ hzn hzr hzin cRd hb02 hb2 hzc
  go_wp2_with fail
  refine (cCo _ HB02.out).mono ?_
  rintro e3 w3 ⟨V3, rfl, hown3, hb3⟩
  obtain ⟨A3, c3, rfl, -, -, -, -, -⟩ := own_ints hown3
  have HB3 := Lib.hid hb3
  clear hown3 hb3 cCo
  go_wp2_with fail
  refine (cPw _).mono ?_
  rintro e4 w4 ⟨rfl, rfl⟩
  clear cPw
  go_wp2_with fail
  go_loopw [10] (fun i wr => ∃ k : Nat, k ≤ zn ∧ i = .int .i64 k ∧ Hid (∀ j, j < k → ∀ r, R[j]? = some r → fromN R (numS s) (numN s) b r = none) ∧ Hid (Below w3.heap.size w3 wr)) (fun i _ => zn - (intOf i).toNat)
  case atStart => exact ⟨0, Nat.zero_le _, rfl, fun j hj => by omega, Below.refl _ _⟩
  case round =>
    obtain ⟨k, hk, rfl, hno, hbr⟩ := hrel
    obtain ⟨wo, rfl⟩ : ∃ wo : World, wo = wr := ⟨_, rfl⟩
    have hb2o : Below w2.heap.size w2 wo := HB3.out.trans (hbr.out.mono HB3.out.size)
    have hb1o : Below W1.heap.size W1 wo := HB2.out.trans (hb2o.mono HB2.out.size)
    have hpo := (hb1o.block w.heap.size hzz1).trans HRS.out
    have hbw : Below w.heap.size w wo := HB1.out.trans (hb1o.mono HB1.out.size)
    have HPO := Lib.hid hpo
    have HBW := Lib.hid hbw
    by_cases hkz : k < zn
    · have hkZ : k < Z.length := by rw [← HZN.out]; exact hkz
      obtain ⟨⟨rb, rc, r⟩, hzk⟩ : ∃ z, Z[k]? = some z := ⟨_, List.getElem?_eq_getElem hkZ⟩
      obtain ⟨g, rfl, hzi⟩ := HZIN.out (fun e => by rw [e] at hkZ; simp at hkZ)
      have hrk : R[k]? = some r := by rw [← HZ.out, List.getElem?_map, hzk]; rfl
      have hfr := rfrom_any s g zn c2 k x a b Z R rb rc r wo HZN.out HZ.out (hzi.keep hb2o) hzk HRL.out HSR.out HNR.out (by omega) ha1 ha8 hb1 hb60 hzl
      cases hfn : fromN R (numS s) (numN s) b r with
      | none =>
        have HNO : Hid (∀ j, j < k + 1 → ∀ r, R[j]? = some r → fromN R (numS s) (numN s) b r = none) := fun j hj r' hr' => by
          rcases Nat.lt_succ_iff_lt_or_eq.1 hj with h | h
          · exact hno.out j h r' hr'
          · subst h
            rw [hrk] at hr'
            cases hr'
            exact hfn
        have HFR : Hid (Calls Tryd.prog 26 #[.slice (some ⟨g, 0, none⟩) zn c2, .int .i64 (k : Int), .int .i64 (x : Int), .int .i64 (a : Int), .int .i64 (b : Int)] wo fun e w' => e = .returned (.tuple #[.agg #[.int .i64 0, .int .i64 0, .slice none 0 0], .bool false]) ∧ Below wo.heap.size wo w') := hfr.mono fun e w' h => by
          obtain ⟨h1, h2⟩ := h
          rw [hfn] at h2
          exact ⟨h2, h1⟩
        have HBR := hbr
        clear hfr hfn hzi hrk hzk hkZ hno hpo hbw hb2o hb1o hbr
        go_wp2_with (go_at_call 26; refine HFR.out.mono ?_; rintro e w5 ⟨rfl, hb5⟩)
        go_roundw
        case rel => exact ⟨k + 1, by omega, by go_num, HNO, HBR.out.trans ((hb5.alloc hb5.size _).mono HBR.out.size)⟩
        case measure => simp [intOf]; omega
      | some t =>
        have hfs : Hid ((torsE s a b).head? = some t) := by show _ = _; rw [HTOR.out]; exact findSome_at _ R k r t hrk hno.out hfn
        obtain ⟨L, hL⟩ : ∃ L, L = t.flatten.length := ⟨_, rfl⟩
        have HFR : Hid (Calls Tryd.prog 26 #[.slice (some ⟨g, 0, none⟩) zn c2, .int .i64 (k : Int), .int .i64 (x : Int), .int .i64 (a : Int), .int .i64 (b : Int)] wo fun e w' => ∃ A cc, e = .returned (.tuple #[.agg #[.int .i64 (a : Int), .int .i64 (b : Int), .slice A L cc], .bool true]) ∧ Hid (IntsIn w' w'.heap.size A (idxI t.flatten)) ∧ Hid (∀ q, A = some q → wo.heap.size ≤ q.block) ∧ Below wo.heap.size wo w') := hfr.mono fun e w' h => by
          obtain ⟨h1, h2⟩ := h
          rw [hfn] at h2
          obtain ⟨A, cc, h3, h4, h5⟩ := h2
          exact ⟨A, cc, by rw [hL]; exact h3, h4, h5, h1⟩
        have HL := Lib.hid hL
        have hwo : w.heap.size < wo.heap.size := (Array.getElem?_eq_some_iff.1 hpo).1
        clear hfr hfn hzi hrk hzk hkZ hno hpo hbw hb2o hb1o hbr hL
        go_wp2_with (go_at_call 26; refine HFR.out.mono ?_; rintro e w5 ⟨A, cc, rfl, hI, hA, hb5⟩; have hpz := (hb5.block w.heap.size hwo).trans HPO.out; have hpy := heap_kp hpz (.cells #[.int .i64 (a : Int), .int .i64 (b : Int), .slice A L cc] 27); have HPY := Lib.hid hpy; obtain ⟨y0, y1, y2, y3⟩ := zcells hpy; clear hpz hpy)
        obtain ⟨x0, x1, x2, -⟩ := zcells (row_set (a := .int .i64 (a : Int)) (b := .int .i64 (b : Int)) (c := .slice A L cc) HPY.out)
        refine bodyPost_ret (v := .tuple #[.agg #[.int .i64 (a : Int), .int .i64 (b : Int), .slice A L cc], .bool true]) (by simp [results, Tryd.results11, go_sem, x0, x1, x2]) rfl ?_
        have hb5w : Below w.heap.size w (w5.alloc (.cells #[.int .i64 (a : Int), .int .i64 (b : Int), .slice A L cc] 27)) := (HBW.out.trans (hb5.mono HBW.out.size)).alloc (by have := hb5.size; omega) _
        refine ⟨((hb5w.setCell (p := ⟨w.heap.size, 0, none⟩) (by simp) _).setCell (p := ⟨w.heap.size, 1, none⟩) (by simp) _).setCell (p := ⟨w.heap.size, 2, none⟩) (by simp) _, ?_⟩
        rw [hfs.out]
        refine ⟨A, cc, by rw [HL.out], ints_grownT (hI.out.keep ((Below.refl w5.heap.size w5).alloc (Nat.le_refl _) _) (by simp)) (grown3T _ w.heap.size _ _ _) (fun q e => by have := hA.out q e; omega), fun q e => by have := hA.out q e; omega⟩
    · have hke : k = R.length := by rw [← HZR.out]; omega
      have hfn : Hid ((torsE s a b).head? = none) := by show _ = _; rw [HTOR.out]; exact findSome_not _ R fun j hj c hc => hno.out j (by omega) c hc
      obtain ⟨y0, y1, y2, y3⟩ := zcells hpo
      clear hpo hbw hb2o hb1o hke hno
      go_wp2_with fail
      obtain ⟨x0, x1, x2, -⟩ := zcells (row_set (a := .int .i64 0) (b := .int .i64 0) (c := .slice none 0 0) HPO.out)
      refine bodyPost_ret (v := .tuple #[.agg #[.int .i64 0, .int .i64 0, .slice none 0 0], .bool false]) (by simp [results, Tryd.results11, go_sem, x0, x1, x2]) rfl ?_
      refine ⟨((HBW.out.setCell (p := ⟨w.heap.size, 0, none⟩) (by simp) _).setCell (p := ⟨w.heap.size, 1, none⟩) (by simp) _).setCell (p := ⟨w.heap.size, 2, none⟩) (by simp) _, ?_⟩
      rw [hfn.out]
end Go.Proofs.YteaoaglgoeichaaDoor
