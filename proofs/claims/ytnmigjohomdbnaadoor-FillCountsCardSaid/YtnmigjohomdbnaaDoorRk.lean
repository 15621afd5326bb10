/-
  groutworkref02.Count: how many patterns there are, if Rows returns the rows.
-/
import Derived.Test.YtnmigjohomdbnaaDoorFj
import Derived.Test.YtnmigjohomdbnaaDoorFc
import Derived.Test.YtnmigjohomdbnaaDoorRn
import Derived.Deep.Cut
import Derived.Deep.CutRange
namespace Go.Proofs.YtnmigjohomdbnaaDoor
open Go.RowKit Go.Maps Go.BigFrame Go.Sort
set_option linter.unusedVariables false
set_option linter.unusedSimpArgs false
set_option maxRecDepth 100000

/-- what Rows returns -/
def IsRowsR (s : List Tl) (wd : Nat) (W : World) (e : Ending) (w' : World) : Prop :=
  ∃ v Z, e = .returned v ∧ Z.map (·.2.2) = rws s wd ∧ w'.ownsRow W.heap.size 62 3 v Z.length (Z.flatMap (rz s)) ∧ ZOk w' W.heap.size v.ownBlock Z ∧ Below W.heap.size W w'
/-- a table of capped numbers -/
def Tab (w : World) (q n : Nat) (f : Int → Nat) : Prop := q < w.heap.size ∧ (∀ L, L < n → w.cell? ⟨q, L, none⟩ = some (.int .i64 ((min (f (L : Int)) cap : Nat) : Int))) ∧ ∀ o, w.frozen? ⟨q, o, none⟩ = false
theorem Tab.keep {w w' : World} {q n : Nat} {f : Int → Nat} (h : Tab w q n f) (hb : Below w.heap.size w w') : Tab w' q n f :=
  ⟨Nat.lt_of_lt_of_le h.1 hb.size, fun L hL => (hb.cell (p := ⟨q, L, none⟩) h.1).trans (h.2.1 L hL), fun o => (hb.frozen (p := ⟨q, o, none⟩) h.1).trans (h.2.2 o)⟩
theorem Tab.drew {w : World} {q n : Nat} {f : Int → Nat} (h : Tab w q n f) : Tab w.drew q n f := ⟨h.1, h.2.1, h.2.2⟩
theorem Tab.congr {w : World} {q n : Nat} {f g : Int → Nat} (h : Tab w q n f) (e : ∀ L, L < n → f (L : Int) = g (L : Int)) : Tab w q n g := ⟨h.1, fun L hL => by rw [← e L hL]; exact h.2.1 L hL, h.2.2⟩
theorem Tab.set {w : World} {q n : Nat} {f g : Int → Nat} (h : Tab w q n f) (K : Nat) (hK : K < n) (x : Nat) (hx : x = min (g (K : Int)) cap) (e : ∀ L, L < n → L ≠ K → f (L : Int) = g (L : Int)) : Tab (w.setCell ⟨q, K, none⟩ (.int .i64 (x : Int))) q n g := by
  refine ⟨by simpa using h.1, fun L hL => ?_, fun o => (World.frozen?_setCell _ _ _ _).trans (h.2.2 o)⟩
  by_cases hLK : L = K
  · subst hLK
    rw [World.cell?_setCell_same _ _ _ (h.2.1 L hL), hx]
  · rw [World.cell?_setCell_other _ _ _ _ (fun e => by injection e with _ e2; omega), ← e L hL hLK]
    exact h.2.1 L hL
theorem zrow_at {s : List Tl} {wd : Nat} {Z : List (Nat × Nat × List Nat)} (hZ : Z.map (·.2.2) = rws s wd) {i : Nat} {z : Nat × Nat × List Nat} (hz : Z[i]? = some z) : (rws s wd)[i]? = some z.2.2 := by rw [← hZ, List.getElem?_map, hz]; rfl
theorem zcells4 {w : World} {q : Nat} {a b c d : Value} {t : TypeId} (h : w.heap[q]? = some (.cells #[a, b, c, d] t (0, 0))) : w.cell? ⟨q, 0, none⟩ = some a ∧ w.cell? ⟨q, 1, none⟩ = some b ∧ w.cell? ⟨q, 2, none⟩ = some c ∧ w.cell? ⟨q, 3, none⟩ = some d ∧ ∀ o, w.frozen? ⟨q, o, none⟩ = false := by
  refine ⟨?_, ?_, ?_, ?_, fun o => ?_⟩ <;> simp [World.cell?, World.frozen?, h]
theorem grown_set {w wr : World} {q : Nat} (h : w.grownBy wr (some q)) (o : Nat) (v : Value) : w.grownBy (wr.setCell ⟨q, o, none⟩ v) (some q) := by
  refine ⟨h.os, h.tape, h.output, by simpa using h.size, fun k hk hne => ?_⟩
  rw [Below.heap_setCell _ _ _ _ (by intro e; exact hne (by rw [e]))]
  exact h.block k hk hne
theorem grown_below {w w' w2 : World} {q : Nat} (h : w.grownBy w' (some q)) (hb : Below w'.heap.size w' w2) : w.grownBy w2 (some q) :=
  ⟨hb.os.trans h.os, hb.tape.trans h.tape, hb.output.trans h.output, Nat.le_trans h.size hb.size, fun k hk hne => (hb.block k (Nat.lt_of_lt_of_le hk h.size)).trans (h.block k hk hne)⟩
set_option maxHeartbeats 16000000 in
theorem rcount_any (s : List Tl) (S : Option Addr) (m sc a b : Nat) (d : Ed) (N E U V : Option Addr) (nc ec uc vc : Nat) (w : World) (hcR : ∀ W, Below w.heap.size w W → Calls Tryd.prog 27 #[.slice S m sc, .int .i64 (a : Int)] W (IsRowsR s a W))
    (hm : m = s.length) (hml : m ≤ 1000) (hS : SetIn w w.heap.size S s) (ha1 : 1 ≤ a) (ha8 : a ≤ 8) (hb1 : 1 ≤ b) (hb60 : b ≤ 60) (hd : EdOk a b d) (hE : EdIn w w.heap.size N E U V d) (hlc : pw (colsOf s).length a ≤ 1500) :
    Calls Tryd.prog 11 #[.slice S m sc, .int .i64 (a : Int), .int .i64 (b : Int), .agg #[.slice N d.n.length nc, .slice E d.e.length ec, .slice U d.s.length uc, .slice V d.w.length vc]] w fun e w' => e = .returned (.int .i64 ((min (countE s a b d) cap : Nat) : Int)) ∧ Below w.heap.size w w' := by
  obtain ⟨i0, hi, hz0, hz1, hz2⟩ := info_parts int_info
  obtain ⟨i1, gi, gz0, gz1, gz2⟩ := info_parts rrow_info
  obtain ⟨nn, hnn⟩ : ∃ nn, nn = d.n.length := ⟨_, rfl⟩
  obtain ⟨en, hen⟩ : ∃ en, en = d.e.length := ⟨_, rfl⟩
  obtain ⟨un, hun⟩ : ∃ un, un = d.s.length := ⟨_, rfl⟩
  obtain ⟨vn, hvn⟩ : ∃ vn, vn = d.w.length := ⟨_, rfl⟩
  obtain ⟨R, hR⟩ : ∃ R, R = rws s a := ⟨_, rfl⟩
  obtain ⟨adm, hadm⟩ : ∃ adm, adm = admE s d b := ⟨_, rfl⟩
  obtain ⟨fS, hfS⟩ : ∃ fS, fS = numS s := ⟨_, rfl⟩
  obtain ⟨fN, hfN⟩ : ∃ fN, fN = numN s := ⟨_, rfl⟩
  obtain ⟨cn, hcn⟩ : ∃ cn, cn = (colsOf s).length := ⟨_, rfl⟩
  obtain ⟨x, hx⟩ : ∃ x, x = pw cn a := ⟨_, rfl⟩
  have hx1500 : x ≤ 1500 := by rw [hx, hcn]; exact hlc
  have hxp : (x : Int) = (cn : Int) ^ a := by
    have : x = cn ^ a := by rw [hx]; unfold pw at hx ⊢; omega
    rw [this]
    exact_mod_cast rfl
  have hSr : ∀ r ∈ R, 0 ≤ fS r ∧ fS r < (x : Int) := fun r hr => by rw [hfS, hxp, hcn]; rw [hR] at hr; exact numS_range hr
  have hNr : ∀ r ∈ R, 0 ≤ fN r ∧ fN r < (x : Int) := fun r hr => by rw [hfN, hxp, hcn]; rw [hR] at hr; exact numN_range hr
  have htot : countE s a b d = ((List.range x).map fun l : Nat => ways R adm fS fN b 0 (l : Int)).sum := by
    rw [countE_num s a b d hb1, ← hR, ← hadm, ← hfS, ← hfN]
    exact total_pOf R adm fS fN b hb1 x hSr
  have hcn2 : cn ≤ 2000 := by have := cols_len s; omega
  have hby : i0.bytes * x ≤ 281474976710656 := by rw [hz2]; omega
  have cCo : ∀ W, Below w.heap.size w W → Calls Tryd.prog 28 #[.slice S m sc] W fun e w' => ∃ V, e = .returned V ∧ w'.ownsRow W.heap.size 3 1 V cn ((colsOf s).map (Value.int .i64)) ∧ Below W.heap.size W w' := fun W hb => by
    have hh := rcolours_any s S m sc W hm (hS.keep hb hb.size) (by omega)
    rw [← hcn] at hh
    exact hh
  have cPw : ∀ W, Calls Tryd.prog 26 #[.int .i64 (cn : Int), .int .i64 (a : Int)] W fun e w' => e = .returned (.int .i64 (x : Int)) ∧ W = w' := fun W => by rw [hx]; exact rpower_any cn a W (by omega) (by omega)
  have cFt : ∀ W rb rc x1 x2 r y res, Below w.heap.size w W → r ∈ R → y < b → rb < W.heap.size → W.rangeAt rb 0 (vals (idxI r)) → adm y r = res → Calls Tryd.prog 29 #[.slice S m sc, .agg #[.slice (some ⟨rb, 0, none⟩) a rc, .int .i64 x1, .int .i64 x2], .int .i64 (y : Int), .int .i64 (b : Int), .agg #[.slice N nn nc, .slice E en ec, .slice U un uc, .slice V vn vc]] W fun e w' => e = .returned (.bool res) ∧ Below W.heap.size W w' := fun W rb rc x1 x2 r y res hb hr hy h1 h2 h3 => by
    rw [hR] at hr
    rw [hnn, hen, hun, hvn]
    exact rfits2_any s S m sc d r a b y rb rc x1 x2 N E U V nc ec uc vc res W hm hml (hS.keep hb hb.size) (rws_len s a r hr) (fun x hx => ((mem_rws s a r).1 hr).2.1 x hx) ha1 ha8 hb60 hy hd h2 h1 (hE.keep hb hb.size) (by rw [← h3, hadm])
  obtain ⟨W1, hW1⟩ : ∃ W1, W1 = w.alloc (.cells #[.slice N nn nc, .slice E en ec, .slice U un uc, .slice V vn vc] 25) := ⟨_, rfl⟩
  have hblk1 : W1.heap[w.heap.size]? = some (.cells #[.slice N nn nc, .slice E en ec, .slice U un uc, .slice V vn vc] 25 (0, 0)) := by rw [hW1]; exact heap_alloc_new w _
  have hb1' : Below w.heap.size w W1 := by rw [hW1]; exact (Below.refl _ _).alloc (Nat.le_refl _) _
  have hzz1 : w.heap.size < W1.heap.size := (Array.getElem?_eq_some_iff.1 hblk1).1
  rw [← hnn, ← hen, ← hun, ← hvn]
  have hRl : ∀ r ∈ R, r.length = a := fun r hr => by rw [hR] at hr; exact rws_len s a r hr
  have HW1 := Lib.hid hW1
  have HB1 := Lib.hid hb1'
  have HBK := Lib.hid hblk1
  have HTOT := Lib.hid htot
  have HSR := Lib.hid hSr
  have HNR := Lib.hid hNr
  have HRR := Lib.hid hR
  have HFS := Lib.hid hfS
  have HFN := Lib.hid hfN
  have HRL := Lib.hid hRl
  have CFT := Lib.hid cFt
  have CR := Lib.hid hcR
  clear hm hS hd hE hlc hnn hen hun hvn hR hadm hfS hfN hcn hx hxp hSr hNr htot cFt hW1 hb1' hblk1 hcR hRl
  go_enter Tryd.func11, Tryd.ntmps11
  go_wp2_with fail
  rw [← HW1.out]
  refine (CR.out _ HB1.out).mono ?_
  rintro e2 w2 ⟨V2, Z, rfl, hZ, hown2, hzok, hb2⟩
  have hb02 : Below w.heap.size w w2 := HB1.out.trans (hb2.mono HB1.out.size)
  obtain ⟨zn, hzn⟩ : ∃ zn, zn = Z.length := ⟨_, rfl⟩
  rw [← hzn] at hown2
  obtain ⟨A2, c2, rfl, hzc, hflat, hbase⟩ := own_flat hown2 (fun z hz => rz_len s z) hzn.symm
  have hzm : zn ≤ 9223372036854775807 := by
    rcases hown2.2 with ⟨-, h0⟩ | ⟨_, _, _, _, _, _, hnc', hmx, _⟩
    · omega
    · simp only [maxLen] at hmx; omega
  rw [← HRR.out] at hZ
  have hznR : zn = R.length := by rw [hzn, ← hZ, List.length_map]
  have HFLAT := Lib.hid hflat
  have HZOK := Lib.hid hzok
  have HZ := Lib.hid hZ
  have HZN := Lib.hid hzn
  have HZR := Lib.hid hznR
  clear hown2 hzok hflat hbase hZ hzn hznR
  go_wp2_with fail
  refine (cCo _ hb02).mono ?_
  rintro e3 w3 ⟨V3, rfl, hown3, hb3⟩
  obtain ⟨A3, c3, rfl, -, -, -, -, -⟩ := own_ints hown3
  have hb03 : Below w.heap.size w w3 := hb02.trans (hb3.mono hb02.size)
  clear hown3
  go_wp2_with fail
  refine (cPw _).mono ?_
  rintro e4 w4 ⟨rfl, rfl⟩
  have q3 := (hb3.block w.heap.size (Nat.lt_of_lt_of_le hzz1 hb2.size)).trans ((hb2.block w.heap.size hzz1).trans HBK.out)
  have HQ3 := Lib.hid q3
  have hz3 : w.heap.size < w3.heap.size := Nat.lt_of_lt_of_le hzz1 (Nat.le_trans hb2.size hb3.size)
  have HB03 := Lib.hid hb03
  have HB23 := Lib.hid hb3
  clear hb2 hb3 hb02 hb03 q3
  go_wp2_with fail
  go_loopw [11, 12] (fun av i wr => ∃ t : Nat, t ≤ b ∧ i = .int .i64 ((b : Int) - 1 - (t : Int)) ∧ Hid (t = 0 ∨ ∃ q, av = .slice (some ⟨q, 0, none⟩) x x ∧ Tab wr q x (fun l => ways R adm fS fN t (b - t) l)) ∧ Hid (Below w3.heap.size w3 wr)) (fun _ i _ => (intOf i + 1).toNat)
  case atStart => exact ⟨0, Nat.zero_le _, by go_num, Or.inl rfl, Below.refl _ _⟩
  case round =>
    obtain ⟨t, ht, rfl, htab, hbt⟩ := hrel
    obtain ⟨wi, rfl⟩ : ∃ wi : World, wi = wr := ⟨_, rfl⟩
    by_cases hlt : t < b
    · obtain ⟨y, hy⟩ : ∃ y, y = b - 1 - t := ⟨_, rfl⟩
      have hyi : (b : Int) - 1 - (t : Int) = (y : Int) := by omega
      rw [hyi]
      have hyb : y < b := by omega
      have hty : Hid (t = b - (y + 1) ∧ b - t = y + 1) := by show _ ∧ _; omega
      have htop : Hid (t = 0 ↔ y + 1 = b) := by show _ ↔ _; omega
      have hnext : Hid ((y : Int) - 1 = (b : Int) - 1 - ((t + 1 : Nat) : Int)) := by show _ = _; omega
      clear hy hyi
      have hbw : Below w.heap.size w wi := HB03.out.trans (hbt.out.mono HB03.out.size)
      have hzi := hbt.out.size
      go_wp2_with (at_make; refine wpList_make_full _ rfl _ _ 23 rfl wi.heap.size 3 i0 (.int .i64 0) 1 Tryd.underlying23 hi hz0 hz1 .i64 .i64 _ _ x rfl rfl rfl rfl hby (by simp only [maxLen]; omega) (by omega) ?_; intro w6 hown6 hgrow6)
      obtain ⟨hq, hhq⟩ : ∃ hq, hq = wi.heap.size := ⟨_, rfl⟩
      have hb6 : Below wi.heap.size wi w6 := ⟨hgrow6.os, hgrow6.tape, hgrow6.output, hgrow6.size, fun k hk => hgrow6.block k hk (by simp)⟩
      have hT6 : Tab w6 hq x (fun l => pOf R adm fS fN b y 0 l) := by
        rw [hhq]
        refine ⟨(hown6.lt _ rfl).2, fun L hL => ?_, fun o => hown6.frozenAt o⟩
        rw [hown6.cellAt L (by omega), Nat.mul_one, show (madeCells (Value.int .i64 0).cells x).toList[L]? = some (.int .i64 0) from made_at _ _ _ hL]
        show _ = some (Value.int .i64 ((min (pOf R adm fS fN b y 0 (L : Int)) cap : Nat) : Int))
        rw [pOf_zero]
        simp
      have hbw6 : Below w.heap.size w w6 := hbw.trans (hb6.mono hbw.size)
      have hb36 : Below w3.heap.size w3 w6 := hbt.out.trans (hb6.mono hzi)
      rw [← hhq]
      have htab6 : Hid (t = 0 ∨ ∃ q, u11 = .slice (some ⟨q, 0, none⟩) x x ∧ q < wi.heap.size ∧ Tab w6 q x (fun l => ways R adm fS fN t (b - t) l)) := htab.out.imp id fun ⟨q, e, h⟩ => ⟨q, e, h.1, h.keep hb6⟩
      have HB36 := Lib.hid hb36
      have HT6 := Lib.hid hT6
      have HHQ := Lib.hid hhq
      have hqs : w3.heap.size ≤ hq := by omega
      clear hown6 hgrow6 hbw hT6 hb6 hb36 hbw6 htab hbt hzi hhq
      go_wp2_with fail
      go_loopw [14] (fun i wr => ∃ k : Nat, k ≤ zn ∧ i = .int .i64 k ∧ Hid (Tab wr hq x (fun l => pOf R adm fS fN b y k l)) ∧ Hid (w6.grownBy wr (some hq))) (fun i _ => zn - (intOf i).toNat)
      case atStart => exact ⟨0, Nat.zero_le _, rfl, HT6, World.grownBy.refl _ _⟩
      case round =>
        clear HT6
        obtain ⟨k, hk, rfl, hT, hg⟩ := hrel
        obtain ⟨wo, rfl⟩ : ∃ wo : World, wo = wr := ⟨_, rfl⟩
        have hb3o : Below w3.heap.size w3 wo := HB36.out.trans ⟨hg.out.os, hg.out.tape, hg.out.output, hg.out.size, fun j hj => hg.out.block j (Nat.lt_of_lt_of_le hj HB36.out.size) (by simp; omega)⟩
        have hbwo : Below w.heap.size w wo := HB03.out.trans (hb3o.mono HB03.out.size)
        have HB3O := Lib.hid hb3o
        have HBWO := Lib.hid hbwo
        clear hb3o hbwo
        by_cases hkz : k < zn
        · have hkZ : k < Z.length := by rw [← HZN.out]; exact hkz
          obtain ⟨⟨rb, rc, r⟩, hzk⟩ : ∃ z, Z[k]? = some z := ⟨_, List.getElem?_eq_getElem hkZ⟩
          obtain ⟨g, rfl, hgl, hrows⟩ := HFLAT.out (fun e => by rw [e] at hkZ; simp at hkZ)
          have hrk : R[k]? = some r := by rw [← HZ.out, List.getElem?_map, hzk]; rfl
          have hrR : r ∈ R := List.mem_of_getElem? hrk
          obtain ⟨-, hrb2, -, hrr⟩ := HZOK.out _ (List.mem_of_getElem? hzk)
          have hb2o : Below w2.heap.size w2 wo := HB23.out.trans (HB3O.out.mono HB23.out.size)
          have hrange := rangeAt_keep (hrows k _ hzk) hb2o hgl
          have hla : r.length = a := HRL.out r hrR
          obtain ⟨K, hK⟩ := Int.eq_ofNat_of_zero_le (HSR.out r hrR).1
          obtain ⟨M, hM⟩ := Int.eq_ofNat_of_zero_le (HNR.out r hrR).1
          have hKx : K < x := by have := (HSR.out r hrR).2; omega
          have hMx : M < x := by have := (HNR.out r hrR).2; omega
          have k0 : wo.cell? ⟨g, k * 3, none⟩ = some (.slice (some ⟨rb, 0, none⟩) a rc) := hrange 0 _ (by simp [rz, hla])
          have k1 : wo.cell? ⟨g, k * 3 + 1, none⟩ = some (.int .i64 (K : Int)) := hrange 1 _ (by rw [← hK, HFS.out]; rfl)
          have k2 : wo.cell? ⟨g, k * 3 + 2, none⟩ = some (.int .i64 (M : Int)) := hrange 2 _ (by rw [← hM, HFN.out]; rfl)
          obtain ⟨res, hres⟩ : ∃ res, adm y r = res := ⟨_, rfl⟩
          obtain ⟨W7, hW7⟩ : ∃ W7, W7 = wo.alloc (.cells #[.slice (some ⟨rb, 0, none⟩) a rc, .int .i64 (K : Int), .int .i64 (M : Int)] 62) := ⟨_, rfl⟩
          have hb7 : Below wo.heap.size wo W7 := by rw [hW7]; exact be_alloc (Below.refl _ _) _
          have hbw7 : Below w.heap.size w W7 := HBWO.out.trans (hb7.mono HBWO.out.size)
          have hrb7 : rb < W7.heap.size := Nat.lt_of_lt_of_le hrb2 (Nat.le_trans hb2o.size hb7.size)
          have hrr7 : W7.rangeAt rb 0 (vals (idxI r)) := rangeAt_keep (rangeAt_keep hrr hb2o hrb2) hb7 (Nat.lt_of_lt_of_le hrb2 hb2o.size)
          have cF := CFT.out W7 rb rc (K : Int) (M : Int) r y res hbw7 hrR hyb hrb7 hrr7 hres
          have hR7 : W7.heap[wo.heap.size]? = some (.cells #[.slice (some ⟨rb, 0, none⟩) a rc, .int .i64 (K : Int), .int .i64 (M : Int)] 62 (0, 0)) := by rw [hW7]; exact heap_at _ _ _ rfl
          obtain ⟨e0, e1, e2, e3, -⟩ := zcells4 ((hb7.block w.heap.size (by have := HB3O.out.size; omega)).trans ((HB3O.out.block w.heap.size hz3).trans HQ3.out))
          rw [hW7] at e0 e1 e2 e3
          have hk0 : (0 : Int) ≤ (k : Int) := by omega
          have hkz' : (k : Int) < (zn : Int) := by omega
          have hK2 : Hid (fS r = (K : Int)) := hK
          have hM2 : Hid (fN r = (M : Int)) := hM
          have HRK := Lib.hid hrk
          have HRES := Lib.hid hres
          have HW7 := Lib.hid hW7
          have HB7 := Lib.hid hb7
          have HR7 := Lib.hid hR7
          have HCF := Lib.hid cF
          have hl7 : wo.heap.size < W7.heap.size := (Array.getElem?_eq_some_iff.1 hR7).1
          have hT7 := Lib.hid (hT.out.keep hb7)
          have hgo : Hid (w6.grownBy W7 (some hq)) := grown_below hg.out hb7
          have hqo := hT.out.1
          clear hkZ hzk hrows hrk hrR hrb2 hrr hb2o hrange hla hK hM hW7 hb7 hbw7 hrb7 hrr7 cF hR7 hres hT hg
          go_wp2_with fail
          rw [← HW7.out]
          refine HCF.out.mono ?_
          rintro e8 w8 ⟨rfl, hb8⟩
          have hT8 := hT7.out.keep hb8
          have hg8 : w6.grownBy w8 (some hq) := grown_below hgo.out hb8
          obtain ⟨f0, f1, f2, -⟩ := zcells ((hb8.block wo.heap.size hl7).trans HR7.out)
          have HT8 := Lib.hid hT8
          have HG8 := Lib.hid hg8
          have hs8 := hb8.size
          clear k0 k1 k2 e0 e1 e2 e3 hb8 hT8 hg8 hT7 hgo HCF HR7
          cases res
          · have HT9 : Hid (Tab w8 hq x (fun l => pOf R adm fS fN b y (k + 1) l)) := HT8.out.congr fun L _ => (pOf_no R adm fS fN b y k r HRK.out HRES.out _).symm
            clear f0 f1 f2 HT8
            go_wp2_with fail
            go_roundw
            case rel => exact ⟨k + 1, by omega, by go_num, HT9, HG8⟩
            case measure => simp [intOf]; omega
          · obtain ⟨nV, hnV⟩ : ∃ nV, nV = min (vOf R adm fS fN b y r) cap := ⟨_, rfl⟩
            obtain ⟨hV, hhV⟩ : ∃ hV, hV = min (pOf R adm fS fN b y k (K : Int)) cap := ⟨_, rfl⟩
            have c15 := HT8.out.2.1 K hKx
            rw [show min ((fun l => pOf R adm fS fN b y k l) (K : Int)) cap = hV from hhV.symm] at c15
            have z15 := HT8.out.2.2 K
            obtain ⟨xV, hxV⟩ : ∃ xV, xV = min (hV + nV) cap := ⟨_, rfl⟩
            have hnc : nV ≤ 1152921504606846977 := by rw [hnV]; unfold cap; omega
            have hhc : hV ≤ 1152921504606846977 := by rw [hhV]; unfold cap; omega
            have hmin : min ((hV : Int) + (nV : Int)) 1152921504606846977 = ((xV : Nat) : Int) := by rw [hxV]; unfold cap; omega
            have hTf : Hid (∀ W, W = w8.setCell ⟨hq, K, none⟩ (.int .i64 (xV : Int)) → Tab W hq x (fun l => pOf R adm fS fN b y (k + 1) l)) := fun W e => by
              rw [e]
              refine HT8.out.set K hKx xV ?_ fun L hL hne => ?_
              · show xV = min (pOf R adm fS fN b y (k + 1) (K : Int)) cap
                rw [pOf_yes R adm fS fN b y k r HRK.out HRES.out, if_pos hK2.out, hxV, hhV, hnV]
                omega
              · show pOf R adm fS fN b y k (L : Int) = pOf R adm fS fN b y (k + 1) (L : Int)
                rw [pOf_yes R adm fS fN b y k r HRK.out HRES.out, if_neg (by rw [hK2.out]; omega)]
                rfl
            have hGf : Hid (w6.grownBy (w8.setCell ⟨hq, K, none⟩ (.int .i64 (xV : Int))) (some hq)) := grown_set HG8.out K _
            have hq14 : Hid (t ≠ 0 → ∃ q, u11 = .slice (some ⟨q, 0, none⟩) x x ∧ (y : Int) < (b : Int) - 1 ∧ w8.cell? ⟨q, M, none⟩ = some (.int .i64 (nV : Int))) := fun ht0 => by
              obtain ⟨q, hqe, hqw, hTq⟩ := htab6.out.resolve_left ht0
              have hne : ¬ (y + 1 = b) := fun e => ht0 (htop.out.2 e)
              refine ⟨q, hqe, by omega, ?_⟩
              rw [World.cell?_of_block (a := ⟨q, M, none⟩) (HG8.out.block q hTq.1 (by have := HHQ.out; simp; omega)), hTq.2.1 M hMx, hnV]
              unfold vOf
              rw [hM2.out, ← hty.out.1, ← hty.out.2]
            have hq13 : Hid (t = 0 → ¬ ((y : Int) < (b : Int) - 1) ∧ nV = 1) := fun ht0 => by
              have hyt := (htop.out).1 ht0
              exact ⟨by omega, by rw [hnV, vOf_top R adm fS fN b y hyt r]; unfold cap; omega⟩
            clear hnV hhV hxV HT8 HG8 HRK HRES
            go_upto_if 55 with fail
            go_cut [16] from 41 to 72 (fun u wx => u = .int .i64 (nV : Int) ∧ wx = w8)
            case first =>
              clear c15 z15 hmin hnc hhc
              by_cases ht0 : t = 0
              · obtain ⟨hcy, hn1⟩ := hq13.out ht0
                clear ht0 htab6
                go_wp2_with fail
                go_meet
                exact ⟨by rw [hn1]; rfl, rfl⟩
              · obtain ⟨q, hqe, hcy, c14⟩ := hq14.out ht0
                subst hqe
                clear ht0
                go_wp2_with fail
                go_meet
                exact ⟨rfl, rfl⟩
            case rest =>
              obtain ⟨rfl, rfl⟩ := hcut
              clear hq13 hq14
              go_wp2_with fail
              go_region
              go_wp2_with fail
              go_roundw
              case rel => exact ⟨k + 1, by omega, by go_num, (hTf.out _ rfl).drew, grown_drew hGf⟩
              case measure => simp [intOf]; omega
        · have hkz' : k = R.length := by rw [← HZR.out]; omega
          have hTn : Hid (t + 1 = 0 ∨ ∃ q, (Value.slice (some ⟨hq, 0, none⟩) x x) = .slice (some ⟨q, 0, none⟩) x x ∧ Tab wo q x (fun l => ways R adm fS fN (t + 1) (b - (t + 1)) l)) := Or.inr ⟨hq, rfl, hT.out.congr fun L _ => by
            show pOf R adm fS fN b y k (L : Int) = _
            rw [hkz', pOf_all R adm fS fN b y hyb, show b - y = t + 1 by have := hty.out; omega, show b - (t + 1) = y by have := hty.out; omega]⟩
          clear hT hg hkz'
          go_wp2_with fail
          go_roundw
          case rel => exact ⟨t + 1, by omega, by rw [← hnext.out], hTn, HB3O⟩
          case measure => first | (simp [intOf]; done) | (simp [intOf]; omega)
    · have hte : t = b := by omega
      subst hte
      obtain ⟨q, hqe, hTq⟩ := htab.out.resolve_left (by omega)
      subst hqe
      have HBW := Lib.hid (HB03.out.trans (hbt.out.mono HB03.out.size))
      have HTQ := Lib.hid hTq
      clear htab hTq hbt
      go_wp2_with fail
      go_loopw [17, 18] (fun su i wr => ∃ k P : Nat, k ≤ x ∧ i = .int .i64 k ∧ su = .int .i64 (P : Int) ∧ P ≤ 1152921504606846977 ∧ Hid (P = min (((List.range k).map fun l : Nat => ways R adm fS fN t 0 (l : Int)).sum) cap) ∧ wr = wi) (fun _ i _ => x - (intOf i).toNat)
      case atStart => exact ⟨0, 0, Nat.zero_le _, rfl, rfl, by omega, by simp [Hid], rfl⟩
      case round =>
        obtain ⟨k, P, hk, rfl, rfl, hPc, hP, rfl⟩ := hrel
        by_cases hkx : k < x
        · obtain ⟨v, hv⟩ : ∃ v, v = min (ways R adm fS fN t 0 (k : Int)) cap := ⟨_, rfl⟩
          have c18 := HTQ.out.2.1 k hkx
          rw [show min ((fun l => ways R adm fS fN t (t - t) l) (k : Int)) cap = v from by rw [hv, Nat.sub_self]] at c18
          have hvc : v ≤ 1152921504606846977 := by rw [hv]; unfold cap; omega
          obtain ⟨xV, hxV⟩ : ∃ xV, xV = min (P + v) cap := ⟨_, rfl⟩
          have hmin : min ((P : Int) + (v : Int)) 1152921504606846977 = ((xV : Nat) : Int) := by rw [hxV]; unfold cap; omega
          have hxc : xV ≤ 1152921504606846977 := by rw [hxV]; unfold cap; omega
          have hst : Hid (xV = min (((List.range (k + 1)).map fun l : Nat => ways R adm fS fN t 0 (l : Int)).sum) cap) := by
            show _ = _
            rw [hxV, List.range_succ, List.map_append, List.sum_append, hP.out, hv]
            simp
            omega
          have hk0 : (0 : Int) ≤ (k : Int) := by omega
          have hkx' : (k : Int) < (x : Int) := by omega
          clear hv hxV hP
          go_wp2_with fail
          go_roundw
          case rel => exact ⟨k + 1, xV, by omega, by go_num, by go_num, hxc, hst, trivial⟩
          case measure => simp [intOf]; omega
        · have hke : k = x := by omega
          subst hke
          have hPt : P = min (countE s a t d) cap := by rw [hP.out, HTOT.out]
          have HPT := Lib.hid hPt
          clear hP hPt
          go_wp2_with fail
          go_ret
          exact ⟨by rw [HPT.out]; rfl, HBW.out⟩
end Go.Proofs.YtnmigjohomdbnaaDoor
