/-
  groutworklaw02.FillThere.
-/
import Derived.Test.YtloodijkfoinnaaDoorSk
import Derived.Test.YtloodijkfoinnaaDoorHs
import Derived.Test.YtloodijkfoinnaaDoorRd
import Derived.Deep.Cut
import Derived.Deep.CutRange
import Derived.Deep.RegionLaw
namespace Go.Proofs.YtloodijkfoinnaaDoor
open Go.RowKit Go.Maps Go.BigFrame
set_option linter.unusedVariables false
set_option linter.unusedSimpArgs false
set_option maxRecDepth 100000

/-- two rows and a block of edges: one row grows -/
theorem two_step {w1 wi W w3 : World} {qo base : Nat} {e : TypeId} {vA vB v' : Value} {na nb : Nat} {xa xb : List Value} {o : Obj} (hG : w1.grownBy wi (some qo)) (hA : wi.ownsRow base e 1 vA na xa) (hB : wi.ownsRow base e 1 vB nb xb)
    (hne : ∀ g, vB.ownBlock = some g → vA.ownBlock ≠ some g) (ho : wi.heap[qo]? = some o) (hb : Below wi.heap.size wi W) (hq : qo < base) (hw : w1.heap.size ≤ base) (hg : W.grownBy w3 vA.ownBlock) (hat : v'.ownBlock = vA.ownBlock ∨ v'.ownBlock = some W.heap.size) (x : Nat) (f : Value) :
    w1.grownBy (w3.setCell ⟨qo, x, none⟩ f) (some qo) ∧ (w3.setCell ⟨qo, x, none⟩ f).ownsRow base e 1 vB nb xb ∧ (∀ g, vB.ownBlock = some g → v'.ownBlock ≠ some g) ∧ w3.heap[qo]? = some o := by
  have hqi : qo < wi.heap.size := (Array.getElem?_eq_some_iff.1 ho).1
  have hs := hb.size
  have h3 := hg.size
  refine ⟨grown_set ⟨hg.os.trans (hb.os.trans hG.os), hg.tape.trans (hb.tape.trans hG.tape), hg.output.trans (hb.output.trans hG.output), by have := hG.size; omega, fun k hk hne' => ?_⟩ x f, ?_, ?_, ?_⟩
  · have := hG.size
    rw [hg.block k (by omega) (fun e' => by have := (hA.lt k e'.symm).1; omega), hb.block k (by omega)]
    exact hG.block k hk hne'
  · refine ownsRow_setCell_below ((own_keep' hB hb).kept hg ?_) (a := ⟨qo, x, none⟩) hq _
    cases hv : vB.ownBlock with
    | none => exact Or.inl rfl
    | some g => exact Or.inr (fun e' => hne g hv e'.symm)
  · intro g hv
    rcases hat with e' | e'
    · rw [e']; exact hne g hv
    · rw [e']
      intro e2
      have h1 := (hB.lt g hv).2
      have : W.heap.size = g := by simpa using e2
      omega
  · rw [hg.block qo (by omega) (fun e' => by have := (hA.lt qo e'.symm).1; omega), hb.block qo hqi]
    exact ho
theorem lmap_succ (f : Nat → Int) (j : Nat) : (List.range (j + 1)).map f = (List.range j).map f ++ [f j] := by rw [List.range_succ, List.map_append]; rfl
theorem own_form {w : World} {base n : Nat} {e : TypeId} {v : Value} {xs : List Value} (h : w.ownsRow base e 1 v n xs) : ∃ A c, v = .slice A n c := by
  obtain ⟨A, c, e1, -⟩ := own_shape h
  exact ⟨A, c, e1⟩
theorem ints_of_own {w : World} {base n : Nat} {e : TypeId} {A : Option Addr} {c : Nat} {l : List Int} (h : w.ownsRow base e 1 (.slice A n c) n (vals l)) : IntsIn w w.heap.size A l ∧ n = l.length := by
  obtain ⟨A', c', e1, h1, -, -, h2, -⟩ := own_ints (l := l) h
  obtain ⟨rfl, -, -⟩ : A = A' ∧ True ∧ c = c' := by simpa using e1
  exact ⟨h2, h1⟩
theorem countRes_two {s : List Tl} {wd hg : Int} {d : Ed} {n : Nat} (h : faultE s wd hg d.n.length d.e.length d.s.length d.w.length = 0) (h2 : tooM s.length wd.toNat = false) (hn : n = countE s wd.toNat hg.toNat d) :
    ∃ v f : Int, countRes s wd hg d = .tuple #[.int .i64 v, .int .i64 f] ∧ ((n ≤ 1152921504606846976 ∧ v = (n : Int) ∧ f = 0) ∨ (1152921504606846976 < n ∧ v = 0 ∧ f = 4)) := by
  rw [countRes_ok h h2, ← hn]
  by_cases hb : 1152921504606846976 < n
  · exact ⟨0, 4, by rw [if_pos hb], Or.inr ⟨hb, rfl, rfl⟩⟩
  · exact ⟨n, 0, by rw [if_neg hb], Or.inl ⟨by omega, rfl, rfl⟩⟩
theorem none_ne : ∀ g, (Value.slice none 0 0).ownBlock = some g → (Value.slice none 0 0).ownBlock ≠ some g := fun g h => by cases h
theorem idxI_len (c : List Nat) : (idxI c).length = c.length := by simp only [idxI, List.length_map]
theorem ptI_idx (w h : Nat) (c : List Nat) : ptI w h c = ⟨w, h, idxI c⟩ := rfl
/-- what First's answer is where there is one -/
theorem first_some {s : List Tl} {a b : Nat} {d : Ed} {c : List Nat} {W : World} {e : Ending} {w' : World} (h : IsFirstRes s (a : Int) (b : Int) d W e w') (hc0 : checkE s (a : Int) (b : Int) d.n.length d.e.length d.s.length d.w.length = 0) (hf : firstE s a b d = some c) :
    Below W.heap.size W w' ∧ ∃ A cc, e = .returned (.tuple #[.agg #[.int .i64 (a : Int), .int .i64 (b : Int), .slice A c.length cc], .int .i64 0]) ∧ IntsIn w' w'.heap.size A (idxI c) := by
  obtain ⟨hb, h⟩ := h
  rw [if_neg (by rw [hc0]; simp)] at h
  simp only [Int.toNat_natCast, hf] at h
  obtain ⟨v, rfl, hown⟩ := h
  obtain ⟨A, cc, rfl⟩ := own_form hown
  exact ⟨hb, A, cc, rfl, (ints_of_own hown).1⟩
theorem first_nothing {s : List Tl} {a b : Nat} {d : Ed} {W : World} {e : Ending} {w' : World} (h : IsFirstRes s (a : Int) (b : Int) d W e w') (hc0 : checkE s (a : Int) (b : Int) d.n.length d.e.length d.s.length d.w.length = 0) (hf : firstE s a b d = none) :
    Below W.heap.size W w' ∧ e = .returned (.tuple #[.agg #[.int .i64 0, .int .i64 0, .slice none 0 0], .int .i64 6]) := by
  obtain ⟨hb, h⟩ := h
  rw [if_neg (by rw [hc0]; simp)] at h
  simp only [Int.toNat_natCast, hf] at h
  exact ⟨hb, h⟩
theorem flat_length {a b : Nat} {t : List (List Nat)} (h : Shaped a b t) : t.flatten.length = a * b := by rw [flatR_len t h.2, h.1, Nat.mul_comm]
set_option maxHeartbeats 16000000 in
theorem fthere_any (s : List Tl) (d : Ed) (S : Option Addr) (m cp : Nat) (wd hg : Int) (N E U V : Option Addr) (nc ec uc vc : Nat) (w : World) (hEnv : Env w) (hm : m = s.length) (hmd : m ≤ cp) (hdl : cp ≤ 9223372036854775807) (hS : SetIn w w.heap.size S s) (hwf : ∀ t ∈ s, twf t) (hml : m ≤ 9223372036854775807)
    (hn : d.n.length ≤ 9223372036854775807) (he : d.e.length ≤ 9223372036854775807) (hu : d.s.length ≤ 9223372036854775807) (hv : d.w.length ≤ 9223372036854775807) (hE : EdIn w w.heap.size N E U V d) :
    Calls Tryd.prog 5 #[.slice S m cp, .int .i64 wd, .int .i64 hg, .agg #[.slice N d.n.length nc, .slice E d.e.length ec, .slice U d.s.length uc, .slice V d.w.length vc]] w fun e' w' => e' = .returned (.bool true) ∧ Below w.heap.size w w' := by
  obtain ⟨i0, hi, hz0, hz1, hz2⟩ := info_parts int_info
  obtain ⟨en, hen⟩ : ∃ en, en = d.e.length := ⟨_, rfl⟩
  obtain ⟨un, hun⟩ : ∃ un, un = d.s.length := ⟨_, rfl⟩
  obtain ⟨vn, hvn⟩ : ∃ vn, vn = d.w.length := ⟨_, rfl⟩
  obtain ⟨nn, hnn⟩ : ∃ nn, nn = d.n.length := ⟨_, rfl⟩
  obtain ⟨W1, hW1⟩ : ∃ W1, W1 = w.alloc (.cells #[.slice N nn nc, .slice E en ec, .slice U un uc, .slice V vn vc] 25) := ⟨_, rfl⟩
  have hblk1 : W1.heap[w.heap.size]? = some (.cells #[.slice N nn nc, .slice E en ec, .slice U un uc, .slice V vn vc] 25 (0, 0)) := by rw [hW1]; exact heap_alloc_new w _
  have hb1 : Below w.heap.size w W1 := by rw [hW1]; exact (Below.refl _ _).alloc (Nat.le_refl _) _
  have hz1' : w.heap.size < W1.heap.size := (Array.getElem?_eq_some_iff.1 hblk1).1
  rw [← hen, ← hun, ← hvn, ← hnn]
  have cAw : ∀ W, Below w.heap.size w W → Calls Tryd.prog 9 #[] W fun e w' => e = .returned (.bool true) ∧ Below W.heap.size W w' := fun W hb => awake2_any W (hEnv.keep hb)
  obtain ⟨sb, hsb⟩ : ∃ sb, sb = smallB s wd hg nn en un vn := ⟨_, rfl⟩
  have cSm : ∀ W, Below w.heap.size w W → Calls Tryd.prog 18 #[.slice S m cp, .int .i64 wd, .int .i64 hg, .agg #[.slice N nn nc, .slice E en ec, .slice U un uc, .slice V vn vc]] W fun e w' => e = .returned (.bool sb) ∧ Below W.heap.size W w' := fun W hb => by
    have hh := small_any s S m cp wd hg N E U V nn en un vn nc ec uc vc W hm hmd hdl (hS.keep hb hb.size) hwf hml (by omega) (by omega) (by omega) (by omega)
    rw [← hsb] at hh
    exact hh
  have HW1 := Lib.hid hW1
  have HB1 := Lib.hid hb1
  have HBK := Lib.hid hblk1
  cases sb
  · clear hm hS hwf hE hEnv hblk1 hb1 hW1 hsb hen hun hvn hnn
    go_enter Tryd.func5, Tryd.ntmps5
    go_wp2_with fail
    rw [← HW1.out]
    refine (cSm _ HB1.out).mono ?_
    rintro e2 w2 ⟨rfl, hb2⟩
    have hb02 : Below w.heap.size w w2 := HB1.out.trans (hb2.mono HB1.out.size)
    go_wp2_with fail
    refine (cAw _ hb02).mono ?_
    rintro e3 w3 ⟨rfl, hb3⟩
    go_wp2_with fail
    go_ret
    exact ⟨rfl, hb02.trans (hb3.mono hb02.size)⟩
  obtain ⟨hwide, hf, htm, hhv⟩ := smallB_iff.1 hsb.symm
  obtain ⟨hvl, hrng, hsn, hsu, hsv, hse⟩ := faultE_iff.1 hf
  obtain ⟨a, rfl⟩ := Int.eq_ofNat_of_zero_le (show 0 ≤ wd by omega)
  obtain ⟨b, rfl⟩ := Int.eq_ofNat_of_zero_le (show 0 ≤ hg by omega)
  have ha1 : 1 ≤ a := by omega
  have ha8 : a ≤ 8 := by omega
  have hb1' : 1 ≤ b := by omega
  have hb60 : b ≤ 60 := by omega
  have hm60 : m ≤ 60 := by
    unfold heavyB at hhv
    simp at hhv
    omega
  have hf0 : faultE s (a : Int) (b : Int) d.n.length d.e.length d.s.length d.w.length = 0 := by rw [← hf, hen, hun, hvn, hnn]
  have hok := edOk_of hf0
  have hc0 := checkE_ok hf0 htm
  obtain ⟨n, hn'⟩ : ∃ n, n = countE s a b d := ⟨_, rfl⟩
  obtain ⟨v, f, hcr, hvf⟩ := countRes_two (n := n) hf0 htm (by simpa using hn')
  have cCt : ∀ W, Below w.heap.size w W → Calls Tryd.prog 11 #[.slice S m cp, .int .i64 (a : Int), .int .i64 (b : Int), .agg #[.slice N nn nc, .slice E en ec, .slice U un uc, .slice V vn vc]] W fun e w' => e = .returned (.tuple #[.int .i64 v, .int .i64 f]) ∧ Below W.heap.size W w' := fun W hb => by
    have hh := count_any s d S m cp (a : Int) (b : Int) N E U V nc ec uc vc W hm (hS.keep hb hb.size) hwf (by omega) hn he hu hv (hE.keep hb hb.size)
    rw [hcr] at hh
    rw [hen, hun, hvn, hnn]
    exact hh
  have cFi0 : ∀ W, Below w.heap.size w W → Calls Tryd.prog 15 #[.slice S m cp, .int .i64 (a : Int), .int .i64 (b : Int), .agg #[.slice N nn nc, .slice E en ec, .slice U un uc, .slice V vn vc]] W (IsFirstRes s (a : Int) (b : Int) d W) := fun W hb => by
    have hh := first_any s d S m cp (a : Int) (b : Int) N E U V nc ec uc vc W hm (hS.keep hb hb.size) hwf (by omega) hn he hu hv (hE.keep hb hb.size)
    rw [hen, hun, hvn, hnn]
    exact hh
  by_cases hn0 : n = 0
  · have hfe : firstE s a b d = none := (first_none hb1').2 (by rw [← hn']; exact hn0)
    have cFi : ∀ W, Below w.heap.size w W → Calls Tryd.prog 15 #[.slice S m cp, .int .i64 (a : Int), .int .i64 (b : Int), .agg #[.slice N nn nc, .slice E en ec, .slice U un uc, .slice V vn vc]] W fun e w' => Below W.heap.size W w' ∧ e = .returned (.tuple #[.agg #[.int .i64 0, .int .i64 0, .slice none 0 0], .int .i64 6]) := fun W hb => (cFi0 W hb).mono fun e w' h => first_nothing h hc0 hfe
    obtain ⟨-, rfl, rfl⟩ := hvf.resolve_right (fun h => by omega)
    subst hn0
    clear hm hS hwf hE hEnv hblk1 hb1 hW1 hsb hen hun hvn hnn hwide hf htm hhv hvl hrng hsn hsu hsv hse hf0 hok hc0 hn' hcr cFi0 hfe
    go_enter Tryd.func5, Tryd.ntmps5
    go_wp2_with fail
    rw [← HW1.out]
    refine (cSm _ HB1.out).mono ?_
    rintro e2 w2 ⟨rfl, hb2⟩
    have hb02 : Below w.heap.size w w2 := HB1.out.trans (hb2.mono HB1.out.size)
    have r0 := (hb2.block w.heap.size hz1').trans HBK.out
    obtain ⟨r00, r01, r02, r03, -⟩ := zcells4 r0
    go_wp2_with fail
    refine (cCt _ hb02).mono ?_
    rintro e4 w4 ⟨rfl, hb4⟩
    have hb04 : Below w.heap.size w w4 := hb02.trans (hb4.mono hb02.size)
    have q0 := (hb4.block w.heap.size (Nat.lt_of_lt_of_le hz1' hb2.size)).trans r0
    have HQ0 := Lib.hid q0
    obtain ⟨y0, y1, y2, y3, -⟩ := zcells4 q0
    clear r0 r00 r01 r02 r03 q0
    go_wp2_with fail
    refine (cFi _ hb04).mono ?_
    rintro e5 w5 ⟨hb5, rfl⟩
    have hb05 : Below w.heap.size w w5 := hb04.trans (hb5.mono hb04.size)
    go_wp2_with fail
    refine (cAw _ (be_alloc hb05 _)).mono ?_
    rintro e6 w6 ⟨rfl, hb6⟩
    go_wp2_with fail
    go_ret
    exact ⟨rfl, (be_alloc hb05 _).trans (hb6.mono (be_alloc hb05 _).size)⟩
  obtain ⟨c, hfe⟩ : ∃ c, firstE s a b d = some c := by
    cases hh : firstE s a b d with
    | none => exact absurd ((first_none hb1').1 hh) (by rw [← hn']; exact hn0)
    | some c => exact ⟨c, rfl⟩
  obtain ⟨t, ht, rfl⟩ := first_mem hfe
  obtain ⟨hsh, hgood⟩ := (mem_stksE s a b d ha1 hb1' hok t).1 ht
  have hown := own_in ha1 hb1' hok ht
  obtain ⟨c', hfe'⟩ : ∃ c', firstE s a b (ownD s a b t) = some c' := by
    cases hh : firstE s a b (ownD s a b t) with
    | none =>
      have h1 := (first_none hb1').1 hh
      rw [countE_stks _ _ _ _ hb1', List.length_eq_zero_iff] at h1
      rw [h1] at hown
      cases hown
    | some c => exact ⟨c, rfl⟩
  obtain ⟨t', ht', rfl⟩ := first_mem hfe'
  have hok' := ownD_ok s a b t
  obtain ⟨hsh', hgood'⟩ := (mem_stksE s a b _ ha1 hb1' hok' t').1 ht'
  have hfl : t.flatten.length = a * b := flat_length hsh
  have hfl' : t'.flatten.length = a * b := flat_length hsh'
  obtain ⟨pn, hpn⟩ : ∃ pn, pn = a * b := ⟨_, rfl⟩
  have hpn480 : pn ≤ 480 := by rw [hpn]; exact Nat.mul_le_mul ha8 hb60
  have cFi : ∀ W, Below w.heap.size w W → Calls Tryd.prog 15 #[.slice S m cp, .int .i64 (a : Int), .int .i64 (b : Int), .agg #[.slice N nn nc, .slice E en ec, .slice U un uc, .slice V vn vc]] W fun e w' => Below W.heap.size W w' ∧ ∃ A cc, e = .returned (.tuple #[.agg #[.int .i64 (a : Int), .int .i64 (b : Int), .slice A pn cc], .int .i64 0]) ∧ IntsIn w' w'.heap.size A (idxI t.flatten) := fun W hb => (cFi0 W hb).mono fun e w' h => by
    have := first_some h hc0 hfe
    rw [hfl, ← hpn] at this
    exact this
  have hf' : faultE s (a : Int) (b : Int) (ownD s a b t).n.length (ownD s a b t).e.length (ownD s a b t).s.length (ownD s a b t).w.length = 0 := by
    rw [faultE_iff]
    refine ⟨hvl, hrng, Or.inr ?_, Or.inr ?_, Or.inr ?_, Or.inr ?_⟩ <;> simp [ownD]
  have hc0' := checkE_ok hf' htm
  have cFo : ∀ W N' E' U' V' n1 e1 u1 v1, Below w.heap.size w W → EdIn W W.heap.size N' E' U' V' (ownD s a b t) → Calls Tryd.prog 15 #[.slice S m cp, .int .i64 (a : Int), .int .i64 (b : Int), .agg #[.slice N' a n1, .slice E' b e1, .slice U' a u1, .slice V' b v1]] W fun e w' => Below W.heap.size W w' ∧ ∃ A cc, e = .returned (.tuple #[.agg #[.int .i64 (a : Int), .int .i64 (b : Int), .slice A pn cc], .int .i64 0]) ∧ IntsIn w' w'.heap.size A (idxI t'.flatten) := fun W N' E' U' V' n1 e1 u1 v1 hb hE' => by
    have hh := first_any s (ownD s a b t) S m cp (a : Int) (b : Int) N' E' U' V' n1 e1 u1 v1 W hm (hS.keep hb hb.size) hwf (by omega) (by simp [ownD]; omega) (by simp [ownD]; omega) (by simp [ownD]; omega) (by simp [ownD]; omega) hE'
    have e1' : (ownD s a b t).n.length = a ∧ (ownD s a b t).e.length = b ∧ (ownD s a b t).s.length = a ∧ (ownD s a b t).w.length = b := by simp [ownD]
    have hh2 := hh.mono fun e w' h => by
      have := first_some h hc0' hfe'
      rw [hfl', ← hpn] at this
      exact this
    rw [e1'.1, e1'.2.1, e1'.2.2.1, e1'.2.2.2] at hh2
    exact hh2
  have cFt : ∀ W A cc (T : List (List Nat)) D, Below w.heap.size w W → EdOk a b D → T ∈ stksE s a b D → IntsIn W W.heap.size A (idxI T.flatten) → Calls Tryd.prog 19 #[.slice S m cp, .agg #[.int .i64 (a : Int), .int .i64 (b : Int), .slice A pn cc]] W fun e w' => e = .returned (.bool true) ∧ Below W.heap.size W w' := fun W A cc T D hb hD hT hA => by
    have h1 := there_fits hvl ha1 ha8 hb1' hb60 hD hT
    rw [ptI_idx] at h1
    have h2 := flat_length ((mem_stksE s a b D ha1 hb1' hD T).1 hT).1
    exact rfits_any (a : Int) (b : Int) (idxI T.flatten) s A S m pn cc cp true W hm (by rw [idxI_len, h2, hpn]) hmd h1 (hS.keep hb hb.size) hA hdl (by omega)
  have cHa : ∀ W A cc (T : List (List Nat)) D N' E' U' V' n1 e1 u1 v1, Below w.heap.size w W → EdOk a b D → T ∈ stksE s a b D → IntsIn W W.heap.size A (idxI T.flatten) → EdIn W W.heap.size N' E' U' V' D → Calls Tryd.prog 20 #[.slice S m cp, .agg #[.int .i64 (a : Int), .int .i64 (b : Int), .slice A pn cc], .agg #[.slice N' D.n.length n1, .slice E' D.e.length e1, .slice U' D.s.length u1, .slice V' D.w.length v1]] W fun e w' => e = .returned (.bool true) ∧ Below W.heap.size W w' := fun W A cc T D N' E' U' V' n1 e1 u1 v1 hb hD hT hA hE' => by
    obtain ⟨h1, h2⟩ := (mem_stksE s a b D ha1 hb1' hD T).1 hT
    have h3 := flat_length h1
    exact rHas_any s S m cp a b (idxI T.flatten) A pn cc D N' E' U' V' n1 e1 u1 v1 T W hm (by omega) (hS.keep hb hb.size) ha1 hb1' (by omega) (by rw [idxI_len, h3]) (by rw [idxI_len, h3, hpn]) hA hE' hD h2 (fun x y hx hy => ptI_cel h1 hx hy)
  have cF1 : ∀ W A cc, Below w.heap.size w W → IntsIn W W.heap.size A (idxI t.flatten) → Calls Tryd.prog 19 #[.slice S m cp, .agg #[.int .i64 (a : Int), .int .i64 (b : Int), .slice A pn cc]] W fun e w' => e = .returned (.bool true) ∧ Below W.heap.size W w' := fun W A cc hb hA => cFt W A cc t d hb hok ht hA
  have cF2 : ∀ W A cc, Below w.heap.size w W → IntsIn W W.heap.size A (idxI t'.flatten) → Calls Tryd.prog 19 #[.slice S m cp, .agg #[.int .i64 (a : Int), .int .i64 (b : Int), .slice A pn cc]] W fun e w' => e = .returned (.bool true) ∧ Below W.heap.size W w' := fun W A cc hb hA => cFt W A cc t' _ hb hok' ht' hA
  have cH1 : ∀ W A cc, Below w.heap.size w W → IntsIn W W.heap.size A (idxI t.flatten) → Calls Tryd.prog 20 #[.slice S m cp, .agg #[.int .i64 (a : Int), .int .i64 (b : Int), .slice A pn cc], .agg #[.slice N nn nc, .slice E en ec, .slice U un uc, .slice V vn vc]] W fun e w' => e = .returned (.bool true) ∧ Below W.heap.size W w' := fun W A cc hb hA => by
    rw [hnn, hen, hun, hvn]
    exact cHa W A cc t d N E U V nc ec uc vc hb hok ht hA (hE.keep hb hb.size)
  have cH2 : ∀ W A cc N' E' U' V' n1 e1 u1 v1, Below w.heap.size w W → IntsIn W W.heap.size A (idxI t'.flatten) → EdIn W W.heap.size N' E' U' V' (ownD s a b t) → Calls Tryd.prog 20 #[.slice S m cp, .agg #[.int .i64 (a : Int), .int .i64 (b : Int), .slice A pn cc], .agg #[.slice N' a n1, .slice E' b e1, .slice U' a u1, .slice V' b v1]] W fun e w' => e = .returned (.bool true) ∧ Below W.heap.size W w' := fun W A cc N' E' U' V' n1 e1 u1 v1 hb hA hE' => by
    have hh := cHa W A cc t' (ownD s a b t) N' E' U' V' n1 e1 u1 v1 hb hok' ht' hA hE'
    have e1' : (ownD s a b t).n.length = a ∧ (ownD s a b t).e.length = b ∧ (ownD s a b t).s.length = a ∧ (ownD s a b t).w.length = b := by simp [ownD]
    rw [e1'.1, e1'.2.1, e1'.2.2.1, e1'.2.2.2] at hh
    exact hh
  have cCe : ∀ (W : World) (x y : Nat) (X Y : Int) (A : Option Addr) (cc : Nat), IntsIn W W.heap.size A (idxI t.flatten) → X = x → Y = y → x < a → y < b → Calls Tryd.prog 21 #[.agg #[.int .i64 (a : Int), .int .i64 (b : Int), .slice A pn cc], .int .i64 X, .int .i64 Y] W fun e w' => e = .returned (.int .i64 ((cl t x y : Nat) : Int)) ∧ Below W.heap.size W w' := fun W x y X Y A cc hA hX hY hx hy =>
    rcell_any a b (idxI t.flatten) A pn cc X Y _ x y W hX hY (ptI_cel hsh hx hy).symm hx hy (by omega) (by rw [idxI_len, hfl]) (by rw [idxI_len, hfl, hpn]) hA
  have hidx : ∀ x y, x < a → y < b → cl t x y < s.length := fun x y => hgood.idx x y
  obtain ⟨lU, hlU⟩ : ∃ lU : Nat → List Int, lU = fun j => (List.range j).map fun x => (ti s (cl t x 0)).s := ⟨_, rfl⟩
  obtain ⟨lN, hlN⟩ : ∃ lN : Nat → List Int, lN = fun j => (List.range j).map fun x => (ti s (cl t x (b - 1))).n := ⟨_, rfl⟩
  obtain ⟨lV, hlV⟩ : ∃ lV : Nat → List Int, lV = fun j => (List.range j).map fun y => (ti s (cl t 0 y)).w := ⟨_, rfl⟩
  obtain ⟨lE, hlE⟩ : ∃ lE : Nat → List Int, lE = fun j => (List.range j).map fun y => (ti s (cl t (a - 1) y)).e := ⟨_, rfl⟩
  have hOD : ownD s a b t = ⟨lN a, lE b, lU a, lV b⟩ := by rw [hlN, hlE, hlU, hlV]; rfl
  have l0 : lU 0 = [] ∧ lN 0 = [] ∧ lV 0 = [] ∧ lE 0 = [] := by rw [hlU, hlN, hlV, hlE]; exact ⟨rfl, rfl, rfl, rfl⟩
  have sU : ∀ j, lU (j + 1) = lU j ++ [(ti s (cl t j 0)).s] := fun j => by rw [hlU]; exact lmap_succ _ _
  have sN : ∀ j, lN (j + 1) = lN j ++ [(ti s (cl t j (b - 1))).n] := fun j => by rw [hlN]; exact lmap_succ _ _
  have sV : ∀ j, lV (j + 1) = lV j ++ [(ti s (cl t 0 j)).w] := fun j => by rw [hlV]; exact lmap_succ _ _
  have sE : ∀ j, lE (j + 1) = lE j ++ [(ti s (cl t (a - 1) j)).e] := fun j => by rw [hlE]; exact lmap_succ _ _
  obtain ⟨sb, so, hSe, hsbl, hcl⟩ := hS (ne_nil_of_lt (hidx 0 0 (by omega) (by omega)))
  subst hSe
  have hsc : ∀ W, Below w.heap.size w W → ∀ i, i < s.length → W.cell? ⟨sb, so + i * 4, none⟩ = some (.int .i64 (ti s i).n) ∧ W.cell? ⟨sb, so + i * 4 + 1, none⟩ = some (.int .i64 (ti s i).e) ∧ W.cell? ⟨sb, so + i * 4 + 2, none⟩ = some (.int .i64 (ti s i).s) ∧ W.cell? ⟨sb, so + i * 4 + 3, none⟩ = some (.int .i64 (ti s i).w) := fun W hb i hi => by
    obtain ⟨h0, h1, h2, h3⟩ := hcl i hi
    exact ⟨(hb.cell (p := ⟨sb, _, none⟩) hsbl).trans h0, (hb.cell (p := ⟨sb, _, none⟩) hsbl).trans h1, (hb.cell (p := ⟨sb, _, none⟩) hsbl).trans h2, (hb.cell (p := ⟨sb, _, none⟩) hsbl).trans h3⟩
  have HSC := Lib.hid hsc
  have HVF := Lib.hid hvf
  have HM := Lib.hid hm
  have HIX := Lib.hid hidx
  have CFO := Lib.hid cFo
  have CF1 := Lib.hid cF1
  have CF2 := Lib.hid cF2
  have CH1 := Lib.hid cH1
  have CH2 := Lib.hid cH2
  have CC := Lib.hid cCe
  have HOD := Lib.hid hOD
  have HL0 := Lib.hid l0
  have SU := Lib.hid sU
  have SN := Lib.hid sN
  have SV := Lib.hid sV
  have SE := Lib.hid sE
  clear hsc hcl hm hS hwf hE hEnv hblk1 hb1 hW1 hsb hen hun hvn hnn hwide hf htm hhv hvl hrng hsn hsu hsv hse hf0 hok hc0 hn' hcr cFi0 hfe hfe' ht ht' hsh hsh' hgood hgood' hown hok' hfl hfl' hpn hf' hc0' hvf hidx cFo cFt cHa cCe cF1 cF2 cH1 cH2 hlU hlN hlV hlE hOD l0 sU sN sV sE hn he hu hv
  go_enter Tryd.func5, Tryd.ntmps5
  go_wp2_with fail
  rw [← HW1.out]
  refine (cSm _ HB1.out).mono ?_
  rintro e2 w2 ⟨rfl, hb2⟩
  have hb02 : Below w.heap.size w w2 := HB1.out.trans (hb2.mono HB1.out.size)
  have r0 := (hb2.block w.heap.size hz1').trans HBK.out
  obtain ⟨r00, r01, r02, r03, -⟩ := zcells4 r0
  go_wp2_with fail
  refine (cCt _ hb02).mono ?_
  rintro e4 w4 ⟨rfl, hb4⟩
  have hb04 : Below w.heap.size w w4 := hb02.trans (hb4.mono hb02.size)
  have q0 := (hb4.block w.heap.size (Nat.lt_of_lt_of_le hz1' hb2.size)).trans r0
  have HQ0 := Lib.hid q0
  obtain ⟨y0, y1, y2, y3, -⟩ := zcells4 q0
  clear r0 r00 r01 r02 r03 q0
  go_wp2_with fail
  refine (cFi _ hb04).mono ?_
  rintro e5 w5 ⟨hb5, PA, pc, rfl, hIP⟩
  have hb05 : Below w.heap.size w w5 := hb04.trans (hb5.mono hb04.size)
  obtain ⟨W5, hW5⟩ : ∃ W5, W5 = w5.alloc (.cells #[.int .i64 (a : Int), .int .i64 (b : Int), .slice PA pn pc] 36) := ⟨_, rfl⟩
  have HW5 := Lib.hid hW5
  have HIP5 := Lib.hid hIP
  have HB05 := Lib.hid hb05
  have HB4 := Lib.hid hb4
  have HB5 := Lib.hid hb5
  have hz4 : w.heap.size < w4.heap.size := Nat.lt_of_lt_of_le hz1' (Nat.le_trans hb2.size hb4.size)
  have q5 := (hb5.block w.heap.size hz4).trans HQ0.out
  have HQ5 := Lib.hid q5
  clear hW5 hIP hb5 hb4 hb2 hb02 hb04 hb05 y0 y1 y2 y3 HQ0 q5
  go_upto_region 5 with fail
  rw [← HW5.out]
  go_cut [56] from 17 (fun b' wx => b' = .bool false ∧ wx = W5)
  case first =>
    rcases HVF.out with ⟨h1, rfl, rfl⟩ | ⟨h1, rfl, rfl⟩
    · have hnz : ((n : Int) == 0) = false := by rw [beq_eq_false_iff_ne]; omega
      go_wp2_with fail
      go_meet
      exact ⟨rfl, rfl⟩
    · go_wp2_with fail
      go_meet
      exact ⟨rfl, rfl⟩
  case rest =>
  obtain ⟨rfl, rfl⟩ := hcut
  obtain ⟨W5, rfl⟩ : ∃ W : World, W = wc := ⟨_, rfl⟩
  have hb5W : Below w5.heap.size w5 W5 := by rw [HW5.out]; exact be_alloc (Below.refl _ _) _
  have hq5p : W5.heap[w5.heap.size]? = some (.cells #[.int .i64 (a : Int), .int .i64 (b : Int), .slice PA pn pc] 36 (0, 0)) := by rw [HW5.out]; exact heap_alloc_new _ _
  obtain ⟨qp, hqpe⟩ : ∃ qp, qp = w5.heap.size := ⟨_, rfl⟩
  rw [← hqpe] at hq5p ⊢
  have hz5 : w.heap.size < w5.heap.size := Nat.lt_of_lt_of_le hz4 HB5.out.size
  have hq5e : W5.heap[w.heap.size]? = some (.cells #[.slice N nn nc, .slice E en ec, .slice U un uc, .slice V vn vc] 25 (0, 0)) := (hb5W.block w.heap.size hz5).trans HQ5.out
  have hbW5 : Below w.heap.size w W5 := HB05.out.trans (hb5W.mono HB05.out.size)
  obtain ⟨p0, p1, p2, -⟩ := zcells hq5p
  have HP5 := Lib.hid hq5p
  have HE5 := Lib.hid hq5e
  have HBW5 := Lib.hid hbW5
  have HB5W := Lib.hid hb5W
  have hlp5 : qp < W5.heap.size := (Array.getElem?_eq_some_iff.1 hq5p).1
  have HQPE := Lib.hid hqpe
  clear hq5p hq5e hbW5 hb5W hqpe
  go_wp2_with fail
  refine (CF1.out _ PA pc HBW5.out (HIP5.out.keep HB5W.out HB5W.out.size)).mono ?_
  rintro e6 w6 ⟨rfl, hb6⟩
  have hbw6 : Below w.heap.size w w6 := HBW5.out.trans (hb6.mono HBW5.out.size)
  have hb56 : Below w5.heap.size w5 w6 := HB5W.out.trans (hb6.mono HB5W.out.size)
  have hP6 := (hb6.block qp hlp5).trans HP5.out
  have hE6 := (hb6.block w.heap.size (Nat.lt_of_lt_of_le hz5 HB5W.out.size)).trans HE5.out
  clear p0 p1 p2
  obtain ⟨p0, p1, p2, -⟩ := zcells hP6
  obtain ⟨e0, e1, e2, e3, -⟩ := zcells4 hE6
  have HP6 := Lib.hid hP6
  have HB56 := Lib.hid hb56
  have HBW6 := Lib.hid hbw6
  have hlp6 : qp < w6.heap.size := Nat.lt_of_lt_of_le hlp5 hb6.size
  clear hP6 hE6 hb6 hb56 hbw6
  go_wp2_with fail
  refine (CH1.out _ PA pc HBW6.out (HIP5.out.keep HB56.out HB56.out.size)).mono ?_
  rintro e7 w7 ⟨rfl, hb7⟩
  have hbw7 : Below w.heap.size w w7 := HBW6.out.trans (hb7.mono HBW6.out.size)
  have hb57 : Below w5.heap.size w5 w7 := HB56.out.trans (hb7.mono HB56.out.size)
  have hP7 := (hb7.block qp hlp6).trans HP6.out
  have hlp7 : qp < w7.heap.size := Nat.lt_of_lt_of_le hlp6 hb7.size
  obtain ⟨W8, hW8⟩ : ∃ W8, W8 = w7.alloc (.cells #[.slice none 0 0, .slice none 0 0, .slice none 0 0, .slice none 0 0] 25) := ⟨_, rfl⟩
  obtain ⟨qo, hqo⟩ : ∃ qo, qo = w7.heap.size := ⟨_, rfl⟩
  obtain ⟨base, hbase⟩ : ∃ base, base = W8.heap.size := ⟨_, rfl⟩
  have hs8 : W8.heap.size = qo + 1 := by rw [hW8, hqo]; simp
  have hqb : qo < base := by omega
  have hwb : W8.heap.size ≤ base := by omega
  have wrb : IntKind.i64.wrap ((b : Int) - 1) = (b : Int) - 1 := IntWalk.i64_in _ (by omega)
  have wra : IntKind.i64.wrap ((a : Int) - 1) = (a : Int) - 1 := IntWalk.i64_in _ (by omega)
  have hwb2 : base ≤ W8.heap.size := by omega
  have hb78 : Below w7.heap.size w7 W8 := by rw [hW8]; exact be_alloc (Below.refl _ _) _
  have HE0 : Hid (EdAt W8 qo (.slice none 0 0) (.slice none 0 0) (.slice none 0 0) (.slice none 0 0)) := by show _ = _; rw [hW8, hqo]; exact heap_alloc_new _ _
  have HQP : Hid (W8.heap[qp]? = some (.cells #[.int .i64 (a : Int), .int .i64 (b : Int), .slice PA pn pc] 36 (0, 0))) := (hb78.block qp hlp7).trans hP7
  have hqpl : qp < W8.heap.size := by omega
  have hqpo : qp < qo := by omega
  have hwqo : w.heap.size < qo := by have := hb57.size; omega
  have HBB : Hid (Below w.heap.size w W8) := hbw7.trans (hb78.mono hbw7.size)
  have HIP : Hid (∀ W, W8.grownBy W (some qo) → IntsIn W W.heap.size PA (idxI t.flatten)) := fun W hW => by
    have h8 : Below w5.heap.size w5 W8 := hb57.trans (hb78.mono hb57.size)
    have hW5' : Below w5.heap.size w5 W := h8.trans ⟨hW.os, hW.tape, hW.output, hW.size, fun k hk => hW.block k (Nat.lt_of_lt_of_le hk h8.size) (by have := hb57.size; simp; omega)⟩
    exact HIP5.out.keep hW5' hW5'.size
  have HW8 := Lib.hid hW8
  have HQO := Lib.hid hqo
  have HBASE := Lib.hid hbase
  clear hW8 hbase hb78 hbw7 hb57 hP7 hb7 p0 p1 p2 e0 e1 e2 e3 HP6 HB56 HBW6 HP5 HE5 HBW5 HB5W HIP5 hlp5 hlp6 hlp7 hs8 hqo
  go_wp2_with fail
  rw [← HW8.out, ← HQO.out]
  go_loopw [14] (fun i wr => ∃ (j : Nat) (vN vU : Value), j ≤ a ∧ i = .int .i64 j ∧ Hid (EdAt wr qo vN (.slice none 0 0) vU (.slice none 0 0)) ∧ Hid (wr.ownsRow base 3 1 vU j (vals (lU j))) ∧ Hid (wr.ownsRow base 3 1 vN j (vals (lN j))) ∧ Hid (∀ g, vN.ownBlock = some g → vU.ownBlock ≠ some g) ∧ Hid (W8.grownBy wr (some qo))) (fun i _ => a - (intOf i).toNat)
  case atStart => exact ⟨0, .slice none 0 0, .slice none 0 0, Nat.zero_le _, rfl, HE0.out, by show World.ownsRow _ _ _ _ _ _ _; rw [HL0.out.1]; exact World.ownsRow_nil _ _ _ _, by show World.ownsRow _ _ _ _ _ _ _; rw [HL0.out.2.1]; exact World.ownsRow_nil _ _ _ _, none_ne, World.grownBy.refl _ _⟩
  case round =>
    clear HE0
    obtain ⟨j, vN, vU, hj, rfl, HED, HOA, HOB, HNE, HG0⟩ := hrel
    obtain ⟨wi, rfl⟩ : ∃ wi : World, wi = wr := ⟨_, rfl⟩
    by_cases hlt : j < a
    · have HOBx := HOB
      obtain ⟨i1, hi1⟩ : ∃ i1, i1 = cl t (j) (0) := ⟨_, rfl⟩
      have hl1 := HIX.out (j) (0) (by omega) (by omega)
      rw [← hi1] at hl1
      have hbw : Below w.heap.size w wi := HBB.out.trans ⟨HG0.out.os, HG0.out.tape, HG0.out.output, HG0.out.size, fun k hk => HG0.out.block k (Nat.lt_of_lt_of_le hk HBB.out.size) (by simp; omega)⟩
      obtain ⟨-, -, c2, -⟩ := HSC.out wi hbw i1 hl1
      obtain ⟨u, hu⟩ : ∃ u, u = (ti s i1).s := ⟨_, rfl⟩
      have c2' : wi.cell? ⟨sb, so + i1 * 4 + 2, none⟩ = some (.int .i64 u) := by rw [hu]; exact c2
      have hqp : wi.heap[qp]? = some (.cells #[.int .i64 (a : Int), .int .i64 (b : Int), .slice PA pn pc] 36 (0, 0)) := (HG0.out.block qp hqpl (by simp; omega)).trans HQP.out
      obtain ⟨q0, q1, q2, -⟩ := zcells hqp
      obtain ⟨o0, o1, o2', o3, oz⟩ := zcells4 (show wi.heap[qo]? = some (.cells #[_, _, _, _] _ (0, 0)) from HED.out)
      have hlo : qo < wi.heap.size := (Array.getElem?_eq_some_iff.1 (show wi.heap[qo]? = some _ from HED.out)).1
      have hsl : sb < wi.heap.size := Nat.lt_of_lt_of_le hsbl hbw.size
      have hlp : qp < wi.heap.size := (Array.getElem?_eq_some_iff.1 hqp).1
      have hm1 : i1 < m := by rw [HM.out]; exact hl1
      have hbsz : base ≤ wi.heap.size := by have := HG0.out.size; omega
      have cC : ∀ W : World, Below wi.heap.size wi W → Calls Tryd.prog 21 #[.agg #[.int .i64 (a : Int), .int .i64 (b : Int), .slice PA pn pc], .int .i64 (j : Int), .int .i64 0] W fun e w' => e = .returned (.int .i64 (i1 : Int)) ∧ Below W.heap.size W w' := fun W hW => by
        rw [hi1]
        exact CC.out W (j) (0) _ _ PA pc (HIP.out W (grown_below HG0.out hW)) (by omega) (by omega) (by omega) (by omega)
      have HSTEP := Lib.hid (SU.out j)
      rw [← hi1, ← hu] at HSTEP
      have o2 := o2'
      clear hi1 hl1 hu c2 hqp hbw o0 o1 o3
      go_wp2_with fail
      go_cut [] from 88 to 118 (fun wx => ∃ (vU' : Value), Hid (EdAt wx qo vN (.slice none 0 0) vU' (.slice none 0 0)) ∧ Hid (wx.ownsRow base 3 1 vU' (j + 1) (vals (lU (j + 1)))) ∧ Hid (wx.ownsRow base 3 1 vN j (vals (lN j))) ∧ Hid (∀ g, vN.ownBlock = some g → vU'.ownBlock ≠ some g) ∧ Hid (W8.grownBy wx (some qo)))
      case first =>
        go_region_law (first
                | ((rw [if_pos (by simp [Region.wanted])]); go_simp; (go_at_call 21); (with_reducible refine (cC _ ?_).mono ?_); (focus exact (Below.refl _ _).drew); rintro e wn ⟨rfl, hn⟩; have hnlw : qo < wn.heap.size := (Nat.lt_of_lt_of_le hlo (be_drew' hn).size); have p2 := ((be_drew' hn).cell (p := ⟨qo, 2, none⟩) hlo).trans o2; have pz : ∀ o, wn.frozen? ⟨qo, o, none⟩ = false := fun o => ((be_drew' hn).frozen (p := ⟨qo, o, none⟩) hlo).trans (oz o); have s2 := ((be_drew' hn).cell (p := ⟨sb, so + i1 * 4 + 2, none⟩) hsl).trans c2')
                | ((with_reducible refine step_append_own2 rfl (.tmp 94) (.tmp 102) 23 rfl base 3 i0 (.int .i64 0) 1 8 Tryd.underlying23 hi hz0 hz1 hz2 rfl (by decide) vU j (vals (lU j)) ?_ ?_ ⟨wn.heap.size, 0, none⟩ 1 1 [.int .i64 u] ?_ rfl (cell_one_new _ _ _) (one_int u) ?_ ?_ ?_ ?_); (focus (first | rfl | simp [Act.eval, Act.put])); (focus exact (own_keep' HOA.out (be_drew' hn)).alloc _); (focus (first | rfl | simp [Act.eval, Act.put])); (focus (simp only [maxLen]; omega)); (focus omega); (focus (have := (be_drew' hn).size; simp; omega)); intro v' w3 hown3 hgrow3 hat3; obtain ⟨B3, c3, rfl⟩ := own_form hown3; have hk3 := grown_at hgrow3 qo hnlw (fun g hg => by have := (HOA.out.lt g hg).1; omega); have z3 := (hk3.1 2).trans p2; have zf : ∀ o, w3.frozen? ⟨qo, o, none⟩ = false := fun o => (hk3.2 o).trans (pz o); have zfx := zf 2)
                | fail)
        all_goals
          have h2s := two_step HG0.out HOA.out HOB.out HNE.out HED.out (be_alloc (be_drew' hn) _) hqb hwb hgrow3 hat3 2 (.slice B3 (j + 1) c3)
          have HG1 := Lib.hid h2s.1
          have HOB1 := Lib.hid h2s.2.1
          have HNE1 := Lib.hid h2s.2.2.1
          have HED1 := Lib.hid (ed_set2 (show EdAt _ _ _ _ _ _ from h2s.2.2.2) (.slice B3 (j + 1) c3))
          have hoa := ownsRow_setCell_below hown3 (a := ⟨qo, 2, none⟩) hqb (.slice B3 (j + 1) c3)
          have evl : vals (lU j) ++ [Value.int .i64 u] = vals (lU (j + 1)) := by rw [HSTEP.out]; simp [vals]
          rw [evl] at hoa
          have HOA1 := Lib.hid hoa
          clear h2s hown3 hgrow3 hat3 hk3 p2 s2 hn hnlw hoa evl z3 zf zfx pz
          go_wp2_with fail
          go_meet
          exact ⟨_, HED1, HOA1, HOB1, HNE1, HG1⟩
      case rest =>
        obtain ⟨vU', HED', HOA', HOB', HNE', HG'⟩ := hcut
        clear HED HOA HOB HNE HG0 HOBx q0 q1 q2 oz hlo hsl hlp hm1 hbsz cC HSTEP o2 c2'
        obtain ⟨wi, rfl⟩ : ∃ wi : World, wi = wc := ⟨_, rfl⟩
        have HED := HED'
        have HOA := HOB'
        have HOB := HOA'
        have HG0 := HG'
        have HNE : Hid (∀ g, vU'.ownBlock = some g → vN.ownBlock ≠ some g) := fun g h1 h2 => HNE'.out g h2 h1
        clear HED' HOA' HOB' HNE' HG'
        obtain ⟨i1, hi1⟩ : ∃ i1, i1 = cl t (j) (b - 1) := ⟨_, rfl⟩
        have hl1 := HIX.out (j) (b - 1) (by omega) (by omega)
        rw [← hi1] at hl1
        have hbw : Below w.heap.size w wi := HBB.out.trans ⟨HG0.out.os, HG0.out.tape, HG0.out.output, HG0.out.size, fun k hk => HG0.out.block k (Nat.lt_of_lt_of_le hk HBB.out.size) (by simp; omega)⟩
        obtain ⟨c2, -, -, -⟩ := HSC.out wi hbw i1 hl1
        obtain ⟨u, hu⟩ : ∃ u, u = (ti s i1).n := ⟨_, rfl⟩
        have c2' : wi.cell? ⟨sb, so + i1 * 4, none⟩ = some (.int .i64 u) := by rw [hu]; exact c2
        have hqp : wi.heap[qp]? = some (.cells #[.int .i64 (a : Int), .int .i64 (b : Int), .slice PA pn pc] 36 (0, 0)) := (HG0.out.block qp hqpl (by simp; omega)).trans HQP.out
        obtain ⟨q0, q1, q2, -⟩ := zcells hqp
        obtain ⟨o0, o1, o2', o3, oz⟩ := zcells4 (show wi.heap[qo]? = some (.cells #[_, _, _, _] _ (0, 0)) from HED.out)
        have hlo : qo < wi.heap.size := (Array.getElem?_eq_some_iff.1 (show wi.heap[qo]? = some _ from HED.out)).1
        have hsl : sb < wi.heap.size := Nat.lt_of_lt_of_le hsbl hbw.size
        have hlp : qp < wi.heap.size := (Array.getElem?_eq_some_iff.1 hqp).1
        have hm1 : i1 < m := by rw [HM.out]; exact hl1
        have hbsz : base ≤ wi.heap.size := by have := HG0.out.size; omega
        have cC : ∀ W : World, Below wi.heap.size wi W → Calls Tryd.prog 21 #[.agg #[.int .i64 (a : Int), .int .i64 (b : Int), .slice PA pn pc], .int .i64 (j : Int), .int .i64 ((b : Int) - 1)] W fun e w' => e = .returned (.int .i64 (i1 : Int)) ∧ Below W.heap.size W w' := fun W hW => by
          rw [hi1]
          exact CC.out W (j) (b - 1) _ _ PA pc (HIP.out W (grown_below HG0.out hW)) (by omega) (by omega) (by omega) (by omega)
        have HSTEP := Lib.hid (SN.out j)
        rw [← hi1, ← hu] at HSTEP
        have o2 := o0
        clear hi1 hl1 hu c2 hqp hbw o1 o2' o3
        go_wp2_with fail
        go_region_law (first
                | ((rw [if_pos (by simp [Region.wanted])]); go_simp; (go_at_call 21); (with_reducible refine (cC _ ?_).mono ?_); (focus exact (Below.refl _ _).drew); rintro e wn ⟨rfl, hn⟩; have hnlw : qo < wn.heap.size := (Nat.lt_of_lt_of_le hlo (be_drew' hn).size); have p2 := ((be_drew' hn).cell (p := ⟨qo, 0, none⟩) hlo).trans o2; have pz : ∀ o, wn.frozen? ⟨qo, o, none⟩ = false := fun o => ((be_drew' hn).frozen (p := ⟨qo, o, none⟩) hlo).trans (oz o); have s2 := ((be_drew' hn).cell (p := ⟨sb, so + i1 * 4, none⟩) hsl).trans c2')
                | ((with_reducible refine step_append_own2 rfl (.tmp 106) (.tmp 116) 23 rfl base 3 i0 (.int .i64 0) 1 8 Tryd.underlying23 hi hz0 hz1 hz2 rfl (by decide) vN j (vals (lN j)) ?_ ?_ ⟨wn.heap.size, 0, none⟩ 1 1 [.int .i64 u] ?_ rfl (cell_one_new _ _ _) (one_int u) ?_ ?_ ?_ ?_); (focus (first | rfl | simp [Act.eval, Act.put])); (focus exact (own_keep' HOA.out (be_drew' hn)).alloc _); (focus (first | rfl | simp [Act.eval, Act.put])); (focus (simp only [maxLen]; omega)); (focus omega); (focus (have := (be_drew' hn).size; simp; omega)); intro v' w3 hown3 hgrow3 hat3; obtain ⟨B3, c3, rfl⟩ := own_form hown3; have hk3 := grown_at hgrow3 qo hnlw (fun g hg => by have := (HOA.out.lt g hg).1; omega); have z3 := (hk3.1 0).trans p2; have zf : ∀ o, w3.frozen? ⟨qo, o, none⟩ = false := fun o => (hk3.2 o).trans (pz o); have zfx := zf 0)
                | fail)
        all_goals
          have h2s := two_step HG0.out HOA.out HOB.out HNE.out HED.out (be_alloc (be_drew' hn) _) hqb hwb hgrow3 hat3 0 (.slice B3 (j + 1) c3)
          have HG1 := Lib.hid h2s.1
          have HOB1 := Lib.hid h2s.2.1
          have HNE1 := Lib.hid h2s.2.2.1
          have HED1 := Lib.hid (ed_set0 (show EdAt _ _ _ _ _ _ from h2s.2.2.2) (.slice B3 (j + 1) c3))
          have hoa := ownsRow_setCell_below hown3 (a := ⟨qo, 0, none⟩) hqb (.slice B3 (j + 1) c3)
          have evl : vals (lN j) ++ [Value.int .i64 u] = vals (lN (j + 1)) := by rw [HSTEP.out]; simp [vals]
          rw [evl] at hoa
          have HOA1 := Lib.hid hoa
          clear h2s hown3 hgrow3 hat3 hk3 p2 s2 hn hnlw hoa evl z3 zf zfx pz
          go_wp2_with fail
          go_roundw
          case rel => exact ⟨j + 1, _, _, by omega, by go_num, HED1, HOB1, HOA1, fun g h1 h2 => HNE1.out g h2 h1, HG1⟩
          case measure => simp [intOf]; omega
    · have hja : j = a := by omega
      subst hja
      obtain ⟨w9, rfl⟩ : ∃ W : World, W = wi := ⟨_, rfl⟩
      obtain ⟨rU, hrU⟩ : ∃ rU, rU = vU := ⟨_, rfl⟩
      obtain ⟨rN, hrN⟩ : ∃ rN, rN = vN := ⟨_, rfl⟩
      subst hrU
      subst hrN
      have HUK : Hid (∀ W, w9.grownBy W (some qo) → W.ownsRow base 3 1 rU j (vals (lU j))) := fun W hW => HOA.out.kept hW (Or.inr fun e => by have := (HOA.out.lt qo e).1; omega)
      have HNK : Hid (∀ W, w9.grownBy W (some qo) → W.ownsRow base 3 1 rN j (vals (lN j))) := fun W hW => HOB.out.kept hW (Or.inr fun e => by have := (HOB.out.lt qo e).1; omega)
      have HE0 : Hid (EdAt w9 qo rN (.slice none 0 0) rU (.slice none 0 0)) := HED
      have hs9 := HG0.out.size
      have HBB9 : Hid (Below w.heap.size w w9) := HBB.out.trans ⟨HG0.out.os, HG0.out.tape, HG0.out.output, HG0.out.size, fun k hk => HG0.out.block k (Nat.lt_of_lt_of_le hk HBB.out.size) (by simp; omega)⟩
      have HQP9 : Hid (w9.heap[qp]? = some (.cells #[.int .i64 (j : Int), .int .i64 (b : Int), .slice PA pn pc] 36 (0, 0))) := (HG0.out.block qp hqpl (by simp; omega)).trans HQP.out
      have HIP9 : Hid (∀ W, w9.grownBy W (some qo) → IntsIn W W.heap.size PA (idxI t.flatten)) := fun W hW => HIP.out W (HG0.out.trans hW)
      have hqpl9 : qp < w9.heap.size := by omega
      have hqo9 : qo < w9.heap.size := by omega
      clear HOA HOB HNE HED HG0 HBB HQP HIP hqpl hqb hwb hwb2
      obtain ⟨a, ha⟩ : ∃ a, a = j := ⟨_, rfl⟩
      subst ha
      obtain ⟨base, hbase⟩ : ∃ base, base = w9.heap.size := ⟨_, rfl⟩
      have hqb : qo < base := by omega
      have hwb : w9.heap.size ≤ base := by omega
      have hwb2 : base ≤ w9.heap.size := by omega
      have HBB := HBB9
      have HQP := HQP9
      have HIP := HIP9
      have hqpl := hqpl9
      clear HBB9 HQP9 HIP9 hqpl9 hbase hs9 hlt hj
      go_wp2_with fail
      go_loopw [15] (fun i wr => ∃ (j : Nat) (vE vV : Value), j ≤ b ∧ i = .int .i64 j ∧ Hid (EdAt wr qo rN vE rU vV) ∧ Hid (wr.ownsRow base 3 1 vV j (vals (lV j))) ∧ Hid (wr.ownsRow base 3 1 vE j (vals (lE j))) ∧ Hid (∀ g, vE.ownBlock = some g → vV.ownBlock ≠ some g) ∧ Hid (w9.grownBy wr (some qo))) (fun i _ => b - (intOf i).toNat)
      case atStart => exact ⟨0, .slice none 0 0, .slice none 0 0, Nat.zero_le _, rfl, HE0.out, by show World.ownsRow _ _ _ _ _ _ _; rw [HL0.out.2.2.1]; exact World.ownsRow_nil _ _ _ _, by show World.ownsRow _ _ _ _ _ _ _; rw [HL0.out.2.2.2]; exact World.ownsRow_nil _ _ _ _, none_ne, World.grownBy.refl _ _⟩
      case round =>
        clear HE0
        obtain ⟨j, vE, vV, hj, rfl, HED, HOA, HOB, HNE, HG0⟩ := hrel
        obtain ⟨wi, rfl⟩ : ∃ wi : World, wi = wr := ⟨_, rfl⟩
        by_cases hlt : j < b
        · have HOBx := HOB
          obtain ⟨i1, hi1⟩ : ∃ i1, i1 = cl t (0) (j) := ⟨_, rfl⟩
          have hl1 := HIX.out (0) (j) (by omega) (by omega)
          rw [← hi1] at hl1
          have hbw : Below w.heap.size w wi := HBB.out.trans ⟨HG0.out.os, HG0.out.tape, HG0.out.output, HG0.out.size, fun k hk => HG0.out.block k (Nat.lt_of_lt_of_le hk HBB.out.size) (by simp; omega)⟩
          obtain ⟨-, -, -, c2⟩ := HSC.out wi hbw i1 hl1
          obtain ⟨u, hu⟩ : ∃ u, u = (ti s i1).w := ⟨_, rfl⟩
          have c2' : wi.cell? ⟨sb, so + i1 * 4 + 3, none⟩ = some (.int .i64 u) := by rw [hu]; exact c2
          have hqp : wi.heap[qp]? = some (.cells #[.int .i64 (a : Int), .int .i64 (b : Int), .slice PA pn pc] 36 (0, 0)) := (HG0.out.block qp hqpl (by simp; omega)).trans HQP.out
          obtain ⟨q0, q1, q2, -⟩ := zcells hqp
          obtain ⟨o0, o1, o2', o3, oz⟩ := zcells4 (show wi.heap[qo]? = some (.cells #[_, _, _, _] _ (0, 0)) from HED.out)
          have hlo : qo < wi.heap.size := (Array.getElem?_eq_some_iff.1 (show wi.heap[qo]? = some _ from HED.out)).1
          have hsl : sb < wi.heap.size := Nat.lt_of_lt_of_le hsbl hbw.size
          have hlp : qp < wi.heap.size := (Array.getElem?_eq_some_iff.1 hqp).1
          have hm1 : i1 < m := by rw [HM.out]; exact hl1
          have hbsz : base ≤ wi.heap.size := by have := HG0.out.size; omega
          have cC : ∀ W : World, Below wi.heap.size wi W → Calls Tryd.prog 21 #[.agg #[.int .i64 (a : Int), .int .i64 (b : Int), .slice PA pn pc], .int .i64 0, .int .i64 (j : Int)] W fun e w' => e = .returned (.int .i64 (i1 : Int)) ∧ Below W.heap.size W w' := fun W hW => by
            rw [hi1]
            exact CC.out W (0) (j) _ _ PA pc (HIP.out W (grown_below HG0.out hW)) (by omega) (by omega) (by omega) (by omega)
          have HSTEP := Lib.hid (SV.out j)
          rw [← hi1, ← hu] at HSTEP
          have o2 := o3
          clear hi1 hl1 hu c2 hqp hbw o0 o1 o2'
          go_wp2_with fail
          go_cut [] from 119 to 149 (fun wx => ∃ (vV' : Value), Hid (EdAt wx qo rN vE rU vV') ∧ Hid (wx.ownsRow base 3 1 vV' (j + 1) (vals (lV (j + 1)))) ∧ Hid (wx.ownsRow base 3 1 vE j (vals (lE j))) ∧ Hid (∀ g, vE.ownBlock = some g → vV'.ownBlock ≠ some g) ∧ Hid (w9.grownBy wx (some qo)))
          case first =>
            go_region_law (first
                    | ((rw [if_pos (by simp [Region.wanted])]); go_simp; (go_at_call 21); (with_reducible refine (cC _ ?_).mono ?_); (focus exact (Below.refl _ _).drew); rintro e wn ⟨rfl, hn⟩; have hnlw : qo < wn.heap.size := (Nat.lt_of_lt_of_le hlo (be_drew' hn).size); have p2 := ((be_drew' hn).cell (p := ⟨qo, 3, none⟩) hlo).trans o2; have pz : ∀ o, wn.frozen? ⟨qo, o, none⟩ = false := fun o => ((be_drew' hn).frozen (p := ⟨qo, o, none⟩) hlo).trans (oz o); have s2 := ((be_drew' hn).cell (p := ⟨sb, so + i1 * 4 + 3, none⟩) hsl).trans c2')
                    | ((with_reducible refine step_append_own2 rfl (.tmp 125) (.tmp 133) 23 rfl base 3 i0 (.int .i64 0) 1 8 Tryd.underlying23 hi hz0 hz1 hz2 rfl (by decide) vV j (vals (lV j)) ?_ ?_ ⟨wn.heap.size, 0, none⟩ 1 1 [.int .i64 u] ?_ rfl (cell_one_new _ _ _) (one_int u) ?_ ?_ ?_ ?_); (focus (first | rfl | simp [Act.eval, Act.put])); (focus exact (own_keep' HOA.out (be_drew' hn)).alloc _); (focus (first | rfl | simp [Act.eval, Act.put])); (focus (simp only [maxLen]; omega)); (focus omega); (focus (have := (be_drew' hn).size; simp; omega)); intro v' w3 hown3 hgrow3 hat3; obtain ⟨B3, c3, rfl⟩ := own_form hown3; have hk3 := grown_at hgrow3 qo hnlw (fun g hg => by have := (HOA.out.lt g hg).1; omega); have z3 := (hk3.1 3).trans p2; have zf : ∀ o, w3.frozen? ⟨qo, o, none⟩ = false := fun o => (hk3.2 o).trans (pz o); have zfx := zf 3)
                    | fail)
            all_goals
              have h2s := two_step HG0.out HOA.out HOB.out HNE.out HED.out (be_alloc (be_drew' hn) _) hqb hwb hgrow3 hat3 3 (.slice B3 (j + 1) c3)
              have HG1 := Lib.hid h2s.1
              have HOB1 := Lib.hid h2s.2.1
              have HNE1 := Lib.hid h2s.2.2.1
              have HED1 := Lib.hid (ed_set3 (show EdAt _ _ _ _ _ _ from h2s.2.2.2) (.slice B3 (j + 1) c3))
              have hoa := ownsRow_setCell_below hown3 (a := ⟨qo, 3, none⟩) hqb (.slice B3 (j + 1) c3)
              have evl : vals (lV j) ++ [Value.int .i64 u] = vals (lV (j + 1)) := by rw [HSTEP.out]; simp [vals]
              rw [evl] at hoa
              have HOA1 := Lib.hid hoa
              clear h2s hown3 hgrow3 hat3 hk3 p2 s2 hn hnlw hoa evl z3 zf zfx pz
              go_wp2_with fail
              go_meet
              exact ⟨_, HED1, HOA1, HOB1, HNE1, HG1⟩
          case rest =>
            obtain ⟨vV', HED', HOA', HOB', HNE', HG'⟩ := hcut
            clear HED HOA HOB HNE HG0 HOBx q0 q1 q2 oz hlo hsl hlp hm1 hbsz cC HSTEP o2 c2'
            obtain ⟨wi, rfl⟩ : ∃ wi : World, wi = wc := ⟨_, rfl⟩
            have HED := HED'
            have HOA := HOB'
            have HOB := HOA'
            have HG0 := HG'
            have HNE : Hid (∀ g, vV'.ownBlock = some g → vE.ownBlock ≠ some g) := fun g h1 h2 => HNE'.out g h2 h1
            clear HED' HOA' HOB' HNE' HG'
            obtain ⟨i1, hi1⟩ : ∃ i1, i1 = cl t (a - 1) (j) := ⟨_, rfl⟩
            have hl1 := HIX.out (a - 1) (j) (by omega) (by omega)
            rw [← hi1] at hl1
            have hbw : Below w.heap.size w wi := HBB.out.trans ⟨HG0.out.os, HG0.out.tape, HG0.out.output, HG0.out.size, fun k hk => HG0.out.block k (Nat.lt_of_lt_of_le hk HBB.out.size) (by simp; omega)⟩
            obtain ⟨-, c2, -, -⟩ := HSC.out wi hbw i1 hl1
            obtain ⟨u, hu⟩ : ∃ u, u = (ti s i1).e := ⟨_, rfl⟩
            have c2' : wi.cell? ⟨sb, so + i1 * 4 + 1, none⟩ = some (.int .i64 u) := by rw [hu]; exact c2
            have hqp : wi.heap[qp]? = some (.cells #[.int .i64 (a : Int), .int .i64 (b : Int), .slice PA pn pc] 36 (0, 0)) := (HG0.out.block qp hqpl (by simp; omega)).trans HQP.out
            obtain ⟨q0, q1, q2, -⟩ := zcells hqp
            obtain ⟨o0, o1, o2', o3, oz⟩ := zcells4 (show wi.heap[qo]? = some (.cells #[_, _, _, _] _ (0, 0)) from HED.out)
            have hlo : qo < wi.heap.size := (Array.getElem?_eq_some_iff.1 (show wi.heap[qo]? = some _ from HED.out)).1
            have hsl : sb < wi.heap.size := Nat.lt_of_lt_of_le hsbl hbw.size
            have hlp : qp < wi.heap.size := (Array.getElem?_eq_some_iff.1 hqp).1
            have hm1 : i1 < m := by rw [HM.out]; exact hl1
            have hbsz : base ≤ wi.heap.size := by have := HG0.out.size; omega
            have cC : ∀ W : World, Below wi.heap.size wi W → Calls Tryd.prog 21 #[.agg #[.int .i64 (a : Int), .int .i64 (b : Int), .slice PA pn pc], .int .i64 ((a : Int) - 1), .int .i64 (j : Int)] W fun e w' => e = .returned (.int .i64 (i1 : Int)) ∧ Below W.heap.size W w' := fun W hW => by
              rw [hi1]
              exact CC.out W (a - 1) (j) _ _ PA pc (HIP.out W (grown_below HG0.out hW)) (by omega) (by omega) (by omega) (by omega)
            have HSTEP := Lib.hid (SE.out j)
            rw [← hi1, ← hu] at HSTEP
            have o2 := o1
            clear hi1 hl1 hu c2 hqp hbw o0 o2' o3
            go_wp2_with fail
            go_region_law (first
                    | ((rw [if_pos (by simp [Region.wanted])]); go_simp; (go_at_call 21); (with_reducible refine (cC _ ?_).mono ?_); (focus exact (Below.refl _ _).drew); rintro e wn ⟨rfl, hn⟩; have hnlw : qo < wn.heap.size := (Nat.lt_of_lt_of_le hlo (be_drew' hn).size); have p2 := ((be_drew' hn).cell (p := ⟨qo, 1, none⟩) hlo).trans o2; have pz : ∀ o, wn.frozen? ⟨qo, o, none⟩ = false := fun o => ((be_drew' hn).frozen (p := ⟨qo, o, none⟩) hlo).trans (oz o); have s2 := ((be_drew' hn).cell (p := ⟨sb, so + i1 * 4 + 1, none⟩) hsl).trans c2')
                    | ((with_reducible refine step_append_own2 rfl (.tmp 137) (.tmp 147) 23 rfl base 3 i0 (.int .i64 0) 1 8 Tryd.underlying23 hi hz0 hz1 hz2 rfl (by decide) vE j (vals (lE j)) ?_ ?_ ⟨wn.heap.size, 0, none⟩ 1 1 [.int .i64 u] ?_ rfl (cell_one_new _ _ _) (one_int u) ?_ ?_ ?_ ?_); (focus (first | rfl | simp [Act.eval, Act.put])); (focus exact (own_keep' HOA.out (be_drew' hn)).alloc _); (focus (first | rfl | simp [Act.eval, Act.put])); (focus (simp only [maxLen]; omega)); (focus omega); (focus (have := (be_drew' hn).size; simp; omega)); intro v' w3 hown3 hgrow3 hat3; obtain ⟨B3, c3, rfl⟩ := own_form hown3; have hk3 := grown_at hgrow3 qo hnlw (fun g hg => by have := (HOA.out.lt g hg).1; omega); have z3 := (hk3.1 1).trans p2; have zf : ∀ o, w3.frozen? ⟨qo, o, none⟩ = false := fun o => (hk3.2 o).trans (pz o); have zfx := zf 1)
                    | fail)
            all_goals
              have h2s := two_step HG0.out HOA.out HOB.out HNE.out HED.out (be_alloc (be_drew' hn) _) hqb hwb hgrow3 hat3 1 (.slice B3 (j + 1) c3)
              have HG1 := Lib.hid h2s.1
              have HOB1 := Lib.hid h2s.2.1
              have HNE1 := Lib.hid h2s.2.2.1
              have HED1 := Lib.hid (ed_set1 (show EdAt _ _ _ _ _ _ from h2s.2.2.2) (.slice B3 (j + 1) c3))
              have hoa := ownsRow_setCell_below hown3 (a := ⟨qo, 1, none⟩) hqb (.slice B3 (j + 1) c3)
              have evl : vals (lE j) ++ [Value.int .i64 u] = vals (lE (j + 1)) := by rw [HSTEP.out]; simp [vals]
              rw [evl] at hoa
              have HOA1 := Lib.hid hoa
              clear h2s hown3 hgrow3 hat3 hk3 p2 s2 hn hnlw hoa evl z3 zf zfx pz
              go_wp2_with fail
              go_roundw
              case rel => exact ⟨j + 1, _, _, by omega, by go_num, HED1, HOB1, HOA1, fun g h1 h2 => HNE1.out g h2 h1, HG1⟩
              case measure => simp [intOf]; omega
        · have hjb : j = b := by omega
          subst hjb
          have hw10 : Below w.heap.size w wi := HBB.out.trans ⟨HG0.out.os, HG0.out.tape, HG0.out.output, HG0.out.size, fun k hk => HG0.out.block k (Nat.lt_of_lt_of_le hk HBB.out.size) (by simp; omega)⟩
          have hrU := HUK.out wi HG0.out
          have hrN := HNK.out wi HG0.out
          obtain ⟨BU, cU, rfl⟩ := own_form hrU
          obtain ⟨BN, cN, rfl⟩ := own_form hrN
          obtain ⟨BV, cV, rfl⟩ := own_form HOA.out
          obtain ⟨BE, cE, rfl⟩ := own_form HOB.out
          have hED : EdIn wi wi.heap.size BN BE BU BV (ownD s a j t) := by
            rw [HOD.out]
            exact ⟨(ints_of_own hrN).1, (ints_of_own HOB.out).1, (ints_of_own hrU).1, (ints_of_own HOA.out).1⟩
          obtain ⟨w10, rfl⟩ : ∃ W : World, W = wi := ⟨_, rfl⟩
          obtain ⟨o0, o1, o2, o3, -⟩ := zcells4 (show w10.heap[qo]? = some (.cells #[_, _, _, _] _ (0, 0)) from HED.out)
          have hlo : qo < w10.heap.size := (Array.getElem?_eq_some_iff.1 (show w10.heap[qo]? = some _ from HED.out)).1
          have HED10 := Lib.hid hED
          have HW10 := Lib.hid hw10
          have HE10 := HED
          clear HOA HOB HNE HG0 HED hED hw10 hrU hrN HUK HNK
          go_wp2_with fail
          refine (CFO.out _ BN BE BU BV cN cE cU cV HW10.out HED10.out).mono ?_
          rintro e11 w11 ⟨hb11, QA, qc, rfl, hIQ⟩
          obtain ⟨W12, hW12⟩ : ∃ W12, W12 = w11.alloc (.cells #[.int .i64 (a : Int), .int .i64 (j : Int), .slice QA pn qc] 36) := ⟨_, rfl⟩
          have hb1112 : Below w11.heap.size w11 W12 := by rw [hW12]; exact be_alloc (Below.refl _ _) _
          have hQ12 : W12.heap[w11.heap.size]? = some (.cells #[.int .i64 (a : Int), .int .i64 (j : Int), .slice QA pn qc] 36 (0, 0)) := by rw [hW12]; exact heap_alloc_new _ _
          have hb1012 : Below w10.heap.size w10 W12 := hb11.trans (hb1112.mono hb11.size)
          have hw12 : Below w.heap.size w W12 := HW10.out.trans (hb1012.mono HW10.out.size)
          have hIQ12 := hIQ.keep hb1112 hb1112.size
          have hE12 : EdAt W12 qo _ _ _ _ := (hb1012.block qo hlo).trans HE10.out
          have hED12 := HED10.out.keep hb1012 hb1012.size
          have hl11 : w11.heap.size < W12.heap.size := (Array.getElem?_eq_some_iff.1 hQ12).1
          have HW12 := Lib.hid hW12
          have HWW12 := Lib.hid hw12
          have HIQ := Lib.hid hIQ12
          have HQ12 := Lib.hid hQ12
          have HE12 := Lib.hid hE12
          have HED12 := Lib.hid hED12
          have hlo12 : qo < W12.heap.size := Nat.lt_of_lt_of_le hlo hb1012.size
          clear o0 o1 o2 o3 hb11 hIQ hW12 hb1112 hQ12 hb1012 hw12 hIQ12 hE12 hED12 HE10 HED10 HW10
          go_wp2_with fail
          rw [← HW12.out]
          refine (CF2.out _ QA qc HWW12.out HIQ.out).mono ?_
          rintro e13 w13 ⟨rfl, hb13⟩
          obtain ⟨q0, q1, q2, -⟩ := zcells ((hb13.block w11.heap.size hl11).trans HQ12.out)
          obtain ⟨o0, o1, o2, o3, -⟩ := zcells4 (show w13.heap[qo]? = some (.cells #[_, _, _, _] _ (0, 0)) from (hb13.block qo hlo12).trans HE12.out)
          have hw13 : Below w.heap.size w w13 := HWW12.out.trans (hb13.mono HWW12.out.size)
          have HIQ13 := Lib.hid (HIQ.out.keep hb13 hb13.size)
          have HED13 := Lib.hid (HED12.out.keep hb13 hb13.size)
          have HW13 := Lib.hid hw13
          clear hb13 hw13 HQ12 HE12 HWW12 HIQ HED12
          go_wp2_with fail
          refine (CH2.out _ QA qc BN BE BU BV cN cE cU cV HW13.out HIQ13.out HED13.out).mono ?_
          rintro e14 w14 ⟨rfl, hb14⟩
          have hw14 : Below w.heap.size w w14 := HW13.out.trans (hb14.mono HW13.out.size)
          have HW14 := Lib.hid hw14
          clear hb14 hw14 q0 q1 q2 o0 o1 o2 o3
          go_wp2_with fail
          refine (cAw _ HW14.out).mono ?_
          rintro e15 w15 ⟨rfl, hb15⟩
          go_wp2_with fail
          go_ret
          exact ⟨rfl, HW14.out.trans (hb15.mono HW14.out.size)⟩
end Go.Proofs.YtloodijkfoinnaaDoor
