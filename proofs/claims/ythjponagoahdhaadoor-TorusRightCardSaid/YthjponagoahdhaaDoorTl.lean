/-
  torus.pattern, torus.Find.
-/
import Derived.Test.YthjponagoahdhaaDoorTfi
import Derived.Test.YthjponagoahdhaaDoorTj
namespace Go.Proofs.YthjponagoahdhaaDoor
open Go.RowKit Go.Maps Go.BigFrame Go.Sort
set_option linter.unusedVariables false
set_option linter.unusedSimpArgs false
set_option maxRecDepth 100000

theorem sets3T {w : World} {q : Nat} {z0 z1 z2 a b c : Value} {t : TypeId} (h : w.heap[q]? = some (.cells #[z0, z1, z2] t (0, 0))) :
    (((w.setCell ⟨q, 0, none⟩ a).setCell ⟨q, 1, none⟩ b).setCell ⟨q, 2, none⟩ c).heap[q]? = some (.cells #[a, b, c] t (0, 0)) := by
  have h1 := heap_setCell_same _ q 2 _ t c (heap_setCell_same _ q 1 _ t b (heap_setCell_same w q 0 _ t a h))
  rw [h1]
  rfl
theorem below3T {w0 w : World} {B q : Nat} {a b c : Value} (h : Below B w0 w) (hq : B ≤ q) : Below B w0 (((w.setCell ⟨q, 0, none⟩ a).setCell ⟨q, 1, none⟩ b).setCell ⟨q, 2, none⟩ c) := ((h.setCell hq _).setCell hq _).setCell hq _
theorem grown3T (w : World) (q : Nat) (a b c : Value) : w.grownBy (((w.setCell ⟨q, 0, none⟩ a).setCell ⟨q, 1, none⟩ b).setCell ⟨q, 2, none⟩ c) (some q) :=
  ((grown_one w q 0 a).trans (grown_one _ q 1 b)).trans (grown_one _ q 2 c)
theorem rws_countT (s : List Tl) : ∀ x, (rws s x).length ≤ s.length ^ x
  | 0 => by simp [rws]
  | x + 1 => by
    have ih := rws_countT s x
    simp only [rws, List.length_flatMap]
    have h : ∀ l : List (List Nat), (l.map fun r => (longer s r).length).sum ≤ l.length * s.length := fun l => by
      induction l with
      | nil => simp
      | cons r l ihl =>
        have h1 : (longer s r).length ≤ s.length := by
          unfold longer
          rw [List.length_map]
          exact Nat.le_trans (List.length_filter_le _ _) (by simp)
        rw [List.map_cons, List.sum_cons, List.length_cons, Nat.add_mul, Nat.one_mul]
        omega
    exact Nat.le_trans (h _) (by rw [Nat.pow_succ]; exact Nat.mul_le_mul_right _ ih)
theorem rws_fewT (s : List Tl) (wd : Nat) (h : tooM s.length wd = false) : ∀ x, x ≤ wd → (rws s x).length ≤ 5000 := fun x hx => by
  have hp : s.length ^ wd ≤ 5000 := by
    unfold tooM at h
    have := of_decide_eq_false h
    omega
  have h1 := rws_countT s x
  rcases Nat.eq_zero_or_pos s.length with e | e
  · rw [e] at h1
    cases x with
    | zero => simp at h1; omega
    | succ x => rw [Nat.zero_pow (by omega)] at h1; omega
  · exact Nat.le_trans h1 (Nat.le_trans (Nat.pow_le_pow_right e hx) hp)
/-- the tiles of a ring's struct -/
theorem ring_news {s : List Tl} {x : Nat} {r : List Nat} {w : World} {q : Nat} {t : TypeId} (h : w.heap[q]? = some (.cells (ringA s x r) t (0, 0))) (h6 : r.length ≤ 6) :
    ∀ j u, (vals (idxI r))[j]? = some u → w.cell? ((⟨q, 0, none⟩ : Addr).add j) = some u := by
  intro j u hj
  rw [Addr.add_mid, Nat.zero_add, cell_of_row _ _ _ _ _ _ h]
  have hjl : j < (vals (idxI r)).length := (List.getElem?_eq_some_iff.1 hj).1
  have hjr : j < r.length := by simpa [vals, idxI] using hjl
  have e : ringV s x r = vals (idxI r) ++ (vals (List.replicate (6 - (idxI r).length) 0) ++ vals [(numT s x (lineN s r) : Int), (numT s x (lineS s r) : Int)]) := by
    unfold ringV ringInts pad6 vals
    rw [List.map_append, List.map_append, List.append_assoc]
  have : (ringV s x r)[j]? = some u := by
    rw [e, List.getElem?_append_left hjl]
    exact hj
  simpa [ringA] using this
theorem ints_grownT {w w' : World} {q : Nat} {A : Option Addr} {l : List Int} (h : IntsIn w w.heap.size A l) (hg : w.grownBy w' (some q)) (hne : ∀ b, A = some b → b.block ≠ q) : IntsIn w' w'.heap.size A l := fun hn => by
  obtain ⟨b, off, hA, hb, hc⟩ := h hn
  refine ⟨b, off, hA, Nat.lt_of_lt_of_le hb hg.size, fun i hi => ?_⟩
  exact (World.cell?_of_block (a := ⟨b, off + i, none⟩) (hg.block b hb (by intro e; injection e with e; exact hne _ hA e))).trans (hc i hi)
/-- what pattern returns -/
def IsPatT (x h : Nat) (rs : List (List Nat)) (W : World) (e : Ending) (w' : World) : Prop :=
  ∃ A c, e = .returned (.agg #[.int .i64 (x : Nat), .int .i64 (h : Nat), .slice A rs.flatten.length c]) ∧ IntsIn w' w'.heap.size A (idxI rs.flatten) ∧ Below W.heap.size W w' ∧ ∀ b, A = some b → W.heap.size ≤ b.block
theorem flat_len_row : ∀ (rs : List (List Nat)) (x : Nat), (∀ r ∈ rs, r.length = x) → rs.flatten.length = rs.length * x
  | [], x, _ => by simp
  | r :: rs, x, h => by
    rw [List.flatten_cons, List.length_append, h r (by simp), flat_len_row rs x (fun q hq => h q (by simp [hq])), List.length_cons, Nat.add_mul]
    omega
set_option maxHeartbeats 8000000 in
theorem pattern_anyT (s : List Tl) (X x h g : Nat) (rs : List (List Nat)) (w : World) (hx1 : 1 ≤ x) (hx6 : x ≤ 6) (hh6 : h ≤ 6) (hrs : h = rs.length) (hrl : ∀ r ∈ rs, r.length = x)
    (hR : ∀ W, Below w.heap.size w W → ∀ y r, rs[y]? = some r → W.rangeAt g (y * 8) (ringV s X r)) :
    Calls Tryd.prog 28 #[.slice (some ⟨g, 0, none⟩) h h, .int .i64 (x : Nat)] w (IsPatT x h rs w) := by
  obtain ⟨i0, hi, hz0, hz1, hz2⟩ := info_parts int_info
  obtain ⟨N, hN⟩ : ∃ N, N = x * h := ⟨_, rfl⟩
  have hN36 : N ≤ 36 := by rw [hN]; exact Nat.mul_le_mul hx6 hh6
  have mN : IntKind.i64.wrap ((x : Int) * (h : Int)) = (N : Int) := by
    have : (x : Int) * (h : Int) = (N : Int) := by rw [hN, Int.natCast_mul]
    rw [this]
    exact IntWalk.i64_in _ (by omega)
  have hby : i0.bytes * N ≤ 281474976710656 := by rw [hz2]; omega
  have HRS := Lib.hid hrs
  have HRL := Lib.hid hrl
  have HR := Lib.hid hR
  clear hrs hrl hR hN
  go_enter Tryd.func28, Tryd.ntmps28
  go_wp2_with (first
    | (at_make; refine wpList_make_own _ rfl _ _ 25 rfl (w.heap.size + 1) 3 i0 (.int .i64 0) 1 Tryd.underlying25 hi hz0 hz1 .i64 .i64 _ N rfl rfl rfl hby (by simp only [maxLen]; omega) (by simp) ?_; intro w3 hown3 hgrow3)
    | fail)
  have hb3 : Below w.heap.size w w3 := ((Below.refl _ _).alloc (Nat.le_refl _) _).grown hgrow3 (by simp) (fun j hj => by cases hj)
  have hres3 : w3.heap[w.heap.size]? = some (.cells #[.int .i64 0, .int .i64 0, .slice none 0 0] 27 (0, 0)) := (hgrow3.block _ (by simp) (by simp)).trans (heap_at w _ _ rfl)
  go_loopw [5, 15] (fun v i wr => ∃ y : Nat, y ≤ h ∧ i = .int .i64 y ∧ wr.ownsRow (w.heap.size + 1) 3 1 v (y * x) (vals (idxI (rs.take y).flatten)) ∧ Hid (wr.heap[w.heap.size]? = some (.cells #[.int .i64 0, .int .i64 0, .slice none 0 0] 27 (0, 0))) ∧ Below w.heap.size w wr) (fun _ i _ => h - (intOf i).toNat)
  case atStart =>
    refine ⟨0, Nat.zero_le _, rfl, ?_, hres3, hb3⟩
    rw [Nat.zero_mul]
    simpa [idxI, vals] using hown3
  case round =>
    clear hown3 hgrow3 hb3 hres3
    obtain ⟨y, hy, rfl, hown, hres, hbw⟩ := hrel
    obtain ⟨wo, rfl⟩ : ∃ wo : World, wo = wr := ⟨_, rfl⟩
    have hsr : w.heap.size < wo.heap.size := (Array.getElem?_eq_some_iff.1 hres.out).1
    by_cases hyh : y < h
    · have hyl : y < rs.length := by rw [← HRS.out]; exact hyh
      obtain ⟨r, hr⟩ : ∃ r, rs[y]? = some r := ⟨_, List.getElem?_eq_getElem hyl⟩
      have hrange := HR.out wo hbw y r hr
      have hrx : r.length = x := HRL.out r (List.mem_of_getElem? hr)
      have hr6 : r.length ≤ 6 := by omega
      have hone : Hid ((ringA s X r).all (·.oneCell') = true) := ringA_one s X r
      have hsize : Hid ((ringA s X r).size = 8) := ringA_size s X r hr6
      have hy0 : (0 : Int) ≤ (y : Int) := by omega
      have hy1 : (y : Int) < (h : Int) := by omega
      have hx0 : (0 : Int) ≤ (x : Int) := by omega
      have hx6i : (x : Int) ≤ 6 := by omega
      have htk : (rs.take (y + 1)).flatten = (rs.take y).flatten ++ r := by
        rw [List.take_succ_eq_append_getElem hyl, List.flatten_append]
        have := (List.getElem?_eq_some_iff.1 hr).2
        rw [this]
        simp
      have hvl : (vals (idxI r)).length = x * 1 := by simp [vals, idxI, hrx]
      have hyx : y * x ≤ 36 := by
        have := Nat.mul_le_mul (Nat.le_trans hy hh6) hx6
        omega
      have HTK := Lib.hid htk
      have HVL := Lib.hid hvl
      have HOWN := Lib.hid hown
      have HRX := Lib.hid hrx
      clear hyl hr htk hvl hrx hown
      go_wp2_with (first
        | (refine wpList_load_mid rfl _ _ rfl g (y * 8) rfl (ringV s X r) _ hrange Tryd.underlying82 rfl (by rw [ring_size]; simp [ringV_len s X r hr6]) ?_)
        | (refine wpList_store_whole rfl _ _ _ rfl wo.heap.size (ringA s X r) rfl rfl _ _ (heap_alloc_new wo _) (by rw [hsize.out]; rfl) (by rw [ring_size, hsize.out]) hone.out ?_; intro wz hgz hsz' hbz; have hvz := below_var hgz)
        | (at_builtin; refine wpList_append_own_at _ rfl _ _ 25 rfl (w.heap.size + 1) 3 i0 _ 1 8 Tryd.underlying25 hi hz0 hz1 hz2 rfl (by decide) _ (y * x) _ rfl (own_keep' HOWN.out hvz) ⟨wo.heap.size, 0, none⟩ x 6 (vals (idxI r)) rfl HVL.out (ring_news hbz hr6) (vals_one _) (by simp only [maxLen]; omega) (by omega) (by have := hvz.size; omega) ?_; intro v7 w7 hown7 hgrow7 hnil7 hat7)
        | fail)
      have hgr7 := grown_to (r := u5.ownBlock) hgrow7 rfl
      have hown9 : w7.ownsRow (w.heap.size + 1) 3 1 v7 ((y + 1) * x) (vals (idxI (rs.take (y + 1)).flatten)) := by
        have e : vals (idxI (rs.take (y + 1)).flatten) = vals (idxI (rs.take y).flatten) ++ vals (idxI r) := by rw [HTK.out]; simp [vals, idxI]
        rw [e, Nat.add_mul, Nat.one_mul]
        exact hown7
      have hlo : ∀ j, u5.ownBlock = some j → w.heap.size + 1 ≤ j := fun j e => (HOWN.out.lt j e).1
      have hzs := hvz.size
      have hres7 : Hid (w7.heap[w.heap.size]? = some (.cells #[.int .i64 0, .int .i64 0, .slice none 0 0] 27 (0, 0))) := (hgr7.block _ (by omega) (fun e => by have := hlo _ e.symm; omega)).trans ((hvz.block _ hsr).trans hres.out)
      have hb7 : Below w.heap.size w w7 := (hbw.trans (hvz.mono (by omega))).grown hgr7 (by omega) (fun j e => by have := hlo j e; omega)
      clear hown7 hgrow7 hgr7 hnil7 hat7 hbz hgz hsz' hrange
      go_roundw
      case rel => exact ⟨y + 1, by omega, by go_num, hown9, hres7, hb7⟩
      case measure => simp [intOf]; omega
    · have e : h = y := by omega
      subst e
      obtain ⟨A, c, rfl, hln, hnc, hnm, hI, hA⟩ := own_ints hown
      have htk : rs.take h = rs := by rw [HRS.out]; exact List.take_length
      rw [htk] at hI
      have hfl : rs.flatten.length = h * x := by rw [flat_len_row rs x HRL.out, ← HRS.out]
      have HI := Lib.hid hI
      have HFL := Lib.hid hfl
      have HRES := Lib.hid hres.out
      obtain ⟨y0, y1, y2, y3⟩ := zcells hres.out
      clear hI hfl htk hln hown hres
      go_wp2_with fail
      obtain ⟨x0, x1, x2, -⟩ := zcells (sets3T (a := .int .i64 x) (b := .int .i64 h) (c := .slice A (h * x) c) HRES.out)
      refine bodyPost_ret (v := .agg #[.int .i64 x, .int .i64 h, .slice A (h * x) c]) (by simp [results, Tryd.results28, go_sem, x0, x1, x2]) rfl ?_
      have G6 := grown3T wo w.heap.size (.int .i64 x) (.int .i64 h) (.slice A (h * x) c)
      exact ⟨A, c, by rw [HFL.out], ints_grownT HI.out G6 (fun b e => by have := hA b e; omega), hbw.grown G6 (by omega) (fun j e => by cases e; exact Nat.le_refl _), fun b e => by have := hA b e; omega⟩
def zPat : Value := .agg #[.int .i64 0, .int .i64 0, .slice none 0 0]
/-- what Find returns -/
def IsFindT (s : List Tl) (wd hg : Int) (W : World) (e : Ending) (w' : World) : Prop :=
  Below W.heap.size W w' ∧ if tcheckE s wd hg ≠ 0 then e = .returned (.tuple #[zPat, .int .i64 (tcheckE s wd hg)]) else match (torsE s wd.toNat hg.toNat).head? with
    | none => e = .returned (.tuple #[zPat, .int .i64 6])
    | some t => ∃ A c, e = .returned (.tuple #[.agg #[.int .i64 wd, .int .i64 hg, .slice A t.flatten.length c], .int .i64 0]) ∧ IntsIn w' w'.heap.size A (idxI t.flatten)
theorem tors_len {s : List Tl} {x : Nat} {u : List Nat} (hu : ∀ i ∈ u, i < (ringsE s x).length) : ∀ r ∈ u.map (fun i => (ringsE s x).getD i []), r.length = x := fun r hr => by
  obtain ⟨i, hi, rfl⟩ := List.mem_map.1 hr
  exact (rings_row (getD_mem' (hu i hi))).1
set_option maxHeartbeats 8000000 in
theorem find_anyT (s : List Tl) (S : Option Addr) (m d : Nat) (wd hg : Int) (w : World) (hm : m = s.length) (hS : SetIn w w.heap.size S s) (hwf : ∀ t ∈ s, twf t) (hml : m ≤ 9223372036854775807) :
    Calls Tryd.prog 9 #[.slice S m d, .int .i64 wd, .int .i64 hg] w (IsFindT s wd hg w) := by
  have hck := fun (W : World) (hb : Below w.heap.size w W) => tcheck_any s S m d wd hg W hm (hS.keep hb hb.size) hwf hml
  have HCK := Lib.hid hck
  have hb1 : Below w.heap.size w (w.alloc (.cells #[.int .i64 0, .int .i64 0, .slice none 0 0] 27)) := (Below.refl _ _).alloc (Nat.le_refl _) _
  have hp1 := heap_at w (.cells #[.int .i64 0, .int .i64 0, .slice none 0 0] 27) _ rfl
  by_cases hc : tcheckE s wd hg = 0
  rotate_left
  · have HK : Hid (∀ e w', e = .returned (.tuple #[zPat, .int .i64 (tcheckE s wd hg)]) → Below w.heap.size w w' → IsFindT s wd hg w e w') := fun e w' h1 h2 => ⟨h2, by rw [if_pos hc]; exact h1⟩
    obtain ⟨ce, hce⟩ : ∃ ce, ce = tcheckE s wd hg := ⟨_, rfl⟩
    rw [← hce] at HK hc
    have HCE := Lib.hid hce
    have d0 : (ce != 0) = true := by simpa using hc
    have HP1 := Lib.hid hp1
    clear hce hck hm hS hwf hc hp1
    go_enter Tryd.func9, Tryd.ntmps9
    go_wp2_with (first
      | (go_at_call 25; refine (HCK.out _ hb1).mono ?_; rw [← HCE.out]; rintro e w1 ⟨rfl, hb2⟩; have hpz := (hb2.block w.heap.size (by simp)).trans HP1.out; have HPZ := Lib.hid hpz; obtain ⟨y0, y1, y2, y3⟩ := zcells hpz; clear hpz)
      | fail)
    obtain ⟨x0, x1, x2, -⟩ := zcells (sets3T (a := .int .i64 0) (b := .int .i64 0) (c := .slice none 0 0) HPZ.out)
    refine bodyPost_ret (v := .tuple #[.agg #[.int .i64 0, .int .i64 0, .slice none 0 0], .int .i64 ce]) (by simp [results, Tryd.results9, go_sem, x0, x1, x2]) rfl ?_
    exact HK.out _ _ rfl (below3T (hb1.trans (hb2.mono hb1.size)) (Nat.le_refl _))
  · obtain ⟨hv, hw1, hw6, hh1, hh6, htm⟩ := tcheck_ok hc
    obtain ⟨x, rfl⟩ : ∃ x : Nat, wd = (x : Int) := ⟨wd.toNat, by omega⟩
    obtain ⟨h, rfl⟩ : ∃ h : Nat, hg = (h : Int) := ⟨hg.toNat, by omega⟩
    have hm1 : m ≤ 1000 := by rw [hm]; exact (vld_iff.1 hv).1
    have hN : ∀ y, y ≤ x → (rws s y).length ≤ 100000000 := fun y hy => Nat.le_trans (rws_fewT s x htm y hy) (by omega)
    have hrn : (ringsE s x).length ≤ 100000000 := Nat.le_trans (List.length_filter_le _ _) (hN x (Nat.le_refl _))
    have hbd := fun (W : World) (hb : Below w.heap.size w W) => bandOf_any s S m d x W hm (hS.keep hb hb.size) hm1 hwf (by omega) hN
    have htor := firstT_tors s x h (by omega)
    have HBD := Lib.hid hbd
    have HP1 := Lib.hid hp1
    have HRN := Lib.hid hrn
    have HTOR := Lib.hid htor
    have HC := Lib.hid hc
    clear hck hm hS hwf hbd hp1 hN hrn htor hv htm
    rw [hc] at HCK
    clear hc
    cases hf : firstT s x h with
    | none =>
      have hth : (torsE s x h).head? = none := by rw [← HTOR.out, hf]; rfl
      have HK : Hid (∀ e w', e = .returned (.tuple #[zPat, .int .i64 6]) → Below w.heap.size w w' → IsFindT s x h w e w') := fun e w' h1 h2 => ⟨h2, by rw [if_neg (by rw [HC.out]; simp)]; simp only [Int.toNat_natCast]; rw [hth]; exact h1⟩
      have HF := Lib.hid hf
      clear hf hth
      go_enter Tryd.func9, Tryd.ntmps9
      go_wp2_with (first
        | (go_at_call 25; refine (HCK.out _ hb1).mono ?_; rintro e w1 ⟨rfl, hb2⟩; have hpz := (hb2.block w.heap.size (by simp)).trans HP1.out; have HPZ := Lib.hid hpz; have hbw1 := hb1.trans (hb2.mono hb1.size); clear hpz)
        | (go_at_call 26; refine (HBD.out _ hbw1).mono ?_; rintro e w2 ⟨R, rc, O, oc, rfl, hband, -, hb3⟩; have HBAND := Lib.hid hband; clear hband; have hw1s := (Array.getElem?_eq_some_iff.1 HPZ.out).1)
        | (go_at_call 27; refine (first_anyT s x h rc O oc R _ (by omega) (by omega) (by omega) HRN.out HBAND.out).mono ?_; rintro e w3 ⟨hb4, hres⟩; rw [HF.out] at hres; subst hres; have hp3 := (hb4.block w.heap.size (by have := hb3.size; omega)).trans ((hb3.block _ hw1s).trans HPZ.out); have HP3 := Lib.hid hp3; obtain ⟨y0, y1, y2, y3⟩ := zcells hp3; clear hp3)
        | fail)
      obtain ⟨x0, x1, x2, -⟩ := zcells (sets3T (a := .int .i64 0) (b := .int .i64 0) (c := .slice none 0 0) HP3.out)
      refine bodyPost_ret (v := .tuple #[.agg #[.int .i64 0, .int .i64 0, .slice none 0 0], .int .i64 6]) (by simp [results, Tryd.results9, go_sem, x0, x1, x2]) rfl ?_
      exact HK.out _ _ rfl (below3T ((hbw1.trans (hb3.mono hbw1.size)).trans (hb4.mono (by have := hb3.size; omega))) (Nat.le_refl _))
    | some u =>
      have hth : (torsE s x h).head? = some (u.map fun i => (ringsE s x).getD i []) := by rw [← HTOR.out, hf]; rfl
      obtain ⟨rs, hrs⟩ : ∃ rs, rs = u.map fun i => (ringsE s x).getD i [] := ⟨_, rfl⟩
      rw [← hrs] at hth
      have HK : Hid (∀ A c e w', e = .returned (.tuple #[.agg #[.int .i64 (x : Int), .int .i64 (h : Int), .slice A rs.flatten.length c], .int .i64 0]) → IntsIn w' w'.heap.size A (idxI rs.flatten) → Below w.heap.size w w' → IsFindT s x h w e w') := fun A c e w' h1 h3 h2 => ⟨h2, by rw [if_neg (by rw [HC.out]; simp)]; simp only [Int.toNat_natCast]; rw [hth]; exact ⟨A, c, h1, h3⟩⟩
      obtain ⟨L, hL⟩ : ∃ L, L = rs.flatten.length := ⟨_, rfl⟩
      have h0 : (0 : Int) < (h : Int) := by omega
      have HRS := Lib.hid hrs
      have HF := Lib.hid hf
      have HL := Lib.hid hL
      clear hf hth hrs hL
      go_enter Tryd.func9, Tryd.ntmps9
      go_wp2_with (first
        | (go_at_call 25; refine (HCK.out _ hb1).mono ?_; rintro e w1 ⟨rfl, hb2⟩; have hpz := (hb2.block w.heap.size (by simp)).trans HP1.out; have HPZ := Lib.hid hpz; have hbw1 := hb1.trans (hb2.mono hb1.size); clear hpz)
        | (go_at_call 26; refine (HBD.out _ hbw1).mono ?_; rintro e w2 ⟨R, rc, O, oc, rfl, hband, -, hb3⟩; have HBAND := Lib.hid hband; clear hband; have hw1s := (Array.getElem?_eq_some_iff.1 HPZ.out).1)
        | (go_at_call 27; refine (first_anyT s x h rc O oc R _ (by omega) (by omega) (by omega) HRN.out HBAND.out).mono ?_; rintro e w3 ⟨hb4, hres⟩; rw [HF.out] at hres; obtain ⟨g, rfl, hg2, hg3, hul, hui, hrng⟩ := hres; have hp3 := (hb4.block w.heap.size (by have := hb3.size; omega)).trans ((hb3.block _ hw1s).trans HPZ.out); have HP3 := Lib.hid hp3; have HUL := Lib.hid hul; have HUI := Lib.hid hui; have HRNG := Lib.hid hrng; clear hp3 hul hui hrng)
        | (go_at_call 28; refine (pattern_anyT s x x h g rs w3 (by omega) (by omega) (by omega) (by rw [HRS.out, List.length_map]; exact HUL.out.symm) (by rw [HRS.out]; exact tors_len HUI.out) (fun W hb y r hr => rangeAt_keep (HRNG.out y r (by rw [← HRS.out]; exact hr)) hb hg3)).mono ?_; rintro e w4 ⟨A, c, rfl, hI, hb5, hA⟩; rw [← HL.out]; have hp4 := (hb5.block w.heap.size (Array.getElem?_eq_some_iff.1 HP3.out).1).trans HP3.out; have HP4 := Lib.hid hp4; have HI := Lib.hid hI; obtain ⟨y0, y1, y2, y3⟩ := zcells hp4; clear hp4 hI)
        | fail)
      obtain ⟨x0, x1, x2, -⟩ := zcells (sets3T (a := .int .i64 x) (b := .int .i64 h) (c := .slice A L c) HP4.out)
      refine bodyPost_ret (v := .tuple #[.agg #[.int .i64 x, .int .i64 h, .slice A L c], .int .i64 0]) (by simp [results, Tryd.results9, go_sem, x0, x1, x2]) rfl ?_
      have hs2 := hb3.size
      have hs3 := hb4.size
      have hlow : w.heap.size < w3.heap.size := (Array.getElem?_eq_some_iff.1 HP3.out).1
      exact HK.out A c _ _ (by rw [← HL.out]) (ints_grownT HI.out (grown3T w4 w.heap.size _ _ _) fun b e => by have := hA b e; omega) (below3T (((hbw1.trans (hb3.mono hbw1.size)).trans (hb4.mono (by omega))).trans (hb5.mono (by omega))) (Nat.le_refl _))
end Go.Proofs.YthjponagoahdhaaDoor
