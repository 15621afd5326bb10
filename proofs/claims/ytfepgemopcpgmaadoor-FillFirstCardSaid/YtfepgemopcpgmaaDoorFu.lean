/-
  fill.Count.
-/
import Derived.Test.YtfepgemopcpgmaaDoorFo
import Derived.Test.YtfepgemopcpgmaaDoorSo
import Derived.Test.YtfepgemopcpgmaaDoorEnv
import Derived.Deep.Cut
import Derived.Deep.CutRange
import Derived.Deep.RegionHeld3
namespace Go.Proofs.YtfepgemopcpgmaaDoor
open Go.RowKit Go.Maps Go.BigFrame Go.Sort
set_option linter.unusedVariables false
set_option linter.unusedSimpArgs false
set_option maxRecDepth 100000

/-! the levels are the numbers of ways -/
theorem csum_cap {α : Type} (l : List α) (f g : α → Nat) (h : ∀ a ∈ l, f a = min (g a) cap) : csum (l.map f) = min (l.map g).sum cap := by
  rw [csum_eq]
  have e : l.map f = (l.map g).map fun n => min n cap := by
    rw [List.map_map]
    exact List.map_congr_left h
  rw [e, sum_cap]
theorem levF_ways (L : List (List Nat)) (adm : Nat → List Nat → Bool) (S N : List Nat → List Int) (H : Nat) : ∀ j, j ≤ H → ∀ r ∈ L, levF L adm S N H j (N r) = min (ways L adm S N j (H - j) (N r)) cap
  | 0, _, r, hr => by
    unfold levF
    rw [if_pos (List.mem_map.2 ⟨r, hr, rfl⟩)]
    unfold ways cap
    rfl
  | j + 1, hj, r, hr => by
    show undF L (adm (H - (j + 1))) S N (levF L adm S N H j) L.length (N r) = _
    unfold undF ways
    rw [List.take_length]
    have := csum_cap (L.filter fun q => adm (H - (j + 1)) q && decide (S q = N r)) (fun q => levF L adm S N H j (N q)) (fun q => ways L adm S N j (H - (j + 1) + 1) (N q)) fun q hq => by
      rw [levF_ways L adm S N H j (by omega) q (List.mem_filter.1 hq).1, show H - j = H - (j + 1) + 1 by omega]
    rw [this]
    rfl
/-- what is summed by the keys of the lowest level is the number of all -/
theorem lev_total (L : List (List Nat)) (adm : Nat → List Nat → Bool) (S N : List Nat → List Int) (H : Nat) (hH : 1 ≤ H) (ks : List (List Int)) (hn : ks.Nodup) (hz : ∀ l, l ∉ ks → levF L adm S N H H l = 0) :
    csum (ks.map (levF L adm S N H H)) = min (total L adm S N H) cap := by
  obtain ⟨j, rfl⟩ : ∃ j, H = j + 1 := ⟨H - 1, by omega⟩
  have h0 : ∀ l, levF L adm S N (j + 1) (j + 1) l = csum ((L.filter fun r => adm 0 r && decide (S r = l)).map fun r => levF L adm S N (j + 1) j (N r)) := fun l => by
    show undF L (adm (j + 1 - (j + 1))) S N (levF L adm S N (j + 1) j) L.length l = _
    unfold undF
    rw [List.take_length, Nat.sub_self]
  -- rows that count for nothing are left out
  have hsk : ∀ (M : List (List Nat)) (f : List Nat → Nat), (M.map f).sum = ((M.filter fun r => decide (f r ≠ 0)).map f).sum := fun M f => by
    induction M with
    | nil => rfl
    | cons a M ih =>
      rw [List.map_cons, List.sum_cons, ih, List.filter_cons]
      by_cases h : f a = 0
      · rw [if_neg (by simp [h]), h, Nat.zero_add]
      · rw [if_pos (by simpa using h), List.map_cons, List.sum_cons]
  let v := fun r => levF L adm S N (j + 1) j (N r)
  let M := (L.filter (adm 0)).filter fun r => decide (v r ≠ 0)
  have hk : ∀ r ∈ M, S r ∈ ks := fun r hr => by
    apply Classical.byContradiction
    intro hno
    have h1 := hz _ hno
    rw [h0, csum_eq] at h1
    have h2 := List.mem_filter.1 hr
    have h3 := List.mem_filter.1 h2.1
    have hv : v r ≠ 0 := by simpa using h2.2
    have hmem : r ∈ L.filter fun q => adm 0 q && decide (S q = S r) := List.mem_filter.2 ⟨h3.1, by simp [h3.2]⟩
    have hle : v r ≤ ((L.filter fun q => adm 0 q && decide (S q = S r)).map v).sum := by
      clear h1 h2 h3 hv hr
      revert hmem
      generalize (L.filter fun q => adm 0 q && decide (S q = S r)) = X
      intro hmem
      induction X with
      | nil => cases hmem
      | cons a X ih =>
        rw [List.map_cons, List.sum_cons]
        rcases List.mem_cons.1 hmem with e | e
        · rw [← e]; exact Nat.le_add_right _ _
        · exact Nat.le_trans (ih e) (Nat.le_add_left _ _)
    have hc : (0 : Nat) < cap := by unfold cap; omega
    have h1' : min ((L.filter fun q => adm 0 q && decide (S q = S r)).map v).sum cap = 0 := h1
    omega
  have hcs := csum_keys M S v ks hn hk
  have e1 : (ks.map fun k => csum ((M.filter fun r => decide (S r = k)).map v)) = ks.map (levF L adm S N (j + 1) (j + 1)) := by
    refine List.map_congr_left fun k _ => ?_
    rw [h0, csum_eq, csum_eq]
    congr 1
    rw [hsk (L.filter fun r => adm 0 r && decide (S r = k)) fun r => levF L adm S N (j + 1) j (N r)]
    congr 2
    simp only [M, List.filter_filter]
    refine List.filter_congr fun r _ => ?_
    cases adm 0 r <;> cases decide (S r = k) <;> simp [v]
  rw [e1] at hcs
  rw [hcs, csum_eq]
  have e2 : (M.map v).sum = ((L.filter (adm 0)).map v).sum := (hsk _ v).symm
  rw [e2, ← csum_eq]
  rw [csum_cap (L.filter (adm 0)) v (fun r => ways L adm S N j 1 (N r)) fun r hr => by
    show levF L adm S N (j + 1) j (N r) = _
    rw [levF_ways L adm S N (j + 1) j (by omega) r (List.mem_filter.1 hr).1, show j + 1 - j = 1 by omega]]
  unfold total cand
  rw [Nat.add_sub_cancel]
  congr 2
  congr 1
  exact List.filter_congr fun r _ => by simp [stands]

theorem rws_count (s : List Tl) : ∀ x, (rws s x).length ≤ s.length ^ x
  | 0 => by simp [rws]
  | x + 1 => by
    have ih := rws_count s x
    simp only [rws, List.length_flatMap]
    have h : ∀ l : List (List Nat), (l.map fun r => (longer s r).length).sum ≤ l.length * s.length := fun l => by
      induction l with
      | nil => simp
      | cons r l ihl =>
        have h1 : (longer s r).length ≤ s.length := by
          unfold longer
          rw [List.length_map]
          exact Nat.le_trans (List.length_filter_le _ _) (by simp)
        rw [List.map_cons, List.sum_cons, List.length_cons, Nat.add_mul, Nat.one_mul]
        omega
    exact Nat.le_trans (h _) (by rw [Nat.pow_succ]; exact Nat.mul_le_mul_right _ ih)
theorem rws_few (s : List Tl) (wd : Nat) (h : tooM s.length wd = false) : ∀ x, x ≤ wd → (rws s x).length ≤ 5000 := fun x hx => by
  have hp : s.length ^ wd ≤ 5000 := by
    unfold tooM at h
    have := of_decide_eq_false h
    omega
  have h1 := rws_count s x
  rcases Nat.eq_zero_or_pos s.length with e | e
  · rw [e] at h1
    cases x with
    | zero => simp at h1; omega
    | succ x => rw [Nat.zero_pow (by omega)] at h1; omega
  · exact Nat.le_trans h1 (Nat.le_trans (Nat.pow_le_pow_right e hx) hp)
/-- nothing is due -/
theorem check_ok {s : List Tl} {wd hg : Int} {d : Ed} (h : checkE s wd hg d.n.length d.e.length d.s.length d.w.length = 0) :
    ∃ a b : Nat, wd = a ∧ hg = b ∧ vld s = true ∧ 1 ≤ a ∧ a ≤ 8 ∧ 1 ≤ b ∧ b ≤ 60 ∧ EdOk a b d ∧ tooM s.length a = false := by
  unfold checkE at h
  split at h
  · rename_i h1
    exact absurd h h1
  · rename_i h1
    have h0 : faultE s wd hg d.n.length d.e.length d.s.length d.w.length = 0 := Classical.byContradiction h1
    have ht : tooM s.length wd.toNat = false := by
      cases hc : tooM s.length wd.toNat
      · rfl
      · rw [hc] at h; simp at h
    unfold faultE at h0
    split at h0
    · cases h0
    · rename_i hv
      split at h0
      · cases h0
      · rename_i hs
        split at h0
        · rename_i hk
          obtain ⟨a, ha⟩ := Int.eq_ofNat_of_zero_le (show 0 ≤ wd by omega)
          obtain ⟨b, hb⟩ := Int.eq_ofNat_of_zero_le (show 0 ≤ hg by omega)
          subst ha
          subst hb
          simp only [Bool.and_eq_true, sideOk, decide_eq_true_eq] at hk
          have nil : ∀ {l : List Int} {k : Nat}, l.length = 0 ∨ (l.length : Int) = (k : Int) → l = [] ∨ l.length = k := fun h => h.imp List.length_eq_zero_iff.1 (by omega)
          exact ⟨a, b, rfl, rfl, by simpa using hv, by omega, by omega, by omega, by omega, ⟨nil hk.1, nil hk.2.2.2, nil hk.2.1, nil hk.2.2.1⟩, by simpa using ht⟩
        · cases h0
/-- what Count returns -/
def countRes (s : List Tl) (wd hg : Int) (d : Ed) : Value :=
  if checkE s wd hg d.n.length d.e.length d.s.length d.w.length ≠ 0 then .tuple #[.int .i64 0, .int .i64 (checkE s wd hg d.n.length d.e.length d.s.length d.w.length)]
  else if 1152921504606846976 < countE s wd.toNat hg.toNat d then .tuple #[.int .i64 0, .int .i64 4] else .tuple #[.int .i64 (countE s wd.toNat hg.toNat d : Nat), .int .i64 0]
theorem six_sets {w : World} {q : Nat} {z0 z1 z2 z3 z4 z5 a b c d e f : Value} {t : TypeId} (h : w.heap[q]? = some (.cells #[z0, z1, z2, z3, z4, z5] t (0, 0))) :
    ((((((w.setCell ⟨q, 0, none⟩ a).setCell ⟨q, 1, none⟩ b).setCell ⟨q, 2, none⟩ c).setCell ⟨q, 3, none⟩ d).setCell ⟨q, 4, none⟩ e).setCell ⟨q, 5, none⟩ f).heap[q]? = some (.cells #[a, b, c, d, e, f] t (0, 0)) := by
  have h1 := heap_setCell_same _ q 5 _ t f (heap_setCell_same _ q 4 _ t e (heap_setCell_same _ q 3 _ t d (heap_setCell_same _ q 2 _ t c (heap_setCell_same _ q 1 _ t b (heap_setCell_same w q 0 _ t a h)))))
  rw [h1]
  rfl
/-- the sum of what is no longer to come -/
def doneS (ks : List (List Int)) (f : List Int → Nat) (left : Lit → Bool) : Nat := ((ks.filter fun l => !left (lk l)).map f).sum
theorem doneS_start (ks : List (List Int)) (f : List Int → Nat) (left : Lit → Bool) (h : ∀ l ∈ ks, left (lk l) = true) : doneS ks f left = 0 := by
  unfold doneS
  rw [List.filter_eq_nil_iff.2 fun l hl => by simp [h l hl]]
  rfl
theorem doneS_end (ks : List (List Int)) (f : List Int → Nat) (left : Lit → Bool) (h : ∀ kl, left kl = false) : doneS ks f left = (ks.map f).sum := by
  unfold doneS
  rw [List.filter_eq_self.2 fun l hl => by simp [h]]
theorem doneS_step (f : List Int → Nat) (left : Lit → Bool) (l : List Int) (hl : lwf l) (hleft : left (lk l) = true) : ∀ ks : List (List Int), ks.Nodup → (∀ m ∈ ks, lwf m) →
    doneS ks f (fun z => left z && !z.sameKey (lk l)) = doneS ks f left + if l ∈ ks then f l else 0
  | [], _, _ => by simp [doneS]
  | m :: ks, hn, hw => by
    rw [List.nodup_cons] at hn
    have ih := doneS_step f left l hl hleft ks hn.2 fun q hq => hw q (by simp [hq])
    unfold doneS at ih ⊢
    rw [List.filter_cons, List.filter_cons]
    by_cases e : m = l
    · subst e
      rw [if_pos (by simp [WideAt.sameKey_self (lk_key hl)]), if_neg (by simp [hleft]), List.map_cons, List.sum_cons, ih, if_neg hn.1, if_pos (by simp)]
      omega
    · have hs : (lk m).sameKey (lk l) = false := Maps.sameKey_ne fun e' => e (lk_inj (hw m (by simp)) hl e')
      simp only [hs, Bool.not_false, Bool.and_true]
      have hmem : l ∈ m :: ks ↔ l ∈ ks := ⟨fun h => (List.mem_cons.1 h).resolve_left fun e' => e e'.symm, fun h => List.mem_cons_of_mem _ h⟩
      by_cases hm : left (lk m) = true
      · rw [if_neg (by simp [hm]), if_neg (by simp [hm]), ih]
        simp only [hmem]
      · rw [if_pos (by simp [hm]), if_pos (by simp [hm]), List.map_cons, List.map_cons, List.sum_cons, List.sum_cons, ih]
        simp only [hmem]
        omega
theorem frozen_blk {w : World} {q : Nat} {cs : Array Value} {t : TypeId} (h : w.heap[q]? = some (.cells cs t (0, 0))) : ∀ o, w.frozen? ⟨q, o, none⟩ = false := fun o => by simp [World.frozen?, h]
theorem rows_below {w1 W w2 : World} (h : Below W.heap.size W w2) (hb : Below w1.heap.size w1 W) : Below w1.heap.size w1 w2 := hb.trans (h.mono hb.size)
theorem six_grown (w : World) (q : Nat) (a b c d e f : Value) : w.grownBy ((((((w.setCell ⟨q, 0, none⟩ a).setCell ⟨q, 1, none⟩ b).setCell ⟨q, 2, none⟩ c).setCell ⟨q, 3, none⟩ d).setCell ⟨q, 4, none⟩ e).setCell ⟨q, 5, none⟩ f) (some q) :=
  (((((grown_setCell w q 0 a).trans (grown_setCell _ q 1 b)).trans (grown_setCell _ q 2 c)).trans (grown_setCell _ q 3 d)).trans (grown_setCell _ q 4 e)).trans (grown_setCell _ q 5 f)
theorem flat_grown {α : Type} {f : α → List Value} {k B q : Nat} {w w' : World} {A : Option Addr} {l : List α} (h : FlatIn f k w B A l) (hg : w.grownBy w' (some q)) (hne : ∀ b, A = some b → b.block ≠ q) (hB : B ≤ w.heap.size) : FlatIn f k w' w'.heap.size A l := fun hn => by
  obtain ⟨b, hA, hlt, hc⟩ := h hn
  have hbq := hne _ hA
  exact ⟨b, hA, Nat.lt_of_lt_of_le hlt (Nat.le_trans hB hg.size), fun i a hi j v hv => (World.cell?_of_block (hg.block b (by omega) (fun e => hbq (by simpa using e)))).trans (hc i a hi j v hv)⟩
theorem six_below {w0 w : World} {q : Nat} {a b c d e f : Value} (h : Below w0.heap.size w0 w) (hq : w0.heap.size ≤ q) : Below w0.heap.size w0 ((((((w.setCell ⟨q, 0, none⟩ a).setCell ⟨q, 1, none⟩ b).setCell ⟨q, 2, none⟩ c).setCell ⟨q, 3, none⟩ d).setCell ⟨q, 4, none⟩ e).setCell ⟨q, 5, none⟩ f) :=
  (((((h.setCell hq _).setCell hq _).setCell hq _).setCell hq _).setCell hq _).setCell hq _

set_option maxHeartbeats 8000000 in
theorem count_any (s : List Tl) (d : Ed) (S : Option Addr) (m mc : Nat) (wd hg : Int) (N E U V : Option Addr) (nc ec uc vc : Nat) (w : World) (hm : m = s.length) (hS : SetIn w w.heap.size S s) (hwf : ∀ t ∈ s, twf t) (hml : m ≤ 9223372036854775807)
    (hn : d.n.length ≤ 9223372036854775807) (he : d.e.length ≤ 9223372036854775807) (hs : d.s.length ≤ 9223372036854775807) (hwl : d.w.length ≤ 9223372036854775807) (hE : EdIn w w.heap.size N E U V d) :
    Calls Tryd.prog 19 #[.slice S m mc, .int .i64 wd, .int .i64 hg, .agg #[.slice N d.n.length nc, .slice E d.e.length ec, .slice U d.s.length uc, .slice V d.w.length vc]] w fun e w' => e = .returned (countRes s wd hg d) ∧ Below w.heap.size w w' := by
  have hbx : Below w.heap.size w (w.alloc (.cells #[.slice N d.n.length nc, .slice E d.e.length ec, .slice U d.s.length uc, .slice V d.w.length vc] 25)) := (Below.refl _ _).alloc (Nat.le_refl _) _
  have hck := check_any s S m mc wd hg N E U V d.n.length d.e.length d.s.length d.w.length nc ec uc vc (w.alloc (.cells #[.slice N d.n.length nc, .slice E d.e.length ec, .slice U d.s.length uc, .slice V d.w.length vc] 25)) hm (hS.keep hbx hbx.size) hwf hml hn he hs hwl
  by_cases hc0 : checkE s wd hg d.n.length d.e.length d.s.length d.w.length = 0
  · obtain ⟨a, b, rfl, rfl, hv, ha1, ha8, hb1, hb60, hok, htm⟩ := check_ok hc0
    have hNr : ∀ x, x ≤ a → (rws s x).length ≤ 1000000000 := fun x hx => Nat.le_trans (rws_few s a htm x hx) (by omega)
    have hm1 : m ≤ 1000 := by rw [hm]; exact (vld_iff.1 hv).1
    rw [hc0] at hck
    have HK : Hid (countRes s a b d = if 1152921504606846976 < countE s a b d then .tuple #[.int .i64 0, .int .i64 4] else .tuple #[.int .i64 (countE s a b d : Nat), .int .i64 0]) := by
      show _ = _
      unfold countRes
      rw [if_neg (by simpa using hc0), Int.toNat_natCast, Int.toNat_natCast]
    have hrows := fun (W : World) (hb : Below w.heap.size w W) => rowsOf_any s S m mc a W hm (hS.keep hb hb.size) hm1 ha8 hNr
    have hLr : ∀ r ∈ rws s a, r.length = a ∧ ∀ i ∈ r, i < s.length := fun r hr => ⟨rws_len s a r hr, rws_idx s a r hr⟩
    have hL9 : (rws s a).length ≤ 1000000000 := hNr a (Nat.le_refl _)
    obtain ⟨L, hL⟩ : ∃ L, L = rws s a := ⟨_, rfl⟩
    have hcount : ∀ ks : List (List Int), ks.Nodup → (∀ l, l ∉ ks → levF L (admE s d b) (south s) (north s) b b l = 0) → csum (ks.map (levF L (admE s d b) (south s) (north s) b b)) = min (countE s a b d) cap := fun ks h1 h2 => by
      rw [countE_pad s a b d hb1, ← hL]
      exact lev_total L _ _ _ b hb1 ks h1 h2
    have HL := Lib.hid hL
    have HLR := Lib.hid hLr
    have HL9 := Lib.hid hL9
    have HWF := Lib.hid hwf
    have HE := Lib.hid hE
    have HOK := Lib.hid hok
    have HCK := Lib.hid hck
    have HROWS := Lib.hid hrows
    have HCOUNT := Lib.hid hcount
    obtain ⟨nn, hnn⟩ : ∃ nn, nn = d.n.length := ⟨_, rfl⟩
    obtain ⟨en, hen⟩ : ∃ en, en = d.e.length := ⟨_, rfl⟩
    obtain ⟨sn, hsn⟩ : ∃ sn, sn = d.s.length := ⟨_, rfl⟩
    obtain ⟨wn, hwn⟩ : ∃ wn, wn = d.w.length := ⟨_, rfl⟩
    have hRO : ∀ (W : World), Below w.heap.size w W → RectOk d a b nn en sn wn W W.heap.size N E U V := fun W hb => ⟨hnn, hen, hsn, hwn, hok, hE.keep hb hb.size⟩
    have HRO := Lib.hid hRO
    rw [← hnn, ← hen, ← hsn, ← hwn] at HCK hbx ⊢
    clear hck hc0 hm hS hwf hE hrows hLr hL9 hNr hv htm hok hL hnn hen hsn hwn hRO hcount hn he hs hwl
    go_enter Tryd.func19, Tryd.ntmps19
    go_wp2_with fail
    refine HCK.out.mono ?_
    rintro e w1 ⟨rfl, hb1'⟩
    have hbw1 : Below w.heap.size w w1 := hbx.trans (hb1'.mono hbx.size)
    obtain ⟨hc1, hf1⟩ := bcell hb1'
    have k0 := (hb1'.cell (p := ⟨w.heap.size, 0, none⟩) (by simp)).trans (show _ = some (.slice N nn nc) by simp)
    have k1 := (hb1'.cell (p := ⟨w.heap.size, 1, none⟩) (by simp)).trans (show _ = some (.slice E en ec) by simp)
    have k2 := (hb1'.cell (p := ⟨w.heap.size, 2, none⟩) (by simp)).trans (show _ = some (.slice U sn uc) by simp)
    have k3 := (hb1'.cell (p := ⟨w.heap.size, 3, none⟩) (by simp)).trans (show _ = some (.slice V wn vc) by simp)
    have hl1 : w.heap.size < w1.heap.size := Nat.lt_of_lt_of_le (by simp) hb1'.size
    have hS1 : Below w1.heap.size w1 w1 := Below.refl _ _
    have kp : ∀ {a : Addr} {u : Value}, w1.cell? a = some u → ∀ w', Below w1.heap.size w1 w' → w'.cell? a = some u := fun h w' hb => (hb.cell (World.block_lt_of_cell? w1 _ h)).trans h
    have r0 := kp k0
    have r1 := kp k1
    have r2 := kp k2
    have r3 := kp k3
    have HC1 : Hid (∀ W, Below w1.heap.size w1 W → Calls Tryd.prog 22 #[.slice S m mc, .int .i64 a] W (IsRows s a W)) := fun W hb => HROWS.out W (hbw1.trans (hb.mono hbw1.size))
    clear hc1 hf1 hb1' kp k0 k1 k2 k3
    go_upto_region 4 with fail
    go_cut [11] from 23 to 28 (fun u wx => ∃ (q rc : Nat) (R : Option Addr), u = .pointer (some ⟨q, 0, none⟩) ∧ Hid (wx.heap[q]? = some (.cells #[.int .i64 (b : Int), .slice N nn nc, .slice E en ec, .slice U sn uc, .slice V wn vc, .slice R L.length rc] 50 (0, 0))) ∧ Hid (FlatIn (rowV s) 26 wx wx.heap.size R L) ∧ Below w1.heap.size w1 wx)
    case first =>
      go_region_held3 (fun w' => Below w1.heap.size w1 w') (first | (with_reducible assumption) | (with_reducible exact (Below.refl _ _).drew) | (with_reducible exact (be_alloc hS1 _).drew) | ((with_reducible refine be_alloc ?_ _); (with_reducible assumption)) | ((with_reducible refine six_below ?_ ?_) <;> first | (with_reducible assumption) | exact Nat.le_refl _ | omega | (simp; done)))
        (first
        | (go_at_call 22; (with_reducible refine (HC1.out _ ?_).mono ?_); (focus assumption); rintro e w2 ⟨vR, rfl, hown2, hb2⟩; rw [← HL.out] at hown2; (first | (refine have_then (P := w2.heap[w1.heap.size]? = some (.cells #[.int .i64 0, .slice none 0 0, .slice none 0 0, .slice none 0 0, .slice none 0 0, .slice none 0 0] 50 (0, 0))) ?_ ?_; (focus (refine (hb2.block _ ?_).trans (heap_at _ _ _ ?_) <;> first | rfl | (simp; done))); intro z6; obtain ⟨y0, y1, y2, y3, y4, y5⟩ := cells6 z6; have yf := frozen_blk z6; have Z6 := Lib.hid z6; clear z6) | skip); obtain ⟨R, rc, rfl, -, hfl2, hba2⟩ := own_flat hown2 (fun r hr => rowV_len s r (by rw [HL.out] at hr; rw [rws_len s a r hr]; exact ha8)) rfl; have hbw2 := rows_below hb2 (by assumption); have HF2 := Lib.hid hfl2; have HBA2 := Lib.hid hba2; clear hown2 hfl2 hba2)
        | fail)
      · go_wp2_with fail
        go_meet
        exact ⟨w2.heap.size, rc, R, rfl, heap_alloc_new _ _, HF2.out.keep ((Below.refl _ _).alloc (Nat.le_refl _) _) (by simp), be_alloc hbw2 _⟩
      · go_wp2_with fail
        go_meet
        exact ⟨w1.heap.size, rc, R, rfl, six_sets Z6.out, flat_grown HF2.out (six_grown _ _ _ _ _ _ _ _) (fun b' hb' => by have := HBA2.out b' hb'; simp at this; omega) (Nat.le_refl _), six_below hbw2 (Nat.le_refl _)⟩
    case rest =>
      obtain ⟨q, rc, R, rfl, HQ, HF, hbc⟩ := hcut
      obtain ⟨k0, k1, k2, k3, k4, k5⟩ := cells6 HQ.out
      have hbwc : Below w.heap.size w wc := hbw1.trans (hbc.mono hbw1.size)
      have hlv := levels_any s d L a b N E U V R nn nc en ec sn uc wn vc L.length rc wc (by rw [HL.out]; exact HLR.out) HWF.out (by omega) ha8 hb1 hb60 rfl (by rw [HL.out]; exact HL9.out) (HRO.out wc hbwc) HF.out
      have HLVS := Lib.hid hlv
      have HCW := Lib.hid hbwc
      clear hlv hbwc r0 r1 r2 r3
      go_wp2_with (first
        | (go_at_call 23; refine HLVS.out.mono ?_; rintro e w2 ⟨lb, lc, rfl, hlb, hlev, hb2⟩; obtain ⟨b0, n0, D0, ks0, hcell0, hmap0, hn0, hlv0⟩ := hlev 0 (Nat.zero_le _); have HLV0 := Lib.hid hlv0; clear hlv0 hlev)
        | (at_range; refine wpList_range_own _ rfl _ 53 rfl 55 3 line_law Tryd.underlying53 _ b0 n0 D0 rfl hmap0 ?_; intro w3 hrg0 hg0 hs0))
      have HLV : Hid (Lv D0 ks0 (levF L (admE s d b) (south s) (north s) b b)) := HLV0.out
      have hbw2 : Below w.heap.size w w2 := HCW.out.trans (hb2.mono HCW.out.size)
      clear HLV0 k0 k1 k2 k3 k4 k5
      try go_frame
      have hb3 : Below w.heap.size w w3 := hbw2.trans ⟨hg0.os, hg0.tape, hg0.output, hg0.size, fun k hk => hg0.block k (Nat.lt_of_lt_of_le hk hbw2.size) (by simp)⟩
      have hr2 : w.heap.size ≤ w2.heap.size := hbw2.size
      go_loopw [12] (fun cv wr => ∃ (left : Lit → Bool) (cnt C : Nat), wr.ranges Tryd.prog 55 (plainElem Tryd.prog 3) b0 w2.heap.size n0 D0 left cnt ∧ Hid (∀ kl, left kl = true → Maps.has D0 kl = true) ∧ cv = .int .i64 (C : Int) ∧ C ≤ 1152921504606846977 ∧ Hid (C = min (doneS ks0 (levF L (admE s d b) (south s) (north s) b b) left) cap) ∧ Below w.heap.size w wr) (fun _ wr => wr.rangeLeft b0 w2.heap.size)
      case atStart =>
        refine ⟨_, _, 0, hrg0, fun _ h => h, rfl, by omega, ?_, hb3⟩
        show _ = _
        rw [doneS_start _ _ _ fun l hl => by rw [HLV.out.has_ l (HLV.out.wfk l hl)]; simpa using hl]
        rfl
      case round =>
        clear hrg0 hb3 hg0 hs0 hmap0
        obtain ⟨left, cnt, C, hrg, hsub, rfl, hCc, hC, hbr⟩ := hrel
        obtain ⟨wo, rfl⟩ : ∃ wo : World, wo = wr := ⟨_, rfl⟩
        go_wp2_with (at_next; refine wpList_next_ranges _ rfl _ rfl 55 line_law (plainElem Tryd.prog 3) (fun v => v) (Value.int .i64) (fun key kl _ => ⟨key, rfl⟩) (fun v y hv => by obtain ⟨c, rfl, _⟩ := plainElem_int_inv Tryd.underlying3 hv; exact ⟨c, rfl⟩) b0 w2.heap.size n0 D0 _ _ rfl hrg ?_ ?_)
        · intro hc0 hl0
          have hCe : C = min (countE s a b d) cap := by
            rw [hC.out, doneS_end _ _ _ hl0, ← csum_eq]
            exact HCOUNT.out ks0 HLV.out.nodup HLV.out.zero
          unfold cap at hCe
          have HCE := Lib.hid hCe
          clear hCe hC hsub hrg hl0
          by_cases hgt : 1152921504606846976 < C
          · have hd1 : decide ((1152921504606846976 : Int) < (C : Int)) = true := by simp; omega
            have HK2 : Hid (countRes s a b d = .tuple #[.int .i64 0, .int .i64 4]) := by show _ = _; rw [HK.out, if_pos (by have := HCE.out; omega)]
            go_wp2_with fail
            refine bodyPost_ret (v := .tuple #[.int .i64 0, .int .i64 4]) (by simp [results, Tryd.results19, go_sem]) rfl ?_
            exact ⟨by rw [HK2.out], hbr⟩
          · have hd1 : decide ((1152921504606846976 : Int) < (C : Int)) = false := by simp; omega
            have HK2 : Hid (countRes s a b d = .tuple #[.int .i64 (C : Int), .int .i64 0]) := by
              show _ = _
              have h1 := HCE.out
              rw [HK.out, if_neg (by omega), show countE s a b d = C by omega]
            go_wp2_with fail
            refine bodyPost_ret (v := .tuple #[.int .i64 (C : Int), .int .i64 0]) (by simp [results, Tryd.results19, go_sem]) rfl ?_
            exact ⟨by rw [HK2.out], hbr⟩
        · intro x c kl y1 y2 w' cnt' hkey hlk hpl hat hrg1 hlt hg1 hs1 hen
          obtain ⟨l, hl, hkl⟩ := HLV.out.keys kl (hsub.out kl hlk)
          have hlw := HLV.out.wfk l hl
          obtain ⟨c', hc', hy', -⟩ := plainElem_int_inv Tryd.underlying3 hpl
          have hcf : c = (levF L (admE s d b) (south s) (north s) b b l : Int) := by
            have h1 := hat (.lit (.int .i64 0))
            rw [hkl, HLV.out.at_ l hlw] at h1
            have h2 : c = c' := by simpa using hc'
            have h3 : y1 = .lit (.int .i64 c') := by have := congrArg Prod.fst hy'; exact this
            rw [h3] at h1
            have : (levF L (admE s d b) (south s) (north s) b b l : Int) = c' := by simpa using h1
            omega
          obtain ⟨G, hG⟩ : ∃ G, G = levF L (admE s d b) (south s) (north s) b b l := ⟨_, rfl⟩
          have hGc : G ≤ cap := by rw [hG]; exact HLV.out.le l
          rw [← hG] at hcf
          subst hcf
          have hM : Hid (min (C + G) cap = min (doneS ks0 (levF L (admE s d b) (south s) (north s) b b) (fun z => left z && !z.sameKey kl)) cap) := by
            show _ = _
            rw [hkl, doneS_step _ left l hlw (by rw [← hkl]; exact hlk) ks0 HLV.out.nodup HLV.out.wfk, if_pos hl, ← hG, hC.out]
            omega
          unfold cap at hGc
          have hMi : min ((C : Int) + (G : Int)) 1152921504606846977 = ((min (C + G) cap : Nat) : Int) := by unfold cap; omega
          obtain ⟨M, hMM⟩ : ∃ M, M = min (C + G) cap := ⟨_, rfl⟩
          rw [← hMM] at hM hMi
          have hMc : M ≤ 1152921504606846977 := by rw [hMM]; unfold cap; omega
          have hpl2 := fun (W : World) => plus_any (C : Int) (G : Int) W (by omega) (by omega) (by omega) (by omega)
          rw [hMi] at hpl2
          have HPL := Lib.hid hpl2
          have hsub2 : Hid (∀ z, (left z && !z.sameKey kl) = true → Maps.has D0 z = true) := fun z hz => hsub.out z (by simp only [Bool.and_eq_true] at hz; exact hz.1)
          have hb' : Below w.heap.size w w' := hbr.trans (below_of_grown hg1 hr2 hbr.size)
          have HMEAS : Hid (cnt' < cnt) := hlt
          have HRG := Lib.hid hrg
          clear hkey hlk hpl hat hl hkl hlw hc' hy' hG hC hsub hMM hMi hpl2 hg1 hlt hrg
          go_wp2_with (go_at_call 40; refine (HPL.out _).mono ?_; rintro e w4 ⟨rfl, rfl⟩)
          go_roundw
          case rel => exact ⟨_, cnt', M, hrg1, hsub2, rfl, hMc, hM, hb'⟩
          case measure => rw [hrg1.left_eq, HRG.out.left_eq]; exact HMEAS.out
  · have HK : Hid (countRes s wd hg d = .tuple #[.int .i64 0, .int .i64 (checkE s wd hg d.n.length d.e.length d.s.length d.w.length)]) := by show _ = _; unfold countRes; rw [if_pos hc0]
    obtain ⟨ce, hce⟩ : ∃ ce, ce = checkE s wd hg d.n.length d.e.length d.s.length d.w.length := ⟨_, rfl⟩
    rw [← hce] at hck HK hc0
    have hd0 : (ce != 0) = true := by rw [bne_iff_ne]; exact hc0
    have HCK := Lib.hid hck
    clear hce hck hc0 hm hS hwf hE
    go_enter Tryd.func19, Tryd.ntmps19
    go_wp2_with fail
    refine HCK.out.mono ?_
    rintro e w1 ⟨rfl, hb1⟩
    go_wp2_with fail
    refine bodyPost_ret (v := .tuple #[.int .i64 0, .int .i64 ce]) (by simp [results, Tryd.results19, go_sem]) rfl ?_
    exact ⟨by rw [HK.out], hbx.trans (hb1.mono hbx.size)⟩
end Go.Proofs.YtfepgemopcpgmaaDoor
