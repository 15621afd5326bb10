/-
  Patterns that are changed: turned, mirrored, upturned, cut. The plain mathematics: no program, no memory.
-/
import Derived.Test.YtmmpdniafmhjpaaGreatDoorPure
namespace Go.Proofs.YtmmpdniafmhjpaaGreatDoor
set_option linter.unusedVariables false

/-- the pattern of a size whose cell in column x of row y is that of p in column f x y of row g x y -/
def rel (p : Pt) (W H : Nat) (f g : Nat → Nat → Nat) : Pt := ⟨W, H, (List.range (W * H)).map fun i => cel p (f (i % W) (i / W)) (g (i % W) (i / W))⟩
theorem rel_cel (p : Pt) (W H : Nat) (f g : Nat → Nat → Nat) (i j : Nat) (hi : i < W) (hj : j < H) : cel (rel p W H f g) i j = cel p (f i j) (g i j) := by
  have h1 : j * W + i < W * H := idx_lt hi hj
  have h2 : (j * W + i) % W = i := by rw [Nat.mul_comm, Nat.mul_add_mod]; exact Nat.mod_eq_of_lt hi
  have h3 : (j * W + i) / W = j := by rw [Nat.mul_comm, Nat.mul_add_div (by omega), Nat.div_eq_of_lt hi]; rfl
  show ((List.range (W * H)).map fun i => cel p (f (i % W) (i / W)) (g (i % W) (i / W))).getD (j * (W : Int).toNat + i) 0 = _
  rw [Int.toNat_natCast, List.getD_eq_getElem?_getD, List.getElem?_map, List.getElem?_range h1]
  simp [h2, h3]
theorem rel_form (p : Pt) (W H : Nat) (f g : Nat → Nat → Nat) (hw : 1 ≤ W) (hh : 1 ≤ H) (hwh : W * H ≤ 40000) : form (rel p W H f g) = true := by
  rw [form_iff]
  refine ⟨by simp only [rel]; omega, by simp only [rel]; omega, ?_, ?_⟩
  · simp only [rel]; rw [← Int.natCast_mul]; omega
  · simp only [rel, List.length_map, List.length_range]; exact_mod_cast rfl
theorem rel_refers (s s' : List Tl) (p : Pt) (W H : Nat) (f g : Nat → Nat → Nat) (hl : s'.length = s.length) (hf : form p = true) (hr : refers s p = true)
    (hb : ∀ x y, x < W → y < H → f x y < p.w.toNat ∧ g x y < p.h.toNat) : refers s' (rel p W H f g) = true := by
  unfold refers
  rw [List.all_eq_true]
  intro v hv
  simp only [rel, List.mem_map, List.mem_range] at hv
  obtain ⟨i, hi, rfl⟩ := hv
  have hW : 0 < W := by
    rcases Nat.eq_zero_or_pos W with e | e
    · rw [e, Nat.zero_mul] at hi; omega
    · exact e
  obtain ⟨h1, h2⟩ := hb (i % W) (i / W) (Nat.mod_lt _ hW) (Nat.div_lt_of_lt_mul hi)
  have := refers_cel hf hr _ _ h1 h2
  rw [hl]
  simpa using this
/-- patterns of one size with the same cells are the same -/
theorem pt_ext {p q : Pt} (hp : form p = true) (hq : form q = true) (hw : p.w = q.w) (hh : p.h = q.h) (hc : ∀ x y, x < p.w.toNat → y < p.h.toNat → cel p x y = cel q x y) : p = q := by
  obtain ⟨a, b, ha, hb, a1, b1, _, hl⟩ := form_nat hp
  obtain ⟨a', b', ha', hb', _, _, _, hl'⟩ := form_nat hq
  obtain ⟨w, h, c⟩ := p
  obtain ⟨w', h', c'⟩ := q
  simp only at hw hh ha hb ha' hb' hl hl' hc
  subst hw
  subst hh
  have ea : a' = a := by omega
  have eb : b' = b := by omega
  subst ea
  subst eb
  congr 1
  refine List.ext_getElem (by rw [hl, hl']) fun i h1 h2 => ?_
  rw [hl] at h1
  have hx : i % a' < a' := Nat.mod_lt _ a1
  have hy : i / a' < b' := Nat.div_lt_of_lt_mul h1
  have := hc (i % a') (i / a') (by omega) (by omega)
  simp only [cel, ha, Int.toNat_natCast] at this
  rw [Nat.mul_comm (i / a') a', Nat.div_add_mod i a'] at this
  rwa [List.getD_eq_getElem?_getD, List.getElem?_eq_getElem, List.getD_eq_getElem?_getD, List.getElem?_eq_getElem] at this
def mirP (p : Pt) : Pt := rel p p.w.toNat p.h.toNat (fun x _ => p.w.toNat - 1 - x) (fun _ y => y)
def upP (p : Pt) : Pt := rel p p.w.toNat p.h.toNat (fun x _ => x) (fun _ y => p.h.toNat - 1 - y)
def turP (p : Pt) : Pt := rel p p.h.toNat p.w.toNat (fun _ y => p.w.toNat - 1 - y) (fun x _ => x)
def cutP (p : Pt) (x y w h : Nat) : Pt := rel p w h (fun i _ => x + i) (fun _ j => y + j)

/-! sets -/
theorem mirT_mirT (t : Tl) : mirT (mirT t) = t := rfl
theorem upT_upT (t : Tl) : upT (upT t) = t := rfl
theorem turT_four (t : Tl) : turT (turT (turT (turT t))) = t := rfl
theorem vld_map {f : Tl → Tl} (hf : ∀ a b, f a = f b → a = b) (ho : ∀ t, okt t = true → okt (f t) = true) {s : List Tl} (h : vld s = true) : vld (s.map f) = true := by
  obtain ⟨h1, h2, h3⟩ := vld_iff.1 h
  refine vld_iff.2 ⟨by simpa using h1, fun t ht => ?_, ?_⟩
  · obtain ⟨u, hu, rfl⟩ := List.mem_map.1 ht
    exact ho u (h2 u hu)
  · unfold List.Nodup at h3 ⊢
    rw [List.pairwise_map]
    exact h3.imp fun hne e => hne (hf _ _ e)
theorem mirT_inj (a b : Tl) (h : mirT a = mirT b) : a = b := by rw [← mirT_mirT a, h, mirT_mirT]
theorem upT_inj (a b : Tl) (h : upT a = upT b) : a = b := by rw [← upT_upT a, h, upT_upT]
theorem turT_inj (a b : Tl) (h : turT a = turT b) : a = b := by rw [← turT_four a, h, turT_four]
theorem mirT_ok (t : Tl) (h : okt t = true) : okt (mirT t) = true := by rw [okt_iff] at h ⊢; simp only [mirT]; omega
theorem upT_ok (t : Tl) (h : okt t = true) : okt (upT t) = true := by rw [okt_iff] at h ⊢; simp only [upT]; omega
theorem turT_ok (t : Tl) (h : okt t = true) : okt (turT t) = true := by rw [okt_iff] at h ⊢; simp only [turT]; omega
theorem tl_map {f : Tl → Tl} (h0 : f ⟨0, 0, 0, 0⟩ = ⟨0, 0, 0, 0⟩) (s : List Tl) (i : Int) : tl (s.map f) i = f (tl s i) := by
  unfold tl
  rw [List.getD_eq_getElem?_getD, List.getD_eq_getElem?_getD, List.getElem?_map]
  cases s[i.toNat]? with
  | none => exact h0.symm
  | some t => rfl

/-! what is changed twice, four times -/
theorem mirP_form {p : Pt} (h : form p = true) : form (mirP p) = true := by
  obtain ⟨a, b, ha, hb, a1, b1, h4, _⟩ := form_nat h
  unfold mirP
  rw [ha, hb, Int.toNat_natCast, Int.toNat_natCast]
  exact rel_form _ _ _ _ _ a1 b1 h4
theorem upP_form {p : Pt} (h : form p = true) : form (upP p) = true := by
  obtain ⟨a, b, ha, hb, a1, b1, h4, _⟩ := form_nat h
  unfold upP
  rw [ha, hb, Int.toNat_natCast, Int.toNat_natCast]
  exact rel_form _ _ _ _ _ a1 b1 h4
theorem turP_form {p : Pt} (h : form p = true) : form (turP p) = true := by
  obtain ⟨a, b, ha, hb, a1, b1, h4, _⟩ := form_nat h
  unfold turP
  rw [ha, hb, Int.toNat_natCast, Int.toNat_natCast]
  exact rel_form _ _ _ _ _ b1 a1 (by rw [Nat.mul_comm]; exact h4)
theorem mirP_w {p : Pt} (h : form p = true) : (mirP p).w = p.w ∧ (mirP p).h = p.h := by
  obtain ⟨a, b, ha, hb, _⟩ := form_nat h
  simp [mirP, rel, ha, hb]
theorem upP_w {p : Pt} (h : form p = true) : (upP p).w = p.w ∧ (upP p).h = p.h := by
  obtain ⟨a, b, ha, hb, _⟩ := form_nat h
  simp [upP, rel, ha, hb]
theorem turP_w {p : Pt} (h : form p = true) : (turP p).w = p.h ∧ (turP p).h = p.w := by
  obtain ⟨a, b, ha, hb, _⟩ := form_nat h
  simp [turP, rel, ha, hb]
theorem mirP_cel {p : Pt} (x y : Nat) (hx : x < p.w.toNat) (hy : y < p.h.toNat) : cel (mirP p) x y = cel p (p.w.toNat - 1 - x) y := rel_cel p _ _ _ _ x y hx hy
theorem upP_cel {p : Pt} (x y : Nat) (hx : x < p.w.toNat) (hy : y < p.h.toNat) : cel (upP p) x y = cel p x (p.h.toNat - 1 - y) := rel_cel p _ _ _ _ x y hx hy
theorem turP_cel {p : Pt} (x y : Nat) (hx : x < p.h.toNat) (hy : y < p.w.toNat) : cel (turP p) x y = cel p (p.w.toNat - 1 - y) x := rel_cel p _ _ _ _ x y hx hy
theorem mirP_mirP {p : Pt} (h : form p = true) : mirP (mirP p) = p := by
  have h1 := mirP_form h
  have h2 := mirP_w h
  have h3 := mirP_w h1
  refine pt_ext (mirP_form h1) h (h3.1.trans h2.1) (h3.2.trans h2.2) fun x y hx hy => ?_
  rw [h3.1, h2.1] at hx
  rw [h3.2, h2.2] at hy
  rw [mirP_cel x y (by rw [h2.1]; exact hx) (by rw [h2.2]; exact hy), h2.1, mirP_cel _ y (by omega) hy]
  congr 1
  omega
theorem upP_upP {p : Pt} (h : form p = true) : upP (upP p) = p := by
  have h1 := upP_form h
  have h2 := upP_w h
  have h3 := upP_w h1
  refine pt_ext (upP_form h1) h (h3.1.trans h2.1) (h3.2.trans h2.2) fun x y hx hy => ?_
  rw [h3.1, h2.1] at hx
  rw [h3.2, h2.2] at hy
  rw [upP_cel x y (by rw [h2.1]; exact hx) (by rw [h2.2]; exact hy), h2.2, upP_cel x _ hx (by omega)]
  congr 1
  omega
theorem up_mirP {p : Pt} (h : form p = true) : mirP (upP p) = upP (mirP p) := by
  have hu := upP_w h
  have hm := mirP_w h
  have hmu := mirP_w (upP_form h)
  have hum := upP_w (mirP_form h)
  refine pt_ext (mirP_form (upP_form h)) (upP_form (mirP_form h)) (by rw [hmu.1, hu.1, hum.1, hm.1]) (by rw [hmu.2, hu.2, hum.2, hm.2]) fun x y hx hy => ?_
  rw [hmu.1, hu.1] at hx
  rw [hmu.2, hu.2] at hy
  rw [mirP_cel x y (by rw [hu.1]; exact hx) (by rw [hu.2]; exact hy), hu.1, upP_cel _ y (by omega) hy, upP_cel x y (by rw [hm.1]; exact hx) (by rw [hm.2]; exact hy), hm.2, mirP_cel x _ hx (by omega)]
theorem turP_two {p : Pt} (h : form p = true) : turP (turP p) = upP (mirP p) := by
  have ht := turP_w h
  have ht2 := turP_w (turP_form h)
  have hm := mirP_w h
  have hum := upP_w (mirP_form h)
  refine pt_ext (turP_form (turP_form h)) (upP_form (mirP_form h)) (by rw [ht2.1, ht.2, hum.1, hm.1]) (by rw [ht2.2, ht.1, hum.2, hm.2]) fun x y hx hy => ?_
  rw [ht2.1, ht.2] at hx
  rw [ht2.2, ht.1] at hy
  rw [turP_cel x y (by rw [ht.2]; exact hx) (by rw [ht.1]; exact hy), ht.1, turP_cel _ x (by omega) hx, upP_cel x y (by rw [hm.1]; exact hx) (by rw [hm.2]; exact hy), hm.2, mirP_cel x _ hx (by omega)]
/-- mirrored and upturned twice: nothing has changed -/
theorem umP_two {p : Pt} (h : form p = true) : upP (mirP (upP (mirP p))) = p := by
  rw [up_mirP (mirP_form h), mirP_mirP h, upP_upP h]
theorem turP_four {p : Pt} (h : form p = true) : turP (turP (turP (turP p))) = p := by
  rw [turP_two (turP_form (turP_form h)), turP_two h, umP_two h]

/-! neighbours -/
theorem agr_e {s : List Tl} {p : Pt} {c r : Int} (h : agrs s p c r = true) (x y : Nat) (hx : x < p.w.toNat) (hy : y < p.h.toNat) (hc : (x : Int) < c) : (tl s (cel p x y)).e = (tl s (cel p ((x + 1) % p.w.toNat) y)).w := ((agrs_iff.1 h) y hy x hx).1 hc
theorem agr_n {s : List Tl} {p : Pt} {c r : Int} (h : agrs s p c r = true) (x y : Nat) (hx : x < p.w.toNat) (hy : y < p.h.toNat) (hr : (y : Int) < r) : (tl s (cel p x y)).n = (tl s (cel p x ((y + 1) % p.h.toNat))).s := ((agrs_iff.1 h) y hy x hx).2 hr
/-- the column (row) before the one that is mirrored -/
theorem mod_back {w x : Nat} (d : Nat) (hx : x < w) (hd : d ≤ 1) (hc : x < w - d) : w - 1 - ((x + 1) % w) < w ∧ (w - 1 - ((x + 1) % w) + 1) % w = w - 1 - x ∧ w - 1 - ((x + 1) % w) < w - d ∧ (x + 1) % w < w := by
  by_cases e : x + 1 < w
  · rw [Nat.mod_eq_of_lt e]
    refine ⟨by omega, ?_, by omega, by omega⟩
    rw [Nat.mod_eq_of_lt (by omega)]
    omega
  · have e' : x + 1 = w := by omega
    have ed : d = 0 := by omega
    rw [e', Nat.mod_self]
    refine ⟨by omega, ?_, by omega, by omega⟩
    rw [show w - 1 - 0 + 1 = w by omega, Nat.mod_self]
    omega
theorem mir_agrs {s : List Tl} {p : Pt} (hf : form p = true) (d : Nat) (hd : d ≤ 1) (h : agrs s p (p.w - d) (p.h - d) = true) : agrs (s.map mirT) (mirP p) ((mirP p).w - d) ((mirP p).h - d) = true := by
  obtain ⟨a, b, ha, hb, a1, b1, _, _⟩ := form_nat hf
  have hw := mirP_w hf
  rw [agrs_iff]
  intro y hy x hx
  rw [hw.1, ha, Int.toNat_natCast] at hx
  rw [hw.2, hb, Int.toNat_natCast] at hy
  have ea : p.w.toNat = a := by omega
  have eb : p.h.toNat = b := by omega
  have cM : ∀ x y, x < a → y < b → tl (s.map mirT) (cel (mirP p) x y) = mirT (tl s (cel p (a - 1 - x) y)) := fun x y h1 h2 => by rw [tl_map rfl, mirP_cel x y (by omega) (by omega), ea]
  unfold agrAt
  rw [hw.1, hw.2, ea, eb]
  refine ⟨fun hc => ?_, fun hr => ?_⟩
  · obtain ⟨m1, m2, m3, m4⟩ := mod_back d hx hd (by omega)
    rw [cM x y hx hy, cM _ y m4 hy]
    have := agr_e h (a - 1 - ((x + 1) % a)) y (by omega) (by omega) (by omega)
    rw [ea, m2] at this
    exact this.symm
  · rw [cM x y hx hy, cM x _ hx (Nat.mod_lt _ b1)]
    have := agr_n h (a - 1 - x) y (by omega) (by omega) (by omega)
    rw [eb] at this
    exact this
theorem up_agrs {s : List Tl} {p : Pt} (hf : form p = true) (d : Nat) (hd : d ≤ 1) (h : agrs s p (p.w - d) (p.h - d) = true) : agrs (s.map upT) (upP p) ((upP p).w - d) ((upP p).h - d) = true := by
  obtain ⟨a, b, ha, hb, a1, b1, _, _⟩ := form_nat hf
  have hw := upP_w hf
  rw [agrs_iff]
  intro y hy x hx
  rw [hw.1, ha, Int.toNat_natCast] at hx
  rw [hw.2, hb, Int.toNat_natCast] at hy
  have ea : p.w.toNat = a := by omega
  have eb : p.h.toNat = b := by omega
  have cM : ∀ x y, x < a → y < b → tl (s.map upT) (cel (upP p) x y) = upT (tl s (cel p x (b - 1 - y))) := fun x y h1 h2 => by rw [tl_map rfl, upP_cel x y (by omega) (by omega), eb]
  unfold agrAt
  rw [hw.1, hw.2, ea, eb]
  refine ⟨fun hc => ?_, fun hr => ?_⟩
  · rw [cM x y hx hy, cM _ y (Nat.mod_lt _ a1) hy]
    have := agr_e h x (b - 1 - y) (by omega) (by omega) (by omega)
    rw [ea] at this
    exact this
  · obtain ⟨m1, m2, m3, m4⟩ := mod_back d hy hd (by omega)
    rw [cM x y hx hy, cM x _ hx m4]
    have := agr_n h x (b - 1 - ((y + 1) % b)) (by omega) (by omega) (by omega)
    rw [eb, m2] at this
    exact this.symm
theorem tur_agrs {s : List Tl} {p : Pt} (hf : form p = true) (d : Nat) (hd : d ≤ 1) (h : agrs s p (p.w - d) (p.h - d) = true) : agrs (s.map turT) (turP p) ((turP p).w - d) ((turP p).h - d) = true := by
  obtain ⟨a, b, ha, hb, a1, b1, _, _⟩ := form_nat hf
  have hw := turP_w hf
  rw [agrs_iff]
  intro y hy x hx
  rw [hw.1, hb, Int.toNat_natCast] at hx
  rw [hw.2, ha, Int.toNat_natCast] at hy
  have ea : p.w.toNat = a := by omega
  have eb : p.h.toNat = b := by omega
  have cM : ∀ x y, x < b → y < a → tl (s.map turT) (cel (turP p) x y) = turT (tl s (cel p (a - 1 - y) x)) := fun x y h1 h2 => by rw [tl_map rfl, turP_cel x y (by omega) (by omega), ea]
  unfold agrAt
  rw [hw.1, hw.2, ea, eb]
  refine ⟨fun hc => ?_, fun hr => ?_⟩
  · rw [cM x y hx hy, cM _ y (Nat.mod_lt _ b1) hy]
    have := agr_n h (a - 1 - y) x (by omega) (by omega) (by omega)
    rw [eb] at this
    exact this
  · obtain ⟨m1, m2, m3, m4⟩ := mod_back d hy hd (by omega)
    rw [cM x y hx hy, cM x _ hx m4]
    have := agr_e h (a - 1 - ((y + 1) % a)) x (by omega) (by omega) (by omega)
    rw [ea, m2] at this
    exact this.symm

/-- a change of sets and patterns that keeps what is a pattern and what is a torus -/
structure Keeps (f : Tl → Tl) (F : Pt → Pt) : Prop where
  fits : ∀ s p, fits s p = true → fits (s.map f) (F p) = true
  reps : ∀ s p, reps s p = true → reps (s.map f) (F p) = true
theorem keeps_of {f : Tl → Tl} {F : Pt → Pt} (hv : ∀ s, vld s = true → vld (s.map f) = true) (hF : ∀ p, form p = true → form (F p) = true)
    (hr : ∀ s p, form p = true → refers s p = true → refers (s.map f) (F p) = true)
    (ha : ∀ s p, form p = true → ∀ d : Nat, d ≤ 1 → agrs s p (p.w - d) (p.h - d) = true → agrs (s.map f) (F p) ((F p).w - d) ((F p).h - d) = true) : Keeps f F := by
  refine ⟨fun s p h => ?_, fun s p h => ?_⟩
  · simp only [Go.Proofs.YtmmpdniafmhjpaaGreatDoor.fits, Bool.and_eq_true] at h ⊢
    exact ⟨hv s h.1, hF p h.2.1, hr s p h.2.1 h.2.2.1, ha s p h.2.1 1 (Nat.le_refl _) h.2.2.2⟩
  · simp only [Go.Proofs.YtmmpdniafmhjpaaGreatDoor.reps, Bool.and_eq_true] at h ⊢
    have := ha s p h.2.1 0 (by omega)
    simp only [Int.natCast_zero, Int.sub_zero] at this
    exact ⟨hv s h.1, hF p h.2.1, hr s p h.2.1 h.2.2.1, this h.2.2.2⟩
theorem mir_keeps : Keeps mirT mirP := keeps_of (fun s h => vld_map mirT_inj mirT_ok h) (fun p h => mirP_form h)
  (fun s p hf hr => rel_refers s _ p _ _ _ _ (by simp) hf hr fun x y hx hy => ⟨by omega, hy⟩) (fun s p hf d hd h => mir_agrs hf d hd h)
theorem up_keeps : Keeps upT upP := keeps_of (fun s h => vld_map upT_inj upT_ok h) (fun p h => upP_form h)
  (fun s p hf hr => rel_refers s _ p _ _ _ _ (by simp) hf hr fun x y hx hy => ⟨hx, by omega⟩) (fun s p hf d hd h => up_agrs hf d hd h)
theorem tur_keeps : Keeps turT turP := keeps_of (fun s h => vld_map turT_inj turT_ok h) (fun p h => turP_form h)
  (fun s p hf hr => rel_refers s _ p _ _ _ _ (by simp) hf hr fun x y hx hy => ⟨by omega, hx⟩) (fun s p hf d hd h => tur_agrs hf d hd h)
theorem map_id_of {f : Tl → Tl} (h : ∀ t, f t = t) (s : List Tl) : s.map f = s := by
  have : f = id := funext h
  rw [this, List.map_id]
theorem tur_reps {s : List Tl} {p : Pt} (hf : form p = true) : reps (s.map turT) (turP p) = reps s p := by
  cases h : reps s p
  · cases h' : reps (s.map turT) (turP p)
    · rfl
    · have := tur_keeps.reps _ _ (tur_keeps.reps _ _ (tur_keeps.reps _ _ h'))
      rw [turP_four hf, List.map_map, List.map_map, List.map_map, map_id_of (f := ((turT ∘ turT) ∘ turT) ∘ turT) (fun t => rfl), h] at this
      cases this
  · exact tur_keeps.reps s p h
theorem mir_reps {s : List Tl} {p : Pt} (hf : form p = true) : reps (s.map mirT) (mirP p) = reps s p := by
  cases h : reps s p
  · cases h' : reps (s.map mirT) (mirP p)
    · rfl
    · have := mir_keeps.reps _ _ h'
      rw [mirP_mirP hf, List.map_map, map_id_of (f := mirT ∘ mirT) (fun t => rfl), h] at this
      cases this
  · exact mir_keeps.reps s p h
theorem up_reps {s : List Tl} {p : Pt} (hf : form p = true) : reps (s.map upT) (upP p) = reps s p := by
  cases h : reps s p
  · cases h' : reps (s.map upT) (upP p)
    · rfl
    · have := up_keeps.reps _ _ h'
      rw [upP_upP hf, List.map_map, map_id_of (f := upT ∘ upT) (fun t => rfl), h] at this
      cases this
  · exact up_keeps.reps s p h
/-- A RECTANGLE OF A PATTERN IS A PATTERN. -/
theorem cut_fits (s : List Tl) (p : Pt) (x y w h : Nat) (hw : 1 ≤ w) (hh : 1 ≤ h) (hx : x + w ≤ p.w.toNat) (hy : y + h ≤ p.h.toNat) (hp : fits s p = true) : fits s (cutP p x y w h) = true := by
  simp only [fits, Bool.and_eq_true] at hp ⊢
  obtain ⟨hv, hf, hr, hg⟩ := hp
  obtain ⟨a, b, ha, hb, ha1, hb1, h4, hl⟩ := form_nat hf
  have ea : p.w.toNat = a := by omega
  have eb : p.h.toNat = b := by omega
  have hwh : w * h ≤ 40000 := Nat.le_trans (Nat.mul_le_mul (show w ≤ a by omega) (show h ≤ b by omega)) h4
  refine ⟨hv, rel_form _ _ _ _ _ hw hh hwh, rel_refers s s p _ _ _ _ rfl hf hr fun i j hi hj => ⟨by omega, by omega⟩, agrs_iff.2 fun j hj i hi => ?_⟩
  have ew : (cutP p x y w h).w.toNat = w := by simp [cutP, rel]
  have eh : (cutP p x y w h).h.toNat = h := by simp [cutP, rel]
  have ew' : (cutP p x y w h).w = w := rfl
  have eh' : (cutP p x y w h).h = h := rfl
  rw [ew] at hi
  rw [eh] at hj
  have cM : ∀ i j, i < w → j < h → cel (cutP p x y w h) i j = cel p (x + i) (y + j) := fun i j hi hj => rel_cel p _ _ _ _ i j hi hj
  unfold agrAt
  rw [ew, eh, ew', eh']
  refine ⟨fun h1 => ?_, fun h1 => ?_⟩
  · rw [Nat.mod_eq_of_lt (show i + 1 < w by omega), cM i j hi hj, cM (i + 1) j (by omega) hj]
    have := agr_e hg (x + i) (y + j) (by omega) (by omega) (by omega)
    rw [Nat.mod_eq_of_lt (show x + i + 1 < p.w.toNat by omega)] at this
    exact this
  · rw [Nat.mod_eq_of_lt (show j + 1 < h by omega), cM i j hi hj, cM i (j + 1) hi (by omega)]
    have := agr_n hg (x + i) (y + j) (by omega) (by omega) (by omega)
    rw [Nat.mod_eq_of_lt (show y + j + 1 < p.h.toNat by omega)] at this
    exact this
/-- what a window shows of p is what is cut, where it lies within p -/
theorem win_cut (p : Pt) (x y w h : Nat) (hx : x + w ≤ p.w.toNat) (hy : y + h ≤ p.h.toNat) : win p x y w h = cutP p x y w h := by
  unfold win cutP rel
  congr 1
  refine List.map_congr_left fun i hi => ?_
  rw [List.mem_range] at hi
  have hW : 0 < w := by
    rcases Nat.eq_zero_or_pos w with e | e
    · rw [e, Nat.zero_mul] at hi; omega
    · exact e
  have h1 := Nat.mod_lt i hW
  have h2 := Nat.div_lt_of_lt_mul hi
  rw [Nat.mod_eq_of_lt (show x + i % w < p.w.toNat by omega), Nat.mod_eq_of_lt (show y + i / w < p.h.toNat by omega)]

/-! cells that are written one by one, each to its place -/
structure Goes (pos : Nat → Nat) (cs T : List Int) : Prop where
  len : T.length = cs.length
  at_ : ∀ i, i < cs.length → pos i < cs.length ∧ T.getD (pos i) 0 = cs.getD i 0
  all : ∀ j, j < cs.length → ∃ i, i < cs.length ∧ pos i = j
theorem goes_rel {p : Pt} {w h : Nat} (hf : form p = true) (hw : p.w = w) (hh : p.h = h) (W H : Nat) (f g cx cy : Nat → Nat → Nat) (hn : W * H = w * h)
    (h1 : ∀ x y, x < w → y < h → cx x y < W ∧ cy x y < H ∧ f (cx x y) (cy x y) = x ∧ g (cx x y) (cy x y) = y)
    (h2 : ∀ X Y, X < W → Y < H → f X Y < w ∧ g X Y < h ∧ cx (f X Y) (g X Y) = X ∧ cy (f X Y) (g X Y) = Y) :
    Goes (fun i => cy (i % w) (i / w) * W + cx (i % w) (i / w)) p.c (rel p W H f g).c := by
  obtain ⟨a, b, ha, hb, a1, b1, _, hl⟩ := form_nat hf
  have ea : w = a := by omega
  have eb : h = b := by omega
  subst ea
  subst eb
  have hlen : (rel p W H f g).c.length = W * H := by simp [rel]
  refine ⟨by rw [hlen, hl, hn], fun i hi => ?_, fun j hj => ?_⟩
  · rw [hl] at hi
    have hx : i % w < w := Nat.mod_lt _ a1
    have hy : i / w < h := Nat.div_lt_of_lt_mul hi
    obtain ⟨c1, c2, c3, c4⟩ := h1 _ _ hx hy
    have hp : cy (i % w) (i / w) * W + cx (i % w) (i / w) < W * H := idx_lt c1 c2
    refine ⟨by rw [hl, ← hn]; exact hp, ?_⟩
    have e := rel_cel p W H f g _ _ c1 c2
    rw [c3, c4] at e
    have e1 : cel (rel p W H f g) (cx (i % w) (i / w)) (cy (i % w) (i / w)) = (rel p W H f g).c.getD (cy (i % w) (i / w) * W + cx (i % w) (i / w)) 0 := by
      unfold cel
      show _ = (rel p W H f g).c.getD _ 0
      have : (rel p W H f g).w.toNat = W := by simp [rel]
      rw [this]
    rw [e1] at e
    rw [e]
    unfold cel
    rw [hw, Int.toNat_natCast, Nat.mul_comm (i / w) w, Nat.div_add_mod]
  · rw [hl, ← hn] at hj
    have hW : 0 < W := by
      rcases Nat.eq_zero_or_pos W with e | e
      · rw [e, Nat.zero_mul] at hj; omega
      · exact e
    have hX : j % W < W := Nat.mod_lt _ hW
    have hY : j / W < H := Nat.div_lt_of_lt_mul hj
    obtain ⟨c1, c2, c3, c4⟩ := h2 _ _ hX hY
    have e2 : (g (j % W) (j / W) * w + f (j % W) (j / W)) % w = f (j % W) (j / W) := by rw [Nat.mul_comm, Nat.mul_add_mod]; exact Nat.mod_eq_of_lt c1
    have e3 : (g (j % W) (j / W) * w + f (j % W) (j / W)) / w = g (j % W) (j / W) := by rw [Nat.mul_comm, Nat.mul_add_div a1, Nat.div_eq_of_lt c1]; rfl
    refine ⟨g (j % W) (j / W) * w + f (j % W) (j / W), by rw [hl]; exact idx_lt c1 c2, ?_⟩
    simp only [e2, e3, c3, c4]
    rw [Nat.mul_comm (j / W) W, Nat.div_add_mod]
theorem mir_goes {p : Pt} {w h : Nat} (hf : form p = true) (hw : p.w = w) (hh : p.h = h) : Goes (fun i => i / w * w + (w - 1 - i % w)) p.c (mirP p).c := by
  have ew : p.w.toNat = w := by omega
  have eh : p.h.toNat = h := by omega
  unfold mirP
  rw [ew, eh]
  exact goes_rel hf hw hh w h (fun x _ => w - 1 - x) (fun _ y => y) (fun x _ => w - 1 - x) (fun _ y => y) rfl (fun x y hx hy => ⟨by omega, hy, by omega, rfl⟩) (fun x y hx hy => ⟨by omega, hy, by omega, rfl⟩)
theorem up_goes {p : Pt} {w h : Nat} (hf : form p = true) (hw : p.w = w) (hh : p.h = h) : Goes (fun i => (h - 1 - i / w) * w + i % w) p.c (upP p).c := by
  have ew : p.w.toNat = w := by omega
  have eh : p.h.toNat = h := by omega
  unfold upP
  rw [ew, eh]
  exact goes_rel hf hw hh w h (fun x _ => x) (fun _ y => h - 1 - y) (fun x _ => x) (fun _ y => h - 1 - y) rfl (fun x y hx hy => ⟨hx, by omega, rfl, by omega⟩) (fun x y hx hy => ⟨hx, by omega, rfl, by omega⟩)
theorem tur_goes {p : Pt} {w h : Nat} (hf : form p = true) (hw : p.w = w) (hh : p.h = h) : Goes (fun i => (w - 1 - i % w) * h + i / w) p.c (turP p).c := by
  have ew : p.w.toNat = w := by omega
  have eh : p.h.toNat = h := by omega
  unfold turP
  rw [ew, eh]
  exact goes_rel hf hw hh h w (fun _ y => w - 1 - y) (fun x _ => x) (fun _ y => y) (fun x _ => w - 1 - x) (Nat.mul_comm h w) (fun x y hx hy => ⟨hy, by omega, by omega, rfl⟩) (fun x y hx hy => ⟨by omega, hx, rfl, by omega⟩)
end Go.Proofs.YtmmpdniafmhjpaaGreatDoor
