/-
  The plain mathematics of sets of tiles and their patterns: no program, no memory.
-/
namespace Go.Proofs.YtgadfmknjpanpaaDoor
structure Tl where
  n : Int
  e : Int
  s : Int
  w : Int
deriving DecidableEq, Inhabited

def mirT (t : Tl) : Tl := ⟨t.n, t.w, t.s, t.e⟩
def upT (t : Tl) : Tl := ⟨t.s, t.e, t.n, t.w⟩
def turT (t : Tl) : Tl := ⟨t.w, t.n, t.e, t.s⟩

structure Pt where
  w : Int
  h : Int
  c : List Int

def okc (x : Int) : Bool := decide (0 ≤ x ∧ x < 1000)
def okt (t : Tl) : Bool := okc t.n && okc t.e && okc t.s && okc t.w
def vld (s : List Tl) : Bool := decide (s.length ≤ 1000) && (s.all okt && decide s.Nodup)
def form (p : Pt) : Bool := decide (1 ≤ p.w ∧ 1 ≤ p.h ∧ p.w * p.h ≤ 40000 ∧ (p.c.length : Int) = p.w * p.h)
def refers (s : List Tl) (p : Pt) : Bool := p.c.all fun i => decide (0 ≤ i ∧ i < (s.length : Int))
def tl (s : List Tl) (i : Int) : Tl := s.getD i.toNat ⟨0, 0, 0, 0⟩
def cel (p : Pt) (x y : Nat) : Int := p.c.getD (y * p.w.toNat + x) 0
def agrAt (s : List Tl) (p : Pt) (cols rows : Int) (x y : Nat) : Prop :=
  ((x : Int) < cols → (tl s (cel p x y)).e = (tl s (cel p ((x + 1) % p.w.toNat) y)).w) ∧
  ((y : Int) < rows → (tl s (cel p x y)).n = (tl s (cel p x ((y + 1) % p.h.toNat))).s)
instance (s : List Tl) (p : Pt) (cols rows : Int) (x y : Nat) : Decidable (agrAt s p cols rows x y) := by unfold agrAt; infer_instance
def agrs (s : List Tl) (p : Pt) (cols rows : Int) : Bool := decide (∀ y, y < p.h.toNat → ∀ x, x < p.w.toNat → agrAt s p cols rows x y)
def fits (s : List Tl) (p : Pt) : Bool := vld s && (form p && (refers s p && agrs s p (p.w - 1) (p.h - 1)))
def reps (s : List Tl) (p : Pt) : Bool := vld s && (form p && (refers s p && agrs s p p.w p.h))
/-- the pattern of a size that shows p, repeated, from column x of row y on -/
def win (p : Pt) (x y w h : Nat) : Pt := ⟨w, h, (List.range (w * h)).map fun i => cel p ((x + i % w) % p.w.toNat) ((y + i / w) % p.h.toNat)⟩

theorem form_iff {p : Pt} : form p = true ↔ 1 ≤ p.w ∧ 1 ≤ p.h ∧ p.w * p.h ≤ 40000 ∧ (p.c.length : Int) = p.w * p.h := by unfold form; exact decide_eq_true_iff
/-- the sides of a form, as natural numbers -/
theorem form_nat {p : Pt} (h : form p = true) : ∃ a b : Nat, p.w = a ∧ p.h = b ∧ 1 ≤ a ∧ 1 ≤ b ∧ a * b ≤ 40000 ∧ p.c.length = a * b := by
  obtain ⟨h1, h2, h3, h4⟩ := form_iff.1 h
  obtain ⟨a, ha⟩ := Int.eq_ofNat_of_zero_le (show 0 ≤ p.w by omega)
  obtain ⟨b, hb⟩ := Int.eq_ofNat_of_zero_le (show 0 ≤ p.h by omega)
  rw [ha, hb] at h3 h4
  exact ⟨a, b, ha, hb, by omega, by omega, by rw [← Int.natCast_mul] at h3; omega, by rw [← Int.natCast_mul] at h4; omega⟩
theorem okt_iff {t : Tl} : okt t = true ↔ (0 ≤ t.n ∧ t.n < 1000) ∧ (0 ≤ t.e ∧ t.e < 1000) ∧ (0 ≤ t.s ∧ t.s < 1000) ∧ (0 ≤ t.w ∧ t.w < 1000) := by
  simp [okt, okc, and_assoc]
theorem vld_iff {s : List Tl} : vld s = true ↔ s.length ≤ 1000 ∧ (∀ t ∈ s, okt t = true) ∧ s.Nodup := by simp [vld]
theorem idx_lt {a b x y : Nat} (hx : x < a) (hy : y < b) : y * a + x < a * b := by
  have : (y + 1) * a ≤ b * a := Nat.mul_le_mul_right a (by omega)
  rw [Nat.add_mul, Nat.mul_comm b a] at this
  omega
theorem win_cel (p : Pt) (x y w h i j : Nat) (hi : i < w) (hj : j < h) : cel (win p x y w h) i j = cel p ((x + i) % p.w.toNat) ((y + j) % p.h.toNat) := by
  have h1 : j * w + i < w * h := idx_lt hi hj
  have h2 : (j * w + i) % w = i := by rw [Nat.mul_comm, Nat.mul_add_mod]; exact Nat.mod_eq_of_lt hi
  have h3 : (j * w + i) / w = j := by rw [Nat.mul_comm, Nat.mul_add_div (by omega), Nat.div_eq_of_lt hi]; rfl
  simp only [cel, win, Int.toNat_natCast]
  rw [List.getD_eq_getElem?_getD, List.getElem?_map, List.getElem?_range h1]
  simp [h2, h3]
theorem win_form (p : Pt) (x y w h : Nat) (hw : 1 ≤ w) (hh : 1 ≤ h) (hwh : w * h ≤ 40000) : form (win p x y w h) = true := by
  rw [form_iff]
  refine ⟨by simp only [win]; omega, by simp only [win]; omega, ?_, ?_⟩
  · simp only [win]; rw [← Int.natCast_mul]; omega
  · simp only [win, List.length_map, List.length_range]; exact_mod_cast rfl
theorem refers_cel {s : List Tl} {p : Pt} (hf : form p = true) (hr : refers s p = true) (x y : Nat) (hx : x < p.w.toNat) (hy : y < p.h.toNat) : 0 ≤ cel p x y ∧ cel p x y < s.length := by
  obtain ⟨a, b, ha, hb, _, _, _, hl⟩ := form_nat hf
  have h1 : y * p.w.toNat + x < p.c.length := by
    rw [hl, ha, Int.toNat_natCast]; rw [ha, Int.toNat_natCast] at hx; rw [hb, Int.toNat_natCast] at hy; exact idx_lt hx hy
  unfold refers at hr
  rw [List.all_eq_true] at hr
  have := hr _ (List.getElem_mem h1)
  unfold cel
  rw [List.getD_eq_getElem?_getD, List.getElem?_eq_getElem h1]
  simpa using this
theorem win_refers (s : List Tl) (p : Pt) (x y w h : Nat) (hf : form p = true) (hr : refers s p = true) : refers s (win p x y w h) = true := by
  obtain ⟨a, b, ha, hb, ha1, hb1, _, hl⟩ := form_nat hf
  unfold refers
  rw [List.all_eq_true]
  intro v hv
  simp only [win, List.mem_map] at hv
  obtain ⟨i, _, rfl⟩ := hv
  have := refers_cel hf hr ((x + i % w) % p.w.toNat) ((y + i / w) % p.h.toNat) (Nat.mod_lt _ (by rw [ha, Int.toNat_natCast]; omega)) (Nat.mod_lt _ (by rw [hb, Int.toNat_natCast]; omega))
  simpa using this
theorem agrs_iff {s : List Tl} {p : Pt} {c r : Int} : agrs s p c r = true ↔ ∀ y, y < p.h.toNat → ∀ x, x < p.w.toNat → agrAt s p c r x y := by simp [agrs]
/-- A TORUS, REPEATED, IS A PATTERN OF EVERY SIZE. -/
theorem win_fits (s : List Tl) (p : Pt) (x y w h : Nat) (hw : 1 ≤ w) (hh : 1 ≤ h) (hwh : w * h ≤ 40000) (hp : reps s p = true) : fits s (win p x y w h) = true := by
  simp only [reps, Bool.and_eq_true] at hp
  obtain ⟨hv, hf, hr, hg⟩ := hp
  obtain ⟨a, b, ha, hb, ha1, hb1, _, hl⟩ := form_nat hf
  simp only [fits, Bool.and_eq_true]
  refine ⟨hv, win_form p x y w h hw hh hwh, win_refers s p x y w h hf hr, agrs_iff.2 ?_⟩
  rw [agrs_iff, ha, hb, Int.toNat_natCast, Int.toNat_natCast] at hg
  intro j hj i hi
  have hj' : j < h := by simpa [win] using hj
  have hi' : i < w := by simpa [win] using hi
  unfold agrAt
  have ew : (win p x y w h).w.toNat = w := by simp [win]
  have eh : (win p x y w h).h.toNat = h := by simp [win]
  have ew' : (win p x y w h).w = w := rfl
  have eh' : (win p x y w h).h = h := rfl
  rw [ew, eh, ew', eh']
  have hm := hg ((y + j) % b) (Nat.mod_lt _ hb1) ((x + i) % a) (Nat.mod_lt _ ha1)
  unfold agrAt at hm
  rw [ha, hb, Int.toNat_natCast, Int.toNat_natCast] at hm
  refine ⟨fun h1 => ?_, fun h1 => ?_⟩
  · have h2 : (i + 1) % w = i + 1 := Nat.mod_eq_of_lt (by omega)
    rw [h2, win_cel p x y w h i j hi' hj', win_cel p x y w h (i + 1) j (by omega) hj', ha, hb, Int.toNat_natCast, Int.toNat_natCast]
    have := hm.1 (by have := Nat.mod_lt (x + i) (show 0 < a by omega); omega)
    rw [this, Nat.mod_add_mod]; rfl
  · have h2 : (j + 1) % h = j + 1 := Nat.mod_eq_of_lt (by omega)
    rw [h2, win_cel p x y w h i j hi' hj', win_cel p x y w h i (j + 1) hi' (by omega), ha, hb, Int.toNat_natCast, Int.toNat_natCast]
    have := hm.2 (by have := Nat.mod_lt (y + j) (show 0 < b by omega); omega)
    rw [this, Nat.mod_add_mod]; rfl
end Go.Proofs.YtgadfmknjpanpaaDoor
