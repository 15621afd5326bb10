/-
  ref02.extend: the invariant of the region that lays the longer row. No operation is walked here.
-/
import Derived.Test.YteaoaglgoeichaaDoorFj
import Derived.Test.YteaoaglgoeichaaDoorIv
namespace Go.Proofs.YteaoaglgoeichaaDoor
open Go.RowKit Go.Maps Go.BigFrame Go.Sort
set_option linter.unusedVariables false
set_option linter.unusedSimpArgs false

/-- the operations whose value does not hang on what came before -/
def qt (i : Nat) : Prop := 1 ≤ i ∧ i ≤ 24 ∧ i ≠ 3 ∧ i ≠ 5 ∧ i ≠ 6
theorem qt_of {i : Nat} (h : (Nat.ble 1 i && (Nat.ble i 24 && (!Nat.beq i 3 && (!Nat.beq i 5 && !Nat.beq i 6)))) = true) : qt i := by
  simp only [Bool.and_eq_true, Nat.ble_eq, Bool.not_eq_true'] at h
  obtain ⟨a, b, c, d, e⟩ := h
  exact ⟨a, b, (fun h => by rw [h] at c; cases c), (fun h => by rw [h] at d; cases d), (fun h => by rw [h] at e; cases e)⟩
structure RI (tI tR : TypeId) (w1 : World) (cv : Nat → Value) (n : Nat) (l : List Int) (j : Int) (X Y : Int) (d : Nat → Bool) (u : Nat → Value) (q56 q61 q15 g62 c62 : Nat) (w : World) : Prop where
  bel : Below w1.heap.size w1 w
  cl3 : d 3 = true → d 0 = true
  cl6 : d 6 = true → d 3 = true ∧ d 5 = true
  cl25 : d 25 = true → d 6 = true
  cl27 : d 27 = true → d 26 = true ∧ d 25 = true
  con : ∀ i, qt i → d i = true → u (56 + i) = cv i
  f0 : d 0 = true → d 3 = false → u 56 = .slice (some ⟨q56, 0, none⟩) 0 0 ∧ w.heap[q56]? = some (.cells #[] tI (0, 0)) ∧ w1.heap.size ≤ q56
  f3 : d 3 = true → d 6 = false → w.ownsRow w1.heap.size tI 1 (u 59) n (vals l)
  f5 : d 5 = true → d 6 = false → u 61 = .slice (some ⟨q61, 0, none⟩) 1 1 ∧ w.heap[q61]? = some (.cells #[.int .i64 j] tI (0, 0))
  f35 : d 3 = true → d 5 = true → d 6 = false → some q61 ≠ (u 59).ownBlock
  f6 : d 6 = true → u 62 = .slice (some ⟨g62, 0, none⟩) (n + 1) c62 ∧ w1.heap.size ≤ g62 ∧ g62 < w.heap.size ∧ w.rangeAt g62 0 (vals (l ++ [j]))
  f25 : d 25 = true → u 81 = .agg #[.slice (some ⟨g62, 0, none⟩) (n + 1) c62, .int .i64 X, .int .i64 Y]
  f26 : d 26 = true → u 15 = .pointer (some ⟨q15, 0, none⟩) ∧ w1.heap.size ≤ q15 ∧ (d 27 = false → w.heap[q15]? = some (.cells #[.slice none 0 0, .int .i64 0, .int .i64 0] tR (0, 0)))
  f27 : d 27 = true → w.heap[q15]? = some (.cells #[.slice (some ⟨g62, 0, none⟩) (n + 1) c62, .int .i64 X, .int .i64 Y] tR (0, 0))
variable {tI tR : TypeId} {w1 w w' : World} {cv : Nat → Value} {n : Nat} {l : List Int} {j X Y : Int} {d : Nat → Bool} {u : Nat → Value} {q56 q61 q15 g62 c62 : Nat}
theorem bf {b : Bool} (h : b = true) (h' : b = false) : False := by rw [h] at h'; cases h'
theorem RI.start (u : Nat → Value) (q56 q61 q15 g62 c62 : Nat) (hb : Below w1.heap.size w1 w) : RI tI tR w1 cv n l j X Y (fun _ => false) u q56 q61 q15 g62 c62 w where
  bel := hb
  cl3 h := by cases h
  cl6 h := by cases h
  cl25 h := by cases h
  cl27 h := by cases h
  con _ _ h := by cases h
  f0 h := by cases h
  f3 h := by cases h
  f5 h := by cases h
  f35 h := by cases h
  f6 h := by cases h
  f25 h := by cases h
  f26 h := by cases h
  f27 h := by cases h
theorem RI.quiet (h : RI tI tR w1 cv n l j X Y d u q56 q61 q15 g62 c62 w) (i : Nat) (hi : qt i) : RI tI tR w1 cv n l j X Y (updD d i) (updU u (56 + i) (cv i)) q56 q61 q15 g62 c62 w := by
  unfold qt at hi
  have e0 : updD d i 0 = d 0 := updD_ne (by omega)
  have e3 : updD d i 3 = d 3 := updD_ne (by omega)
  have e5 : updD d i 5 = d 5 := updD_ne (by omega)
  have e6 : updD d i 6 = d 6 := updD_ne (by omega)
  have e25 : updD d i 25 = d 25 := updD_ne (by omega)
  have e26 : updD d i 26 = d 26 := updD_ne (by omega)
  have e27 : updD d i 27 = d 27 := updD_ne (by omega)
  have v0 : updU u (56 + i) (cv i) 56 = u 56 := updU_ne (by omega)
  have v3 : updU u (56 + i) (cv i) 59 = u 59 := updU_ne (by omega)
  have v5 : updU u (56 + i) (cv i) 61 = u 61 := updU_ne (by omega)
  have v6 : updU u (56 + i) (cv i) 62 = u 62 := updU_ne (by omega)
  have v25 : updU u (56 + i) (cv i) 81 = u 81 := updU_ne (by omega)
  have v26 : updU u (56 + i) (cv i) 15 = u 15 := updU_ne (by omega)
  refine ⟨h.bel, ?_, ?_, ?_, ?_, ?_, ?_, ?_, ?_, ?_, ?_, ?_, ?_, ?_⟩
  · rw [e3, e0]; exact h.cl3
  · rw [e3, e5, e6]; exact h.cl6
  · rw [e25, e6]; exact h.cl25
  · rw [e25, e26, e27]; exact h.cl27
  · intro k hk hd
    by_cases e : k = i
    · subst e; exact updU_same _ _ _
    · rw [updU_ne (by omega)]
      rw [updD_ne e] at hd
      exact h.con k hk hd
  · rw [e0, e3, v0]; exact h.f0
  · rw [e3, e6, v3]; exact h.f3
  · rw [e5, e6, v5]; exact h.f5
  · rw [e3, e5, e6, v3]; exact h.f35
  · rw [e6, v6]; exact h.f6
  · rw [e25, v25]; exact h.f25
  · rw [e26, e27, v26]; exact h.f26
  · rw [e27]; exact h.f27
theorem con_keep {i k : Nat} {v : Value} (hc : ∀ i, qt i → d i = true → u (56 + i) = cv i) (hi : ¬ qt i) (hk : ∀ m, qt m → 56 + m ≠ k) : ∀ m, qt m → updD d i m = true → updU u k v (56 + m) = cv m := fun m hm hd => by
  rw [updU_ne (hk m hm)]
  rw [updD_ne (fun e => hi (by rw [← e]; exact hm))] at hd
  exact hc m hm hd
/-- '[]int{}' -/
theorem RI.s0 (h : RI tI tR w1 cv n l j X Y d u q56 q61 q15 g62 c62 w) (hd : d 0 = false) : RI tI tR w1 cv n l j X Y (updD d 0) (updU u 56 (.slice (some ⟨w.heap.size, 0, none⟩) 0 0)) w.heap.size q61 q15 g62 c62 (w.alloc (.cells #[] tI)) := by
  have h3 : d 3 = false := by cases e : d 3; rfl; exact (bf (h.cl3 e) hd).elim
  have h6 : d 6 = false := by cases e : d 6; rfl; exact (bf (h.cl6 e).1 h3).elim
  refine ⟨h.bel.alloc h.bel.size _, fun _ => rfl, fun e => (bf e h6).elim, h.cl25, h.cl27, con_keep h.con (by unfold qt; omega) (by unfold qt; omega), fun _ _ => ⟨rfl, heap_alloc_new _ _, h.bel.size⟩, fun e => (bf e h3).elim, fun a b => ?_, fun e => (bf e h3).elim, fun e => (bf e h6).elim, h.f25, fun a => ?_, fun a => ?_⟩
  · obtain ⟨x, y⟩ := h.f5 a b
    exact ⟨x, heap_kp y _⟩
  · obtain ⟨x, y, z⟩ := h.f26 a
    exact ⟨x, y, fun b => heap_kp (z b) _⟩
  · exact heap_kp (h.f27 a) _
/-- '[]int{i}' -/
theorem RI.s5 (h : RI tI tR w1 cv n l j X Y d u q56 q61 q15 g62 c62 w) (hd : d 5 = false) : RI tI tR w1 cv n l j X Y (updD d 5) (updU u 61 (.slice (some ⟨w.heap.size, 0, none⟩) 1 1)) q56 w.heap.size q15 g62 c62 (w.alloc (.cells #[.int .i64 j] tI)) := by
  have h6 : d 6 = false := by cases e : d 6; rfl; exact (bf (h.cl6 e).2 hd).elim
  refine ⟨h.bel.alloc h.bel.size _, h.cl3, fun e => (bf e h6).elim, h.cl25, h.cl27, con_keep h.con (by unfold qt; omega) (by unfold qt; omega), fun a b => ?_, fun a b => (h.f3 a b).alloc _, fun _ _ => ⟨rfl, heap_alloc_new _ _⟩, fun a _ b e => ?_, fun e => (bf e h6).elim, h.f25, fun a => ?_, fun a => ?_⟩
  · obtain ⟨x, y, z⟩ := h.f0 a b
    exact ⟨x, heap_kp y _, z⟩
  · have := ((h.f3 a b).lt _ e.symm).2
    omega
  · obtain ⟨x, y, z⟩ := h.f26 a
    exact ⟨x, y, fun b => heap_kp (z b) _⟩
  · exact heap_kp (h.f27 a) _
/-- the row's variable -/
theorem RI.s26 (h : RI tI tR w1 cv n l j X Y d u q56 q61 q15 g62 c62 w) (hd : d 26 = false) : RI tI tR w1 cv n l j X Y (updD d 26) (updU u 15 (.pointer (some ⟨w.heap.size, 0, none⟩))) q56 q61 w.heap.size g62 c62 (w.alloc (.cells #[.slice none 0 0, .int .i64 0, .int .i64 0] tR)) := by
  have h27 : d 27 = false := by cases e : d 27; rfl; exact (bf (h.cl27 e).1 hd).elim
  refine ⟨h.bel.alloc h.bel.size _, h.cl3, h.cl6, h.cl25, fun e => (bf e h27).elim, con_keep h.con (by unfold qt; omega) (by unfold qt; omega), fun a b => ?_, fun a b => (h.f3 a b).alloc _, fun a b => ?_, h.f35, fun a => ?_, h.f25, fun a => ⟨rfl, h.bel.size, fun _ => heap_alloc_new _ _⟩, fun e => (bf e h27).elim⟩
  · obtain ⟨x, y, z⟩ := h.f0 a b
    exact ⟨x, heap_kp y _, z⟩
  · obtain ⟨x, y⟩ := h.f5 a b
    exact ⟨x, heap_kp y _⟩
  · obtain ⟨x, y, z, t⟩ := h.f6 a
    exact ⟨x, y, by simp; omega, fun i v hv => (World.cell?_of_block (heap_alloc_old' w _ g62 z)).trans (t i v hv)⟩
/-- the first append -/
theorem RI.s3 (hT : tI ≠ tR) (h : RI tI tR w1 cv n l j X Y d u q56 q61 q15 g62 c62 w) (hd : d 3 = false) (h0 : d 0 = true) {v : Value} (hown : w'.ownsRow w1.heap.size tI 1 v n (vals l)) (hg : w.grownBy w' (some q56))
    (hat : v.ownBlock = some q56 ∨ v.ownBlock = some w.heap.size) : RI tI tR w1 cv n l j X Y (updD d 3) (updU u 59 v) q56 q61 q15 g62 c62 w' := by
  have h6 : d 6 = false := by cases e : d 6; rfl; exact (bf (h.cl6 e).1 hd).elim
  obtain ⟨a56, b56, c56⟩ := h.f0 h0 hd
  have n15 : ∀ o, w.heap[q15]? = some (.cells o tR (0, 0)) → some q15 ≠ some q56 := fun o ho e => by
    cases e
    rw [ho] at b56
    exact hT (by injection b56 with e; injection e with _ e2 _; exact e2.symm)
  refine ⟨h.bel.grown hg h.bel.size fun k e => by cases e; exact c56, fun _ => h0, fun e => (bf e h6).elim, h.cl25, h.cl27, con_keep h.con (by unfold qt; omega) (by unfold qt; omega), fun _ e => (bf rfl e).elim, fun _ _ => hown, fun a b => ?_, fun _ a b e => ?_, fun e => (bf e h6).elim, h.f25, fun a => ?_, fun a => ?_⟩
  · obtain ⟨x, y⟩ := h.f5 a b
    exact ⟨x, keepZ hg y fun e => by
      cases e
      rw [b56] at y
      injection y with e
      injection e with e1 _ _
      have := congrArg Array.size e1
      simp at this⟩
  · obtain ⟨x, y⟩ := h.f5 a b
    have e' : some q61 = v.ownBlock := e
    rcases hat with h1 | h1
    · rw [h1] at e'
      cases e'
      rw [b56] at y
      injection y with e
      injection e with e1 _ _
      have := congrArg Array.size e1
      simp at this
    · rw [h1] at e'
      cases e'
      have := (Array.getElem?_eq_some_iff.1 y).1
      omega
  · obtain ⟨x, y, z⟩ := h.f26 a
    exact ⟨x, y, fun b => keepZ hg (z b) (n15 _ (z b))⟩
  · exact keepZ hg (h.f27 a) (n15 _ (h.f27 a))
theorem own_type {w : World} {base n : Nat} {e : TypeId} {v : Value} {xs : List Value} (h : w.ownsRow base e 1 v n xs) {g : Nat} (hg : v.ownBlock = some g) : ∃ o, w.heap[g]? = some (.cells o e (0, 0)) := by
  rcases h.2 with ⟨rfl, h0⟩ | ⟨g', cap, cur, rfl, hb, hh, _⟩
  · simp [Value.ownBlock] at hg
  · have : g' = g := by simpa [Value.ownBlock] using hg
    subst this
    exact ⟨_, hh⟩
/-- the second append -/
theorem RI.s6 (hT : tI ≠ tR) (h : RI tI tR w1 cv n l j X Y d u q56 q61 q15 g62 c62 w) (hd : d 6 = false) (h3 : d 3 = true) (h5 : d 5 = true) {v : Value} (hown : w'.ownsRow w1.heap.size tI 1 v (n + 1) (vals l ++ [.int .i64 j])) (hg : w.grownBy w' (u 59).ownBlock) (h25 : d 25 = false) :
    ∃ g c, v = .slice (some ⟨g, 0, none⟩) (n + 1) c ∧ RI tI tR w1 cv n l j X Y (updD d 6) (updU u 62 v) q56 q61 q15 g c w' := by
  have hO := h.f3 h3 hd
  obtain ⟨g, c, rfl, hgl, hgh, hr⟩ := own_row hown (Nat.succ_pos _)
  have n15 : ∀ o, w.heap[q15]? = some (.cells o tR (0, 0)) → some q15 ≠ (u 59).ownBlock := fun o ho e => by
    obtain ⟨o', h1⟩ := own_type hO e.symm
    rw [ho] at h1
    exact hT (by injection h1 with e; injection e with _ e2 _; exact e2.symm)
  have h27 : d 27 = false := by cases e : d 27; rfl; exact (bf (h.cl27 e).2 h25).elim
  refine ⟨g, c, rfl, h.bel.grown hg h.bel.size fun k e => (hO.lt k e).1, h.cl3, fun _ => ⟨h3, h5⟩, fun _ => rfl, h.cl27, con_keep h.con (by unfold qt; omega) (by unfold qt; omega), fun _ e => (bf h3 e).elim, fun _ e => (bf rfl e).elim, fun _ e => (bf rfl e).elim, fun _ _ e => (bf rfl e).elim, fun _ => ⟨rfl, hgl, hgh, fun i v hv => ?_⟩, fun e => (bf e h25).elim, fun a => ?_, fun e => (bf e h27).elim⟩
  · refine hr i v ?_
    have : vals (l ++ [j]) = vals l ++ [.int .i64 j] := by simp [vals]
    rw [← this]
    exact hv
  · obtain ⟨x, y, z⟩ := h.f26 a
    exact ⟨x, y, fun b => keepZ hg (z b) (n15 _ (z b))⟩
/-- the row's value -/
theorem RI.s25 (h : RI tI tR w1 cv n l j X Y d u q56 q61 q15 g62 c62 w) (hd : d 25 = false) (h6 : d 6 = true) : RI tI tR w1 cv n l j X Y (updD d 25) (updU u 81 (.agg #[.slice (some ⟨g62, 0, none⟩) (n + 1) c62, .int .i64 X, .int .i64 Y])) q56 q61 q15 g62 c62 w := by
  have h27 : d 27 = false := by cases e : d 27; rfl; exact (bf (h.cl27 e).2 hd).elim
  exact ⟨h.bel, h.cl3, h.cl6, fun _ => h6, fun e => (bf e h27).elim, con_keep h.con (by unfold qt; omega) (by unfold qt; omega), h.f0, h.f3, h.f5, h.f35, h.f6, fun _ => rfl, h.f26, fun e => (bf e h27).elim⟩
theorem row_set {w : World} {q : Nat} {z0 z1 z2 a b c : Value} {t : TypeId} (h : w.heap[q]? = some (.cells #[z0, z1, z2] t (0, 0))) :
    (((w.setCell ⟨q, 0, none⟩ a).setCell ⟨q, 1, none⟩ b).setCell ⟨q, 2, none⟩ c).heap[q]? = some (.cells #[a, b, c] t (0, 0)) := by
  have h1 := heap_setCell_same _ q 2 _ t c (heap_setCell_same _ q 1 _ t b (heap_setCell_same w q 0 _ t a h))
  rw [h1]
  rfl
/-- the store -/
theorem RI.s27 (h : RI tI tR w1 cv n l j X Y d u q56 q61 q15 g62 c62 w) (hd : d 27 = false) (h26 : d 26 = true) (h25 : d 25 = true) (h6 : d 6 = true) :
    RI tI tR w1 cv n l j X Y (updD d 27) u q56 q61 q15 g62 c62 (((w.setCell ⟨q15, 0, none⟩ (.slice (some ⟨g62, 0, none⟩) (n + 1) c62)).setCell ⟨q15, 1, none⟩ (.int .i64 X)).setCell ⟨q15, 2, none⟩ (.int .i64 Y)) := by
  obtain ⟨x15, y15, z15⟩ := h.f26 h26
  obtain ⟨x6, y6, z6, t6⟩ := h.f6 h6
  have hq := z15 hd
  have hne : g62 ≠ q15 := fun e => by
    subst e
    have hv : ∃ k, (vals (l ++ [j]))[0]? = some (.int .i64 k) := by
      cases l with
      | nil => exact ⟨j, rfl⟩
      | cons a l => exact ⟨a, rfl⟩
    obtain ⟨k, hk⟩ := hv
    have h1 := t6 0 _ hk
    have h2 := (zcells hq).1
    rw [h2] at h1
    cases h1
  have hb : Below w1.heap.size w1 (((w.setCell ⟨q15, 0, none⟩ (.slice (some ⟨g62, 0, none⟩) (n + 1) c62)).setCell ⟨q15, 1, none⟩ (.int .i64 X)).setCell ⟨q15, 2, none⟩ (.int .i64 Y)) :=
    ((h.bel.setCell (p := ⟨q15, 0, none⟩) y15 _).setCell (p := ⟨q15, 1, none⟩) y15 _).setCell (p := ⟨q15, 2, none⟩) y15 _
  refine ⟨hb, h.cl3, h.cl6, h.cl25, fun _ => ⟨h26, h25⟩, fun m hm hdm => h.con m hm (by rw [updD_ne (by unfold qt at hm; omega)] at hdm; exact hdm), fun a b => (bf (h.cl6 h6).1 b).elim, fun _ b => (bf h6 b).elim, fun _ b => (bf h6 b).elim, fun _ _ b => (bf h6 b).elim, fun _ => ⟨x6, y6, ?_, fun i v hv => ?_⟩, h.f25, fun _ => ⟨x15, y15, fun e => (bf rfl e).elim⟩, fun _ => row_set hq⟩
  · simpa [World.setCell] using z6
  · have e : ∀ (W : World) (o : Nat) (c : Value), (W.setCell ⟨q15, o, none⟩ c).cell? ⟨g62, 0 + i, none⟩ = W.cell? ⟨g62, 0 + i, none⟩ := fun W o c => World.cell?_setCell_other _ _ _ _ (fun e => hne (by cases e; rfl))
    rw [e, e, e]
    exact t6 i v hv
end Go.Proofs.YteaoaglgoeichaaDoor
