/-
  't[i] = append(t[i], j)' over a table of rows: the invariant of the region that draws its order. No operation is walked here.
-/
import Derived.Test.YthjponagoahdhaaDoorTo
import Derived.Test.YthjponagoahdhaaDoorIv
namespace Go.Proofs.YthjponagoahdhaaDoor
open Go.RowKit Go.Maps Go.BigFrame Go.Sort
set_option linter.unusedVariables false
set_option linter.unusedSimpArgs false

/-- the operations whose value does not hang on what came before -/
def qb (i : Nat) : Prop := i ≤ 13 ∧ i ≠ 11 ∧ i ≠ 12
theorem qb_of {i : Nat} (h : (Nat.ble i 13 && (!Nat.beq i 11 && !Nat.beq i 12)) = true) : qb i := by
  simp only [Bool.and_eq_true, Nat.ble_eq, Bool.not_eq_true'] at h
  obtain ⟨a, b, c⟩ := h
  exact ⟨a, (fun h => by rw [h] at b; cases b), (fun h => by rw [h] at c; cases c)⟩
theorem bfB {b : Bool} (h : b = true) (h' : b = false) : False := by rw [h] at h'; cases h'
structure RB (tI : TypeId) (wz : World) (O nl so nL : Nat) (vl : Value) (j : Nat) (F : Nat → List Nat) (cv : Nat → Value) (d : Nat → Bool) (u : Nat → Value) (q : Nat) (w : World) : Prop where
  gr : d 14 = false → wz.grownBy w vl.ownBlock
  cl12 : d 12 = true → d 11 = true
  cl14 : d 14 = true → ∀ k, k < 14 → d k = true
  con : ∀ i, qb i → d i = true → u (58 + i) = cv i
  o0 : d 12 = false → OvT w O O nl F ∧ Below wz.heap.size wz w
  f11 : d 11 = true → d 12 = false → u 69 = .slice (some ⟨q, 0, none⟩) 1 1 ∧ w.heap[q]? = some (.cells #[.int .i64 (j : Int)] tI (0, 0))
  f12 : d 12 = true → d 14 = false → (∃ A c, u 70 = .slice A (nL + 1) c) ∧ w.cell? ⟨O, so, none⟩ = some vl ∧ w.frozen? ⟨O, so, none⟩ = false ∧ OvT (w.setCell ⟨O, so, none⟩ (u 70)) O O nl fun l => if l = so then F so ++ [j] else F l
  f14 : d 14 = true → OvT w O O nl (fun l => if l = so then F so ++ [j] else F l) ∧ Below O wz w
variable {tI : TypeId} {wz w w' : World} {O nl so nL : Nat} {vl : Value} {j : Nat} {F : Nat → List Nat} {cv : Nat → Value} {d : Nat → Bool} {u : Nat → Value} {q : Nat}
theorem RB.start (u : Nat → Value) (q : Nat) (hb : Below wz.heap.size wz w) (ho : OvT w O O nl F) : RB tI wz O nl so nL vl j F cv (fun _ => false) u q w where
  gr _ := grown_of_below hb _
  cl12 h := by cases h
  cl14 h := by cases h
  con _ _ h := by cases h
  o0 _ := ⟨ho, hb⟩
  f11 h := by cases h
  f12 h := by cases h
  f14 h := by cases h
theorem RB.no14 (h : RB tI wz O nl so nL vl j F cv d u q w) {i : Nat} (hi : i < 14) (hd : d i = false) : d 14 = false := by
  cases e : d 14
  · rfl
  · exact (bfB (h.cl14 e i hi) hd).elim
theorem RB.quiet (h : RB tI wz O nl so nL vl j F cv d u q w) (i : Nat) (hi : qb i) (hd : d i = false) : RB tI wz O nl so nL vl j F cv (updD d i) (updU u (58 + i) (cv i)) q w := by
  have h14 := h.no14 (i := i) (by unfold qb at hi; omega) hd
  unfold qb at hi
  have e11 : updD d i 11 = d 11 := updD_ne (by omega)
  have e12 : updD d i 12 = d 12 := updD_ne (by omega)
  have e14 : updD d i 14 = d 14 := updD_ne (by omega)
  have v11 : updU u (58 + i) (cv i) 69 = u 69 := updU_ne (by omega)
  have v12 : updU u (58 + i) (cv i) 70 = u 70 := updU_ne (by omega)
  refine ⟨?_, ?_, ?_, ?_, ?_, ?_, ?_, ?_⟩
  · rw [e14]; exact h.gr
  · rw [e11, e12]; exact h.cl12
  · rw [e14, h14]; intro e; cases e
  · intro k hk hd'
    by_cases e : k = i
    · subst e; exact updU_same _ _ _
    · rw [updU_ne (by omega)]
      rw [updD_ne e] at hd'
      exact h.con k hk hd'
  · rw [e12]; exact h.o0
  · rw [e11, e12, v11]; exact h.f11
  · rw [e12, e14, v12]; exact h.f12
  · rw [e14, h14]; intro e; cases e
theorem conB_keep {i k : Nat} {v : Value} (hc : ∀ i, qb i → d i = true → u (58 + i) = cv i) (hi : ¬ qb i) (hk : ∀ m, qb m → 58 + m ≠ k) : ∀ m, qb m → updD d i m = true → updU u k v (58 + m) = cv m := fun m hm hd => by
  rw [updU_ne (hk m hm)]
  rw [updD_ne (fun e => hi (by rw [← e]; exact hm))] at hd
  exact hc m hm hd
/-- '[]int{j}' -/
theorem RB.s11 (h : RB tI wz O nl so nL vl j F cv d u q w) (hd : d 11 = false) : RB tI wz O nl so nL vl j F cv (updD d 11) (updU u 69 (.slice (some ⟨w.heap.size, 0, none⟩) 1 1)) w.heap.size (w.alloc (.cells #[.int .i64 (j : Int)] tI)) := by
  have h14 := h.no14 (i := 11) (by omega) hd
  have h12 : d 12 = false := by cases e : d 12; rfl; exact (bfB (h.cl12 e) hd).elim
  obtain ⟨o1, o2⟩ := h.o0 h12
  have e14 : updD d 11 14 = false := by rw [updD_ne (by omega)]; exact h14
  have e12 : updD d 11 12 = false := by rw [updD_ne (by omega)]; exact h12
  refine ⟨fun _ => ((h.gr h14).trans (World.grownBy_alloc w _ _)), fun e => (bfB e e12).elim, fun e => (bfB e e14).elim, conB_keep h.con (by unfold qb; omega) (by unfold qb; omega), fun _ => ⟨o1.keep ((Below.refl _ _).alloc (Nat.le_refl _) _), o2.alloc o2.size _⟩, fun _ _ => ⟨updU_same _ _ _, heap_alloc_new _ _⟩, fun e => (bfB e e12).elim, fun e => (bfB e e14).elim⟩
/-- the append -/
theorem RB.s12 (h : RB tI wz O nl so nL vl j F cv d u q w) (hd : d 12 = false) (h11 : d 11 = true) (hso : so < nl) (hc : wz.cell? ⟨O, so, none⟩ = some vl) (hO : O < wz.heap.size) {A : Option Addr} {c : Nat}
    (hown : w'.ownsRow O 3 1 (.slice A (nL + 1) c) (F so ++ [j]).length (vals (idxI (F so ++ [j])))) (hg : w.grownBy w' vl.ownBlock) (hat : (Value.slice A (nL + 1) c).ownBlock = vl.ownBlock ∨ (Value.slice A (nL + 1) c).ownBlock = some w.heap.size) (hne : vl.ownBlock ≠ some O) :
    RB tI wz O nl so nL vl j F cv (updD d 12) (updU u 70 (.slice A (nL + 1) c)) q w' := by
  have h14 := h.no14 (i := 12) (by omega) hd
  obtain ⟨o1, o2⟩ := h.o0 hd
  have e14 : updD d 12 14 = false := by rw [updD_ne (by omega)]; exact h14
  have e12 : updD d 12 12 = true := updD_same _ _
  have hcw : w.cell? ⟨O, so, none⟩ = some vl := (o2.cell (p := ⟨O, so, none⟩) hO).trans hc
  have hp := o1.push hso hcw hg hown (hat.imp id fun e => ⟨_, e, Nat.le_refl _⟩)
  have hOw : O < w.heap.size := o1.lt
  refine ⟨fun _ => (h.gr h14).trans hg, fun _ => by rw [updD_ne (by omega)]; exact h11, fun e => (bfB e e14).elim, conB_keep h.con (by unfold qb; omega) (by unfold qb; omega), fun e => (bfB e12 e).elim, fun _ e => (bfB e12 e).elim, fun _ _ => ⟨⟨A, c, updU_same _ _ _⟩, ?_, ?_, ?_⟩, fun e => (bfB e e14).elim⟩
  · exact (World.cell?_of_block (hg.block O hOw (fun e => hne e.symm))).trans hcw
  · exact (World.frozen?_of_block (hg.block O hOw (fun e => hne e.symm))).trans (o1.fr so)
  · rw [updU_same]; exact hp
/-- the store -/
theorem RB.s14 (h : RB tI wz O nl so nL vl j F cv d u q w) (hd : d 14 = false) (hall : ∀ k, k < 14 → d k = true) (hle : ∀ g, vl.ownBlock = some g → O ≤ g) (hO : O < wz.heap.size) :
    RB tI wz O nl so nL vl j F cv (updD d 14) u q (w.setCell ⟨O, so, none⟩ (u 70)) := by
  obtain ⟨-, -, -, ho⟩ := h.f12 (hall 12 (by omega)) hd
  have e14 : updD d 14 14 = true := updD_same _ _
  have hall' : ∀ k, k < 14 → updD d 14 k = true := fun k hk => by rw [updD_ne (by omega)]; exact hall k hk
  have hgr := h.gr hd
  refine ⟨fun e => (bfB e14 e).elim, fun _ => hall' 11 (by omega), fun _ => hall', fun i hi hd' => h.con i hi (hall i (by unfold qb at hi; omega)), fun e => (bfB (hall' 12 (by omega)) e).elim, fun _ e => (bfB (hall' 12 (by omega)) e).elim, fun _ e => (bfB e14 e).elim, fun _ => ⟨ho, ?_⟩⟩
  have hb : Below O wz w := (Below.refl O wz).grown hgr (Nat.le_of_lt hO) hle
  exact hb.grown (grown_one w O so _) (Nat.le_trans (Nat.le_of_lt hO) hgr.size) fun g e => by cases e; exact Nat.le_refl _
end Go.Proofs.YthjponagoahdhaaDoor
