/-
  fill.First: the pure part; a row's struct explicitly.
-/
import Derived.Test.YtgadfmknjpanpaaGreatDoorFu
import Derived.Test.YtgadfmknjpanpaaGreatDoorFx
namespace Go.Proofs.YtgadfmknjpanpaaGreatDoor
open Go.RowKit Go.Maps Go.BigFrame Go.Sort
set_option linter.unusedVariables false
set_option linter.unusedSimpArgs false
set_option maxRecDepth 100000

theorem lv_size {D : DataW Unit} {ks : List (List Int)} {f : List Int → Nat} (h : Lv D ks f) (hk : ∃ es, D = .map es ∧ es.Pairwise (fun p q => p.1 ≠ q.1) ∧ ∀ p ∈ es, WideAt.IsKeyLit p.1) : Maps.size D = 0 ↔ ks = [] := by
  obtain ⟨es, rfl, _, hkl⟩ := hk
  rw [Maps.size_eq]
  constructor
  · intro h0
    have he : es = [] := List.eq_nil_of_length_eq_zero h0
    subst he
    cases ks with
    | nil => rfl
    | cons l ks =>
      have := h.has_ l (h.wfk l (by simp))
      simp [Maps.has] at this
  · intro h0
    subst h0
    cases es with
    | nil => rfl
    | cons p es =>
      have h1 : Maps.has (.map (p :: es) : DataW Unit) p.1 = true := by
        rw [Maps.has_eq]
        simp [WideAt.sameKey_self (hkl p (by simp))]
      obtain ⟨l, hl, _⟩ := h.keys p.1 h1
      cases hl
/-- the lowest level is empty exactly if there is no stack -/
theorem lev_none (L : List (List Nat)) (adm : Nat → List Nat → Bool) (S N : List Nat → List Int) (H : Nat) (hH : 1 ≤ H) (ks : List (List Int)) (hn : ks.Nodup) (hz : ∀ l, l ∉ ks → levF L adm S N H H l = 0) (hp : ∀ l ∈ ks, 0 < levF L adm S N H H l) :
    ks = [] ↔ stk L adm S N H 0 none = [] := by
  have ht := lev_total L adm S N H hH ks hn hz
  rw [total_stk L adm S N H hH, csum_eq] at ht
  constructor
  · intro h0
    subst h0
    have h1 : min (stk L adm S N H 0 none).length cap = 0 := by rw [← ht]; rfl
    have hc : (0 : Nat) < cap := by unfold cap; omega
    exact List.eq_nil_of_length_eq_zero (by omega)
  · intro h0
    rw [h0] at ht
    cases ks with
    | nil => rfl
    | cons l ks =>
      have h1 := hp l (by simp)
      rw [List.map_cons, List.sum_cons] at ht
      have hc : (0 : Nat) < cap := by unfold cap; omega
      simp at ht
      omega
/-- what is picked by the levels is what is picked by the numbers of ways -/
theorem pick_ok (s : List Tl) (d : Ed) (wd h y k : Nat) (b' : Option (List Int)) (below : List Int) (hk : k + (y + 1) = h) (hb : (y = 0 ∧ b' = none) ∨ (0 < y ∧ b' = some below)) :
    (rws s wd).find? (okRow s d h y below (levF (rws s wd) (admE s d h) (south s) (north s) h (h - (y + 1)))) = pick (rws s wd) (admE s d h) (south s) (north s) k y b' := by
  unfold pick
  refine find_congr _ _ _ fun r hr => ?_
  unfold okRow
  have e1 : h - (y + 1) = k := by omega
  rw [e1, levF_ways (rws s wd) (admE s d h) (south s) (north s) h k (by omega) r hr, show h - k = y + 1 by omega]
  have hc : (0 : Nat) < cap := by unfold cap; omega
  have e2 : decide (0 < min (ways (rws s wd) (admE s d h) (south s) (north s) k (y + 1) (north s r)) cap) = decide (0 < ways (rws s wd) (admE s d h) (south s) (north s) k (y + 1) (north s r)) := by
    rw [decide_eq_decide]
    omega
  rw [e2]
  congr 1
  rcases hb with ⟨h1, h2⟩ | ⟨h1, h2⟩
  · rw [h2]; simp [stands, h1]
  · rw [h2]
    have : decide (y = 0) = false := by simp; omega
    rw [this]
    rfl
theorem row26 (s : List Tl) (r : List Nat) (h : r.length ≤ 8) : ∃ v : Nat → Int, rowA s r = #[.int .i64 (v 0), .int .i64 (v 1), .int .i64 (v 2), .int .i64 (v 3), .int .i64 (v 4), .int .i64 (v 5), .int .i64 (v 6), .int .i64 (v 7), .int .i64 (v 8), .int .i64 (v 9), .int .i64 (v 10), .int .i64 (v 11), .int .i64 (v 12), .int .i64 (v 13), .int .i64 (v 14), .int .i64 (v 15), .int .i64 (v 16), .int .i64 (v 17), .int .i64 (v 18), .int .i64 (v 19), .int .i64 (v 20), .int .i64 (v 21), .int .i64 (v 22), .int .i64 (v 23), .int .i64 (v 24), .int .i64 (v 25)] := by
  have hl := rowInts_len s r h
  have e := list_of_getD (rowInts s r) 26 0 hl
  refine ⟨fun i => (rowInts s r).getD i 0, ?_⟩
  generalize (fun i => (rowInts s r).getD i 0) = f at e ⊢
  unfold rowA rowV
  rw [← e]
  rfl
theorem sets26 {w : World} {q : Nat} {z0 z1 z2 z3 z4 z5 z6 z7 z8 z9 z10 z11 z12 z13 z14 z15 z16 z17 z18 z19 z20 z21 z22 z23 z24 z25 u0 u1 u2 u3 u4 u5 u6 u7 u8 u9 u10 u11 u12 u13 u14 u15 u16 u17 u18 u19 u20 u21 u22 u23 u24 u25 : Value} {t : TypeId} (h : w.heap[q]? = some (.cells #[z0, z1, z2, z3, z4, z5, z6, z7, z8, z9, z10, z11, z12, z13, z14, z15, z16, z17, z18, z19, z20, z21, z22, z23, z24, z25] t (0, 0))) :
    ((((((((((((((((((((((((((w.setCell ⟨q, 0, none⟩ u0).setCell ⟨q, 1, none⟩ u1).setCell ⟨q, 2, none⟩ u2).setCell ⟨q, 3, none⟩ u3).setCell ⟨q, 4, none⟩ u4).setCell ⟨q, 5, none⟩ u5).setCell ⟨q, 6, none⟩ u6).setCell ⟨q, 7, none⟩ u7).setCell ⟨q, 8, none⟩ u8).setCell ⟨q, 9, none⟩ u9).setCell ⟨q, 10, none⟩ u10).setCell ⟨q, 11, none⟩ u11).setCell ⟨q, 12, none⟩ u12).setCell ⟨q, 13, none⟩ u13).setCell ⟨q, 14, none⟩ u14).setCell ⟨q, 15, none⟩ u15).setCell ⟨q, 16, none⟩ u16).setCell ⟨q, 17, none⟩ u17).setCell ⟨q, 18, none⟩ u18).setCell ⟨q, 19, none⟩ u19).setCell ⟨q, 20, none⟩ u20).setCell ⟨q, 21, none⟩ u21).setCell ⟨q, 22, none⟩ u22).setCell ⟨q, 23, none⟩ u23).setCell ⟨q, 24, none⟩ u24).setCell ⟨q, 25, none⟩ u25).heap[q]? = some (.cells #[u0, u1, u2, u3, u4, u5, u6, u7, u8, u9, u10, u11, u12, u13, u14, u15, u16, u17, u18, u19, u20, u21, u22, u23, u24, u25] t (0, 0)) := by
  exact setCells_block q t [u0, u1, u2, u3, u4, u5, u6, u7, u8, u9, u10, u11, u12, u13, u14, u15, u16, u17, u18, u19, u20, u21, u22, u23, u24, u25] [] [z0, z1, z2, z3, z4, z5, z6, z7, z8, z9, z10, z11, z12, z13, z14, z15, z16, z17, z18, z19, z20, z21, z22, z23, z24, z25] w h rfl (Array.getElem?_eq_some_iff.1 h).1
theorem below26 {w0 w : World} {q : Nat} {u0 u1 u2 u3 u4 u5 u6 u7 u8 u9 u10 u11 u12 u13 u14 u15 u16 u17 u18 u19 u20 u21 u22 u23 u24 u25 : Value} (h : Below w0.heap.size w0 w) (hq : w0.heap.size ≤ q) : Below w0.heap.size w0 ((((((((((((((((((((((((((w.setCell ⟨q, 0, none⟩ u0).setCell ⟨q, 1, none⟩ u1).setCell ⟨q, 2, none⟩ u2).setCell ⟨q, 3, none⟩ u3).setCell ⟨q, 4, none⟩ u4).setCell ⟨q, 5, none⟩ u5).setCell ⟨q, 6, none⟩ u6).setCell ⟨q, 7, none⟩ u7).setCell ⟨q, 8, none⟩ u8).setCell ⟨q, 9, none⟩ u9).setCell ⟨q, 10, none⟩ u10).setCell ⟨q, 11, none⟩ u11).setCell ⟨q, 12, none⟩ u12).setCell ⟨q, 13, none⟩ u13).setCell ⟨q, 14, none⟩ u14).setCell ⟨q, 15, none⟩ u15).setCell ⟨q, 16, none⟩ u16).setCell ⟨q, 17, none⟩ u17).setCell ⟨q, 18, none⟩ u18).setCell ⟨q, 19, none⟩ u19).setCell ⟨q, 20, none⟩ u20).setCell ⟨q, 21, none⟩ u21).setCell ⟨q, 22, none⟩ u22).setCell ⟨q, 23, none⟩ u23).setCell ⟨q, 24, none⟩ u24).setCell ⟨q, 25, none⟩ u25) :=
  h.trans (below_of_grown (setCells_grown q [u0, u1, u2, u3, u4, u5, u6, u7, u8, u9, u10, u11, u12, u13, u14, u15, u16, u17, u18, u19, u20, u21, u22, u23, u24, u25] 0 w).1 hq h.size)
theorem cells26 {w : World} {q : Nat} {z0 z1 z2 z3 z4 z5 z6 z7 z8 z9 z10 z11 z12 z13 z14 z15 z16 z17 z18 z19 z20 z21 z22 z23 z24 z25 : Value} {t : TypeId} {fr : Nat × Nat} (h : w.heap[q]? = some (.cells #[z0, z1, z2, z3, z4, z5, z6, z7, z8, z9, z10, z11, z12, z13, z14, z15, z16, z17, z18, z19, z20, z21, z22, z23, z24, z25] t fr)) : w.cell? ⟨q, 0, none⟩ = some z0 ∧ w.cell? ⟨q, 1, none⟩ = some z1 ∧ w.cell? ⟨q, 2, none⟩ = some z2 ∧ w.cell? ⟨q, 3, none⟩ = some z3 ∧ w.cell? ⟨q, 4, none⟩ = some z4 ∧ w.cell? ⟨q, 5, none⟩ = some z5 ∧ w.cell? ⟨q, 6, none⟩ = some z6 ∧ w.cell? ⟨q, 7, none⟩ = some z7 ∧ w.cell? ⟨q, 8, none⟩ = some z8 ∧ w.cell? ⟨q, 9, none⟩ = some z9 ∧ w.cell? ⟨q, 10, none⟩ = some z10 ∧ w.cell? ⟨q, 11, none⟩ = some z11 ∧ w.cell? ⟨q, 12, none⟩ = some z12 ∧ w.cell? ⟨q, 13, none⟩ = some z13 ∧ w.cell? ⟨q, 14, none⟩ = some z14 ∧ w.cell? ⟨q, 15, none⟩ = some z15 ∧ w.cell? ⟨q, 16, none⟩ = some z16 ∧ w.cell? ⟨q, 17, none⟩ = some z17 ∧ w.cell? ⟨q, 18, none⟩ = some z18 ∧ w.cell? ⟨q, 19, none⟩ = some z19 ∧ w.cell? ⟨q, 20, none⟩ = some z20 ∧ w.cell? ⟨q, 21, none⟩ = some z21 ∧ w.cell? ⟨q, 22, none⟩ = some z22 ∧ w.cell? ⟨q, 23, none⟩ = some z23 ∧ w.cell? ⟨q, 24, none⟩ = some z24 ∧ w.cell? ⟨q, 25, none⟩ = some z25 := by
  refine ⟨?_, ?_, ?_, ?_, ?_, ?_, ?_, ?_, ?_, ?_, ?_, ?_, ?_, ?_, ?_, ?_, ?_, ?_, ?_, ?_, ?_, ?_, ?_, ?_, ?_, ?_⟩ <;> simp [World.cell?, h]
/-- what First returns -/
def IsFirstRes (s : List Tl) (wd hg : Int) (d : Ed) (W : World) (e : Ending) (w' : World) : Prop :=
  Below W.heap.size W w' ∧
  if checkE s wd hg d.n.length d.e.length d.s.length d.w.length ≠ 0 then e = .returned (.tuple #[.agg #[.int .i64 0, .int .i64 0, .slice none 0 0], .int .i64 (checkE s wd hg d.n.length d.e.length d.s.length d.w.length)])
  else match firstE s wd.toNat hg.toNat d with
    | none => e = .returned (.tuple #[.agg #[.int .i64 0, .int .i64 0, .slice none 0 0], .int .i64 6])
    | some c => ∃ v, e = .returned (.tuple #[.agg #[.int .i64 wd, .int .i64 hg, v], .int .i64 0]) ∧ w'.ownsRow W.heap.size 3 1 v c.length (vals (idxI c))
end Go.Proofs.YtgadfmknjpanpaaGreatDoor
