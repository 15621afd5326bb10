/-
  The small functions of package tile: their contracts.
  Words for what a set and a pattern are in memory; hasForm, cell, refers.
  A map of tiles that a call makes: the tiles seen so far.
  tile.Valid: which sets are valid.
  A region that draws its order, whose operations read and whose callees make memory: one walk, over every later world. tile.cell of a pattern; tile.agrees.
  A region that draws its order and ends in operations that wait for all the others (a store, an append): one walk of the first n operations, over every later world; then the rest, in its order.
-/
import Derived.Test.YtgadfmknjpanpaaDoorProg
import Derived.Test.YtgadfmknjpanpaaDoorPure
import Derived.WalkKit
import Derived.WalkSpells
import Derived.WalkLawsBesides
import Derived.BigQuiet
import Derived.Lib.Hide
import Derived.Deep.Draws
import Derived.Maps.OwnSet
import Derived.Maps.OwnOps
import Derived.DeepKeys4
import Derived.MapViews
import Derived.Lib.SmallJoins
import Derived.StillTail
namespace Go.Proofs.YtgadfmknjpanpaaDoor
section
open Go.RowKit

theorem ret_bool {a b : Bool} (h : a = b) : Ending.returned (.bool a) = .returned (.bool b) := by rw [h]

theorem isColour_any (x : Int) (w : World) :
    Calls Tryd.prog 60 #[.int .i64 x] w fun e w' => e = .returned (.bool (okc x)) ∧ w = w' := by
  by_cases h0 : 0 ≤ x
  · by_cases h1 : x < 1000
    · go_enter Tryd.func60, Tryd.ntmps60
      go_wp2
      go_ret
      exact ⟨ret_bool (by simp [okc, h0, h1]), rfl⟩
    · go_enter Tryd.func60, Tryd.ntmps60
      go_wp2
      go_ret
      exact ⟨ret_bool (by simp [okc]; omega), rfl⟩
  · go_enter Tryd.func60, Tryd.ntmps60
    go_wp2
    go_ret
    exact ⟨ret_bool (by simp [okc]; omega), rfl⟩

/-- a tile as a value -/
def tv (t : Tl) : Value := .agg #[.int .i64 t.n, .int .i64 t.e, .int .i64 t.s, .int .i64 t.w]

theorem coloured_any (t : Tl) (w : World) :
    Calls Tryd.prog 47 #[.agg #[.int .i64 t.n, .int .i64 t.e, .int .i64 t.s, .int .i64 t.w]] w fun e w' => e = .returned (.bool (okt t)) ∧ Below w.heap.size w w' := by
  obtain ⟨n, e, s, v⟩ := t
  cases h0 : okc n
  · go_enter Tryd.func47, Tryd.ntmps47
    go_wp2_with (go_at_call 60; refine (isColour_any _ _).mono ?_; rintro e w' ⟨rfl, rfl⟩)
    go_ret
    exact ⟨ret_bool (by simp [okt, h0]), (Below.refl _ _).alloc (Nat.le_refl _) _⟩
  cases h1 : okc e
  · go_enter Tryd.func47, Tryd.ntmps47
    go_wp2_with (go_at_call 60; refine (isColour_any _ _).mono ?_; rintro e w' ⟨rfl, rfl⟩)
    go_ret
    exact ⟨ret_bool (by simp [okt, h1]), (Below.refl _ _).alloc (Nat.le_refl _) _⟩
  cases h2 : okc s
  · go_enter Tryd.func47, Tryd.ntmps47
    go_wp2_with (go_at_call 60; refine (isColour_any _ _).mono ?_; rintro e w' ⟨rfl, rfl⟩)
    go_ret
    exact ⟨ret_bool (by simp [okt, h2]), (Below.refl _ _).alloc (Nat.le_refl _) _⟩
  · go_enter Tryd.func47, Tryd.ntmps47
    go_wp2_with (go_at_call 60; refine (isColour_any _ _).mono ?_; rintro e w' ⟨rfl, rfl⟩)
    go_ret
    exact ⟨ret_bool (by simp [okt, h0, h1, h2]), (Below.refl _ _).alloc (Nat.le_refl _) _⟩

def incl (a b : Int) : Bool := decide (1 ≤ a ∧ 1 ≤ b ∧ a * b ≤ 40000)

theorem inCells_any (a b : Int) (w : World) :
    Calls Tryd.prog 52 #[.int .i64 a, .int .i64 b] w fun e w' => e = .returned (.bool (incl a b)) ∧ w = w' := by
  by_cases h0 : 1 ≤ a
  · by_cases h1 : 1 ≤ b
    · have hq : 0 ≤ 40000 / a := Int.ediv_nonneg (by omega) (by omega)
      have hq2 : 40000 / a ≤ 40000 := Int.ediv_le_self _ (by omega)
      have hd : (b ≤ 40000 / a) ↔ a * b ≤ 40000 := by rw [Int.le_ediv_iff_mul_le (by omega), Int.mul_comm]
      go_enter Tryd.func52, Tryd.ntmps52
      go_wp2
      go_ret
      exact ⟨ret_bool (by unfold incl; rw [decide_eq_decide]; omega), rfl⟩
    · go_enter Tryd.func52, Tryd.ntmps52
      go_wp2
      go_ret
      exact ⟨ret_bool (decide_eq_false (by omega)).symm, rfl⟩
  · go_enter Tryd.func52, Tryd.ntmps52
    go_wp2
    go_ret
    exact ⟨ret_bool (decide_eq_false (by omega)).symm, rfl⟩
end
section
open Go.RowKit
set_option linter.unusedVariables false

/-- A row of integers below block B. -/
def IntsIn (w : World) (B : Nat) (A : Option Addr) (cs : List Int) : Prop :=
  cs ≠ [] → ∃ b off, A = some ⟨b, off, none⟩ ∧ b < B ∧ ∀ i, i < cs.length → w.cell? ⟨b, off + i, none⟩ = some (.int .i64 (cs.getD i 0))
/-- A row of tiles below block B, each colour an int's number. -/
def SetIn (w : World) (B : Nat) (A : Option Addr) (s : List Tl) : Prop :=
  s ≠ [] → ∃ b off, A = some ⟨b, off, none⟩ ∧ b < B ∧ ∀ i, i < s.length →
    w.cell? ⟨b, off + i * 4, none⟩ = some (.int .i64 (s.getD i ⟨0, 0, 0, 0⟩).n) ∧ w.cell? ⟨b, off + i * 4 + 1, none⟩ = some (.int .i64 (s.getD i ⟨0, 0, 0, 0⟩).e) ∧
    w.cell? ⟨b, off + i * 4 + 2, none⟩ = some (.int .i64 (s.getD i ⟨0, 0, 0, 0⟩).s) ∧ w.cell? ⟨b, off + i * 4 + 3, none⟩ = some (.int .i64 (s.getD i ⟨0, 0, 0, 0⟩).w)

theorem IntsIn.keep {w w' : World} {B B' : Nat} {A : Option Addr} {cs : List Int} (h : IntsIn w B A cs) (hb : Below B w w') (hB : B ≤ B') : IntsIn w' B' A cs := fun hn => by
  obtain ⟨b, off, hA, hlt, hc⟩ := h hn
  exact ⟨b, off, hA, by omega, fun i hi => (hb.cell (p := ⟨b, off + i, none⟩) hlt).trans (hc i hi)⟩
theorem SetIn.keep {w w' : World} {B B' : Nat} {A : Option Addr} {s : List Tl} (h : SetIn w B A s) (hb : Below B w w') (hB : B ≤ B') : SetIn w' B' A s := fun hn => by
  obtain ⟨b, off, hA, hlt, hc⟩ := h hn
  refine ⟨b, off, hA, by omega, fun i hi => ?_⟩
  obtain ⟨h0, h1, h2, h3⟩ := hc i hi
  exact ⟨(hb.cell (p := ⟨b, _, none⟩) hlt).trans h0, (hb.cell (p := ⟨b, _, none⟩) hlt).trans h1, (hb.cell (p := ⟨b, _, none⟩) hlt).trans h2, (hb.cell (p := ⟨b, _, none⟩) hlt).trans h3⟩

theorem hasForm_any (a b : Int) (A : Option Addr) (n c : Nat) (w : World) (hn : n ≤ 9223372036854775807) :
    Calls Tryd.prog 40 #[.agg #[.int .i64 a, .int .i64 b, .slice A n c]] w fun e w' => e = .returned (.bool (incl a b && decide ((n : Int) = a * b))) ∧ Below w.heap.size w w' := by
  cases h0 : incl a b
  · go_enter Tryd.func40, Tryd.ntmps40
    go_wp2_with (go_at_call 52; refine (inCells_any _ _ _).mono ?_; rintro e w' ⟨rfl, rfl⟩)
    go_ret
    exact ⟨ret_bool (by simp), (Below.refl _ _).alloc (Nat.le_refl _) _⟩
  · have hi := h0
    unfold incl at hi
    rw [decide_eq_true_eq] at hi
    obtain ⟨h1, h2, h3⟩ := hi
    have h4 : 0 ≤ a * b := Int.mul_nonneg (by omega) (by omega)
    go_enter Tryd.func40, Tryd.ntmps40
    go_wp2_with (go_at_call 52; refine (inCells_any _ _ _).mono ?_; rintro e w' ⟨rfl, rfl⟩)
    go_ret
    exact ⟨ret_bool (by simp; rfl), (Below.refl _ _).alloc (Nat.le_refl _) _⟩

theorem cell_any (a b x y v : Int) (A : Option Addr) (n c bk off : Nat) (w : World) (hA : A = some ⟨bk, off, none⟩) (hlt : bk < w.heap.size)
    (ha : 1 ≤ a) (hb : 1 ≤ b) (hx : 0 ≤ x) (hy : 0 ≤ y) (hn : (n : Int) = a * b) (hab : a * b ≤ 40000)
    (hc : w.cell? ⟨bk, off + (y % b * a + x % a).toNat, none⟩ = some (.int .i64 v)) :
    Calls Tryd.prog 53 #[.agg #[.int .i64 a, .int .i64 b, .slice A n c], .int .i64 x, .int .i64 y] w fun e w' => e = .returned (.int .i64 v) ∧ Below w.heap.size w w' := by
  subst hA
  have h1 := Int.emod_nonneg x (show a ≠ 0 by omega)
  have h2 := Int.emod_lt_of_pos x (show 0 < a by omega)
  have h3 := Int.emod_nonneg y (show b ≠ 0 by omega)
  have h4 := Int.emod_lt_of_pos y (show 0 < b by omega)
  have h5 : 0 ≤ y % b * a := Int.mul_nonneg (by omega) (by omega)
  have h6 : (y % b + 1) * a ≤ b * a := Int.mul_le_mul_of_nonneg_right (by omega) (by omega)
  rw [Int.add_mul, Int.mul_comm b a, Int.one_mul] at h6
  have h7 : 0 ≤ y % b * a + x % a := by omega
  have h8 : y % b * a + x % a < (n : Int) := by omega
  have h9 : a ≤ 40000 := by
    have : a * 1 ≤ a * b := Int.mul_le_mul_of_nonneg_left (by omega) (by omega)
    omega
  have hn' : (n : Int) ≤ 40000 := by omega
  clear hn
  go_enter Tryd.func53, Tryd.ntmps53
  go_wp2
  go_quiet (fail)
  go_wp2
  go_ret
  exact ⟨rfl, ((Below.refl _ _).alloc (Nat.le_refl _) _).trans ⟨rfl, rfl, rfl, by simp, fun _ _ => rfl⟩⟩

theorem all_take {α : Type} (f : α → Bool) (l : List α) (k : Nat) (hk : k < l.length) (d : α) (h : (l.take k).all f = true) (hv : f (l.getD k d) = true) : (l.take (k + 1)).all f = true := by
  rw [List.take_succ_eq_append_getElem hk, List.all_append, h]
  rw [List.getD_eq_getElem?_getD, List.getElem?_eq_getElem hk] at hv
  simpa using hv
theorem all_bad {α : Type} (f : α → Bool) (l : List α) (k : Nat) (hk : k < l.length) (d : α) (hv : f (l.getD k d) = false) : l.all f = false := by
  rw [List.getD_eq_getElem?_getD, List.getElem?_eq_getElem hk] at hv
  rw [List.all_eq_false]
  exact ⟨_, List.getElem_mem hk, by simpa using hv⟩
theorem ne_nil_of_lt {α : Type} {l : List α} {k : Nat} (h : k < l.length) : l ≠ [] := by intro e; rw [e] at h; simp at h

/-- an index of a set of m tiles -/
def isIdx (m : Nat) (i : Int) : Bool := decide (0 ≤ i ∧ i < (m : Int))

set_option maxHeartbeats 400000 in
theorem refers_any (a b : Int) (A S : Option Addr) (cs : List Int) (m c d : Nat) (w : World) (hp : IntsIn w w.heap.size A cs) (hl : cs.length ≤ 9223372036854775807) (hm : m ≤ 9223372036854775807) :
    Calls Tryd.prog 41 #[.slice S m d, .agg #[.int .i64 a, .int .i64 b, .slice A cs.length c]] w fun e w' => e = .returned (.bool (cs.all (isIdx m))) ∧ Below w.heap.size w w' := by
  obtain ⟨n, hn⟩ : ∃ n, n = cs.length := ⟨_, rfl⟩
  have hl' : n ≤ 9223372036854775807 := by omega
  rw [← hn]
  have HN := Lib.hid hn
  clear hn hl
  go_enter Tryd.func41, Tryd.ntmps41
  go_wp2
  go_loop [6, 10] (fun _ i => ∃ k : Nat, k ≤ n ∧ i = .int .i64 k ∧ Hid ((cs.take k).all (isIdx m) = true)) (fun _ i => n - (intOf i).toNat)
  case atStart => exact ⟨0, Nat.zero_le _, rfl, by simp [Hid]⟩
  case round =>
    obtain ⟨k, hk, rfl, hall⟩ := hrel
    by_cases hlt : k < n
    · have hkc : k < cs.length := by rw [← HN.out]; exact hlt
      obtain ⟨bk, off, rfl, hbk, hc⟩ := hp (ne_nil_of_lt hkc)
      obtain ⟨v, hv⟩ : ∃ v, v = cs.getD k 0 := ⟨_, rfl⟩
      have hcell : w.cell? ⟨bk, off + k, none⟩ = some (.int .i64 v) := by rw [hv]; exact hc k hkc
      have HV := Lib.hid hv
      clear hv hc hp
      by_cases h0 : 0 ≤ v
      · by_cases h1 : v < (m : Int)
        · have HK : Hid ((cs.take (k + 1)).all (isIdx m) = true) := all_take _ _ k hkc 0 hall.out (by rw [← HV.out]; simp [isIdx, h0, h1])
          clear hkc hall
          go_wp2
          go_round
          case rel => exact ⟨k + 1, by omega, by go_num, HK⟩
          case measure => simp [intOf]; omega
        · have HK : Hid (cs.all (isIdx m) = false) := all_bad _ _ k hkc 0 (by rw [← HV.out]; simp [isIdx]; omega)
          clear hkc hall
          go_wp2
          go_ret
          exact ⟨ret_bool HK.out.symm, (Below.refl _ _).alloc (Nat.le_refl _) _⟩
      · have HK : Hid (cs.all (isIdx m) = false) := all_bad _ _ k hkc 0 (by rw [← HV.out]; simp [isIdx]; omega)
        clear hkc hall
        go_wp2
        go_ret
        exact ⟨ret_bool HK.out.symm, (Below.refl _ _).alloc (Nat.le_refl _) _⟩
    · have HK : Hid (cs.all (isIdx m) = true) := by
        have := hall.out
        rw [List.take_of_length_le (by rw [← HN.out]; omega)] at this
        exact this
      clear hall
      go_wp2
      go_ret
      exact ⟨ret_bool HK.out.symm, (Below.refl _ _).alloc (Nat.le_refl _) _⟩
end
section
open Go.RowKit Go.Maps
set_option linter.unusedVariables false
set_option maxRecDepth 100000

theorem tile_laidOut : laidOutB Tryd.prog = true := by kernel_rfl
theorem tile_row : (53 : TypeId) < Tryd.prog.types.size := of_decide_eq_true (by kernel_rfl)
theorem tile_cells : Tryd.prog.cellsOf 53 = 4 := by kernel_rfl
theorem tile_deep : Tryd.prog.keyTypeAt (Tryd.prog.types.size + 1) 53 = true := by kernel_rfl
theorem tile_wide : (match Tryd.prog.underlying 53 with | some (.array _ _) | some (.struct _) => true | _ => false) = true := by kernel_rfl
theorem tile_law : Keyed Tryd.prog 53 := Keyed.of_law (deep_law_laid tile_laidOut (m := 2) (by omega) tile_row (by kernel_rfl) tile_wide)
theorem zero_bool (w : World) : (zeroValue 4).run Tryd.prog w = .ok (.bool false) w := by kernel_rfl

def twf (t : Tl) : Prop := (Lit.int .i64 t.n).wf = true ∧ (Lit.int .i64 t.e).wf = true ∧ (Lit.int .i64 t.s).wf = true ∧ (Lit.int .i64 t.w).wf = true
/-- what a tile reads as, as a key -/
def kl (t : Tl) : Lit := (DataW.agg [.lit (.int .i64 t.n), .lit (.int .i64 t.e), .lit (.int .i64 t.s), .lit (.int .i64 t.w)] : DataW Unit).asKey

theorem keyOf_tile (t : Tl) (h : twf t) : keyOf Tryd.prog 53 (.agg #[.int .i64 t.n, .int .i64 t.e, .int .i64 t.s, .int .i64 t.w]) = some (kl t) := by
  obtain ⟨h0, h1, h2, h3⟩ := h
  have ht : DataW.Trod (H := Unit) (fun _ => ()) Tryd.prog (default : World) 0 (fun _ => true) true 53 (.agg #[.int .i64 t.n, .int .i64 t.e, .int .i64 t.s, .int .i64 t.w])
      (.agg [.lit (.int .i64 t.n), .lit (.int .i64 t.e), .lit (.int .i64 t.s), .lit (.int .i64 t.w)]) [] :=
    Joins.shut_agg4 (y0 := (.lit (.int .i64 t.n), [])) (y1 := (.lit (.int .i64 t.e), [])) (y2 := (.lit (.int .i64 t.s), [])) (y3 := (.lit (.int .i64 t.w), [])) Tryd.underlying53 (by kernel_rfl) tile_cells
      ⟨1, by simp [DataW.trod, Tryd.underlying3, h0]⟩ ⟨1, by simp [DataW.trod, Tryd.underlying3, h1]⟩ ⟨1, by simp [DataW.trod, Tryd.underlying3, h2]⟩ ⟨1, by simp [DataW.trod, Tryd.underlying3, h3]⟩
  exact (keyOf_asKey tile_deep tile_wide (by simp [Value.formed, Tryd.underlying53, tile_cells]) ht).1
theorem kl_inj {t u : Tl} (h : twf t) (h' : twf u) (e : kl t = kl u) : t = u := by
  have h1 := keyOf_tile t h
  have h2 := keyOf_tile u h'
  rw [e] at h1
  have := tile_law.inj h1 h2
  obtain ⟨a, b, c, d⟩ := t
  obtain ⟨a', b', c', d'⟩ := u
  simpa using this
theorem kl_key {t : Tl} (h : twf t) : WideAt.IsKeyLit (kl t) := tile_law.key (keyOf_tile t h)

theorem at_fold {H : Type} (u z : DataW H) (k : Lit) (hk : WideAt.IsKeyLit k) : ∀ (acc : List Lit) (m : DataW H), IsMap m → (∀ x ∈ acc, WideAt.IsKeyLit x) →
    (acc.foldl (fun m x => m.put x u) m).atKey k z = if acc.any (fun x => x.sameKey k) then u else m.atKey k z
  | [], m, _, _ => by simp
  | x :: acc, m, hm, hx => by
    simp only [List.foldl_cons, List.any_cons]
    rw [at_fold u z k hk acc (m.put x u) (hm.put x u) (fun y hy => hx y (by simp [hy]))]
    by_cases e : x = k
    · subst e
      simp [WideAt.sameKey_self hk, atKey_put_same hm hk]
    · simp [sameKey_ne e, atKey_put_other (D := m) (fun h : k = x => e h.symm)]
theorem at_setOf {H : Type} (u z : DataW H) (k : Lit) (hk : WideAt.IsKeyLit k) (acc : List Lit) (h : ∀ x ∈ acc, WideAt.IsKeyLit x) : (setOf u acc).atKey k z = if acc.any (fun x => x.sameKey k) then u else z := by
  unfold setOf
  rw [at_fold u z k hk acc _ isMap_empty h, atKey_of_not_has (by simp [Maps.has])]
/-- the tiles seen, as a map -/
def seen (l : List Tl) : DataW Unit := setOf (.lit (.bool true)) (l.map kl)
theorem seen_at (l : List Tl) (t : Tl) (hl : ∀ u ∈ l, twf u) (ht : twf t) : (seen l).atKey (kl t) (.lit (.bool false)) = .lit (.bool (decide (t ∈ l))) := by
  unfold seen
  rw [at_setOf _ _ _ (kl_key ht) _ (fun x hx => by obtain ⟨u, hu, rfl⟩ := List.mem_map.1 hx; exact kl_key (hl u hu))]
  by_cases h : t ∈ l
  · rw [if_pos (by rw [List.any_eq_true]; exact ⟨kl t, List.mem_map.2 ⟨t, h, rfl⟩, WideAt.sameKey_self (kl_key ht)⟩)]
    simp [h]
  · rw [if_neg (by
      rw [List.any_eq_true]
      rintro ⟨x, hx, hs⟩
      obtain ⟨u, hu, rfl⟩ := List.mem_map.1 hx
      exact h (kl_inj (hl u hu) ht (WideAt.sameKey_eq hs) ▸ hu))]
    simp [h]
theorem seen_snoc (l : List Tl) (t : Tl) : seen (l ++ [t]) = (seen l).put (kl t) (.lit (.bool true)) := by
  unfold seen
  rw [List.map_append]
  exact setOf_snoc _ _ _
theorem plainElem_bool_inv {H : Type} {P : Program} {e : TypeId} (he : P.underlying e = some .bool) {v : Value} {z : DataW H × List MemPlace} (h : plainElem P e v = some z) : ∃ x, v = .bool x ∧ z = (.lit (.bool x), []) := by
  unfold plainElem at h
  rw [he] at h
  cases v <;> simp at h
  exact ⟨_, rfl, h.symm⟩
/-- 'm[k]' at elements that are bools, in a map that the call made. -/
theorem wpList_lookup_own_bool {H : Type} {P : Program} (w : World) {ops : Array Oper} {rest : List Oper} {o : Oper} {a : Act} {Q : Exit → Act → World → Prop}
    (hg : o.guard = none) (m x : Operand) (t : TypeId) (hop : o.op = Op.lookup t m x false)
    (k e : TypeId) (K : Keyed P k) (ht : P.underlying t = some (.map k e)) (he : P.underlying e = some .bool) (hz : (zeroValue e).run P w = .ok (.bool false) w) (b n : Nat) (D : DataW H)
    (hm : a.eval m = .map (some b)) (hown : w.ownsMap P k (plainElem P e) b n D) (key : Value) (kl : Lit) (hx : a.eval x = key) (hkey : keyOf P k key = some kl)
    (c : Bool) (hat : D.atKey kl (.lit (.bool false)) = .lit (.bool c)) (hK : wpList P ops Q rest (a.put o.dst (.bool c)) w) :
    wpList P ops Q (o :: rest) a w := by
  refine wpList_plain hg fun K' hK' => ?_
  obtain ⟨v, ps, hrun, hv⟩ := hown.lookup K ht hz (plainElem_bool he false) hkey
  obtain ⟨c', rfl, hc⟩ := plainElem_bool_inv he hv
  simp only [Prod.mk.injEq] at hc
  have : c' = c := by
    have h := hc.1.symm.trans hat
    injection h with h
    injection h
  subst this
  unfold Oper.wp
  simp [execOp, hop, hm, hx, hrun, Result.andThen]
  exact hK' _ _ hK
theorem grown_of_below {a w : World} (h : Below a.heap.size a w) (row : Option Nat) : a.grownBy w row := ⟨h.os, h.tape, h.output, h.size, fun i hi _ => h.block i hi⟩
theorem bcell {W w1 : World} (hb : Below W.heap.size W w1) : (∀ b o, b < W.heap.size → w1.cell? ⟨b, o, none⟩ = W.cell? ⟨b, o, none⟩) ∧ (∀ b o, b < W.heap.size → w1.frozen? ⟨b, o, none⟩ = W.frozen? ⟨b, o, none⟩) :=
  ⟨fun b o h => hb.cell (p := ⟨b, o, none⟩) h, fun b o h => hb.frozen (p := ⟨b, o, none⟩) h⟩
theorem run_makeMap_hint {P : Program} (t k e : TypeId) (kd : IntKind) (n : Int) (ht : P.underlying t = some (.map k e)) (w : World) :
    (Instr.makeMap t (some (.int kd n))).run P w = .ok (.map (some w.heap.size)) (w.alloc (.map #[] 0)) := by
  simp [Instr.makeMap, run_underlying ht]; rfl
end
section
open Go.RowKit Go.Maps
set_option linter.unusedVariables false

/-- the first k tiles are coloured, and no two of them are equal -/
def preOk (s : List Tl) (k : Nat) : Prop := (s.take k).all okt = true ∧ (s.take k).Nodup ∧ s.length ≤ 1000
theorem preOk_zero (s : List Tl) (h : s.length ≤ 1000) : preOk s 0 := ⟨by simp, by simp, h⟩
theorem take_snoc {α : Type} (l : List α) (k : Nat) (hk : k < l.length) (d : α) : l.take (k + 1) = l.take k ++ [l.getD k d] := by
  rw [List.take_succ_eq_append_getElem hk, List.getD_eq_getElem?_getD, List.getElem?_eq_getElem hk]; rfl
theorem preOk_succ (s : List Tl) (k : Nat) (hk : k < s.length) (t : Tl) (ht : t = s.getD k ⟨0, 0, 0, 0⟩) (h : preOk s k) (hc : okt t = true) (hn : t ∉ s.take k) : preOk s (k + 1) := by
  obtain ⟨h1, h2, h3⟩ := h
  refine ⟨?_, ?_, h3⟩
  · rw [take_snoc s k hk ⟨0, 0, 0, 0⟩, List.all_append, h1, ← ht]; simpa using hc
  · rw [take_snoc s k hk ⟨0, 0, 0, 0⟩, ← ht, List.nodup_append]
    refine ⟨h2, by simp, fun a ha b hb => ?_⟩
    rw [List.mem_singleton] at hb
    subst hb
    exact fun e => hn (e ▸ ha)
theorem getD_mem {α : Type} (l : List α) (k : Nat) (hk : k < l.length) (d : α) : l.getD k d ∈ l := by
  rw [List.getD_eq_getElem?_getD, List.getElem?_eq_getElem hk]; exact List.getElem_mem hk
theorem vld_twice (s : List Tl) (k : Nat) (hk : k < s.length) (t : Tl) (ht : t = s.getD k ⟨0, 0, 0, 0⟩) (h : t ∈ s.take k) : vld s = false := by
  rw [Bool.eq_false_iff]
  intro hv
  have hn := (vld_iff.1 hv).2.2
  have : (s.take (k + 1)).Nodup := hn.sublist (List.take_sublist _ _)
  rw [take_snoc s k hk ⟨0, 0, 0, 0⟩, ← ht, List.nodup_append] at this
  exact this.2.2 t h t (by simp) rfl
theorem vld_bad (s : List Tl) (k : Nat) (hk : k < s.length) (t : Tl) (ht : t = s.getD k ⟨0, 0, 0, 0⟩) (h : okt t = false) : vld s = false := by
  rw [Bool.eq_false_iff]
  intro hv
  have := (vld_iff.1 hv).2.1 t (ht ▸ getD_mem s k hk _)
  rw [h] at this
  cases this
theorem vld_long (s : List Tl) (h : 1000 < s.length) : vld s = false := by
  rw [Bool.eq_false_iff]
  intro hv
  have := (vld_iff.1 hv).1
  omega
theorem vld_all (s : List Tl) (k : Nat) (hk : s.length ≤ k) (h : preOk s k) : vld s = true := by
  obtain ⟨h1, h2, h3⟩ := h
  rw [List.take_of_length_le hk] at h1 h2
  exact vld_iff.2 ⟨h3, fun t ht => List.all_eq_true.1 h1 t ht, h2⟩
theorem seen_step (s : List Tl) (k : Nat) (hk : k < s.length) (t : Tl) (ht : t = s.getD k ⟨0, 0, 0, 0⟩) : (seen (s.take k)).put (kl t) (.lit (.bool true)) = seen (s.take (k + 1)) := by
  rw [take_snoc s k hk ⟨0, 0, 0, 0⟩, seen_snoc, ← ht]

set_option maxHeartbeats 1000000 in
theorem valid_any (s : List Tl) (A : Option Addr) (c : Nat) (w : World) (hs : SetIn w w.heap.size A s) (hwf : ∀ t ∈ s, twf t) (hl : s.length ≤ 9223372036854775807) :
    Calls Tryd.prog 27 #[.slice A s.length c] w fun e w' => e = .returned (.bool (vld s)) ∧ Below w.heap.size w w' := by
  obtain ⟨n, hn⟩ : ∃ n, n = s.length := ⟨_, rfl⟩
  have hl' : n ≤ 9223372036854775807 := by omega
  rw [← hn]
  by_cases hlong : n ≤ 1000
  · have HP : Hid (preOk s 0) := preOk_zero s (by omega)
    have HN := Lib.hid hn
    clear hn hl
    have hmm := fun (W : World) => run_makeMap_hint (P := Tryd.prog) 69 53 4 .i64 (n : Int) Tryd.underlying69 W
    go_enter Tryd.func27, Tryd.ntmps27
    go_wp2
    clear hmm
    go_loopw [5, 14] (fun _ i wr => ∃ k : Nat, k ≤ n ∧ i = .int .i64 k ∧ wr.ownsMap Tryd.prog 53 (plainElem Tryd.prog 4) w.heap.size k (seen (s.take k)) ∧ Hid (preOk s k) ∧ Below w.heap.size w wr) (fun _ i _ => n - (intOf i).toNat)
    case atStart => exact ⟨0, Nat.zero_le _, rfl, World.ownsMap_made _ _ _ _, HP, (Below.refl _ _).alloc (Nat.le_refl _) _⟩
    case round =>
      clear HP
      obtain ⟨k, hk, rfl, hown, hpre, hb⟩ := hrel
      by_cases hlt : k < n
      · have hkc : k < s.length := by rw [← HN.out]; exact hlt
        obtain ⟨bk, off, rfl, hbk, hc⟩ := hs (ne_nil_of_lt hkc)
        obtain ⟨t, ht⟩ : ∃ t, t = s.getD k ⟨0, 0, 0, 0⟩ := ⟨_, rfl⟩
        have htwf : twf t := hwf t (ht ▸ getD_mem s k hkc _)
        have hwk : ∀ u ∈ s.take k, twf u := fun u hu => hwf u (List.mem_of_mem_take hu)
        obtain ⟨c0, c1, c2, c3⟩ := hc k hkc
        rw [← ht] at c0 c1 c2 c3
        have d0 := (hb.cell (p := ⟨bk, off + k * 4, none⟩) hbk).trans c0
        have d1 := (hb.cell (p := ⟨bk, off + k * 4 + 1, none⟩) hbk).trans c1
        have d2 := (hb.cell (p := ⟨bk, off + k * 4 + 2, none⟩) hbk).trans c2
        have d3 := (hb.cell (p := ⟨bk, off + k * 4 + 3, none⟩) hbk).trans c3
        clear c0 c1 c2 c3 hc hs hwf
        have hbs : bk < wr.heap.size := Nat.lt_of_lt_of_le hbk hb.size
        have HKEY : Hid (keyOf Tryd.prog 53 (.agg #[.int .i64 t.n, .int .i64 t.e, .int .i64 t.s, .int .i64 t.w]) = some (kl t)) := keyOf_tile t htwf
        by_cases hin : t ∈ s.take k
        · have HV : Hid (vld s = false) := vld_twice s k hkc t ht hin
          have HAT : Hid ((seen (s.take k)).atKey (kl t) (.lit (.bool false)) = .lit (.bool true)) := by
            show _ = _
            rw [seen_at (s.take k) t hwk htwf, decide_eq_true hin]
          clear hin ht hwk hkc hpre
          go_wp2_with (at_lookup; refine wpList_lookup_own_bool _ rfl _ _ 69 rfl 53 4 tile_law Tryd.underlying69 Tryd.underlying4 (zero_bool _) w.heap.size k _ rfl (hown.alloc _) _ _ rfl HKEY.out true HAT.out ?_)
          go_ret
          exact ⟨ret_bool HV.out.symm, hb.alloc hb.size _⟩
        · have HAT : Hid ((seen (s.take k)).atKey (kl t) (.lit (.bool false)) = .lit (.bool false)) := by
            show _ = _
            rw [seen_at (s.take k) t hwk htwf, decide_eq_false hin]
          cases hok : okt t
          · have HV : Hid (vld s = false) := vld_bad s k hkc t ht hok
            clear hin ht hwk hkc hpre
            go_wp2_with (first | (at_lookup; refine wpList_lookup_own_bool _ rfl _ _ 69 rfl 53 4 tile_law Tryd.underlying69 Tryd.underlying4 (zero_bool _) w.heap.size k _ rfl (hown.alloc _) _ _ rfl HKEY.out false HAT.out ?_) | (go_at_call 47; refine (coloured_any t _).mono ?_; rintro e w2 ⟨rfl, hb2⟩))
            go_ret
            exact ⟨ret_bool HV.out.symm, (hb.alloc hb.size _).trans (hb2.mono (by simp; have := hb.size; omega))⟩
          · have HPK : Hid (preOk s (k + 1)) := preOk_succ s k hkc t ht hpre.out hok hin
            have HST : Hid ((seen (s.take k)).put (kl t) (.lit (.bool true)) = seen (s.take (k + 1))) := seen_step s k hkc t ht
            clear hin ht hwk hkc hpre
            go_wp2_with (first | (at_lookup; refine wpList_lookup_own_bool _ rfl _ _ 69 rfl 53 4 tile_law Tryd.underlying69 Tryd.underlying4 (zero_bool _) w.heap.size k _ rfl (hown.alloc _) _ _ rfl HKEY.out false HAT.out ?_) | (go_at_call 47; refine (coloured_any t _).mono ?_; rintro e w2 ⟨rfl, hb2⟩; obtain ⟨hc2, hf2⟩ := bcell hb2) | (at_mapUpdate; refine wpList_mapUpdate_own _ rfl _ _ _ 69 rfl 53 4 tile_law Tryd.underlying69 _ w.heap.size k _ rfl ((hown.alloc _).kept (grown_of_below hb2 none) (by simp)) (by unfold maxLen; omega) _ _ _ rfl rfl HKEY.out _ [] (plainElem_bool Tryd.underlying4 true) ?_; intro w3 hown3 hgrow3))
            have hbl : Below w.heap.size w w3 := ((hb.alloc hb.size _).trans (hb2.mono (by simp; have := hb.size; omega))).grown hgrow3 (by have := hb2.size; simp at this; have := hb.size; omega) (fun j hj => by cases hj; exact Nat.le_refl _)
            rw [HST.out] at hown3
            clear hc2 hf2
            go_roundw
            case rel => exact ⟨k + 1, by omega, by go_num, hown3, HPK, hbl⟩
            case measure => simp [intOf]; omega
      · have HV : Hid (vld s = true) := vld_all s k (by rw [← HN.out]; omega) hpre.out
        clear hpre
        go_wp2
        go_ret
        exact ⟨ret_bool HV.out.symm, hb⟩
  · have HV : Hid (vld s = false) := vld_long s (by omega)
    clear hn hl
    go_enter Tryd.func27, Tryd.ntmps27
    go_wp2
    go_ret
    exact ⟨ret_bool HV.out.symm, Below.refl _ _⟩
end
section
open Go.RowKit Go.Maps Go.BigFrame
set_option linter.unusedVariables false

/-- a later world: what was there is as it was -/
structure Ext (w : World) where
  w' : World
  h : Below w.heap.size w w'
instance (w : World) : Nonempty (Ext w) := ⟨⟨w, Below.refl _ _⟩⟩
def ext (w : World) (x : Ext w) : World := x.w'
theorem ext_below {w : World} (x : Ext w) : Below w.heap.size w (ext w x) := x.h
theorem ext_cell {w : World} {a : Addr} {v : Value} (h : w.cell? a = some v) : ∀ x, (ext w x).cell? a = some v := fun x => (x.h.cell (World.block_lt_of_cell? w a h)).trans h
theorem ext_call {P : Program} {f : FuncId} {args : Array Value} {w : World} {x : Ext w} {v : Value}
    (h : Calls P f args (ext w x) fun e w' => e = .returned v ∧ Below (ext w x).heap.size (ext w x) w') : Calls P f args (ext w x) fun e w'' => e = .returned v ∧ ∃ y, w'' = ext w y :=
  h.mono fun _ w2 ⟨he, hb⟩ => ⟨he, ⟨w2, x.h.trans (hb.mono x.h.size)⟩, rfl⟩
theorem wp_region_ext {P : Program} {id : Nat} {Q : Exit → Act → World → Prop} {a : Act} {w : World} {l : List Oper} (hm : P.follows .mixedOrders = true) (hB : Region.lexB .any l.toArray = true)
    (h : wpQuiet P l.toArray (fun w' => ∃ x, w' = ext w x) (fun a' => ∀ w', (∃ x, w' = ext w x) → Q .normal a' w') l a) : (Code.region id l.toArray true).wp P Q a w :=
  wp_region_quiet (C := fun w' => ∃ x, w' = ext w x) hm hB ⟨⟨w.drew, (Below.refl _ _).drew⟩, rfl⟩ (by simpa using h)

theorem cell_pat (a b : Nat) (cs : List Int) (A : Option Addr) (n c : Nat) (X Y v : Int) (x y : Nat) (w : World) (hX : X = x) (hY : Y = y) (hv : v = cel ⟨a, b, cs⟩ (x % a) (y % b))
    (ha : 1 ≤ a) (hb : 1 ≤ b) (hab : a * b ≤ 40000) (hl : cs.length = a * b) (hn : n = cs.length) (hP : IntsIn w w.heap.size A cs) :
    Calls Tryd.prog 53 #[.agg #[.int .i64 (a : Int), .int .i64 (b : Int), .slice A n c], .int .i64 X, .int .i64 Y] w fun e w' => e = .returned (.int .i64 v) ∧ Below w.heap.size w w' := by
  subst hn
  have h1 : y % b * a + x % a < a * b := idx_lt (Nat.mod_lt _ (by omega)) (Nat.mod_lt _ (by omega))
  obtain ⟨bk, off, hA, hlt, hc⟩ := hP (ne_nil_of_lt (k := 0) (by rw [hl]; exact Nat.mul_pos (by omega) (by omega)))
  have hcell := hc (y % b * a + x % a) (by omega)
  have e1 : (Y % (b : Int) * (a : Int) + X % (a : Int)).toNat = y % b * a + x % a := by
    rw [hX, hY, ← Int.natCast_emod, ← Int.natCast_emod, ← Int.natCast_mul, ← Int.natCast_add, Int.toNat_natCast]
  refine cell_any (a : Int) (b : Int) X Y v A cs.length c bk off w hA hlt (by omega) (by omega) (by omega) (by omega) (by rw [hl, Int.natCast_mul]) (by rw [← Int.natCast_mul]; omega) ?_
  rw [e1, hcell, hv]
  rfl

theorem tl_cell {w : World} {B : Nat} {S : Option Addr} {s : List Tl} (h : SetIn w B S s) {v : Int} (h0 : 0 ≤ v) (h1 : v < (s.length : Int)) : ∃ sb so, S = some ⟨sb, so, none⟩ ∧ sb < B ∧ ∀ u : Int, 0 ≤ u → u < (s.length : Int) →
    w.cell? ⟨sb, so + u.toNat * 4, none⟩ = some (.int .i64 (tl s u).n) ∧ w.cell? ⟨sb, so + u.toNat * 4 + 1, none⟩ = some (.int .i64 (tl s u).e) ∧
    w.cell? ⟨sb, so + u.toNat * 4 + 2, none⟩ = some (.int .i64 (tl s u).s) ∧ w.cell? ⟨sb, so + u.toNat * 4 + 3, none⟩ = some (.int .i64 (tl s u).w) := by
  obtain ⟨sb, so, hS, hlt, hc⟩ := h (ne_nil_of_lt (k := 0) (by omega))
  exact ⟨sb, so, hS, hlt, fun u h0 h1 => hc u.toNat (by omega)⟩
end
section
open Go.RowKit Go.Maps Go.BigFrame
set_option linter.unusedVariables false

section
variable {P : Program} {ops : Array Oper} {md : Region.Mode} {C : World → Prop}

/-- f operations come up, each of the first n and quiet in the class, whichever is picked; then L -/
def HeadQ (P : Program) (md : Region.Mode) (ops : Array Oper) (C : World → Prop) (n : Nat) (L : Array Bool → Act → Prop) : Nat → Array Bool → Act → Prop
  | 0, d, a => L d a
  | f + 1, d, a => Region.ready md ops d ≠ [] ∧ ∀ i ∈ Region.ready md ops d, i < n ∧ qOp P ops C i (HeadQ P md ops C n L f (d.setIfInBounds i true)) a
theorem HeadQ.any {n g : Nat} {L : Array Bool → Act → Prop} {Q : Exit → Act → World → Prop} (hL : ∀ d a w, C w → L d a → wpAny P md ops Q g d a w) (f : Nat) : ∀ d a w, C w → HeadQ P md ops C n L f d a → wpAny P md ops Q (f + g) d a w := by
  induction f with
  | zero => intro d a w hw h; rw [Nat.zero_add]; exact hL d a w hw h
  | succ f ih =>
    intro d a w hw h
    rw [Nat.add_right_comm]
    refine ⟨fun h0 => absurd h0 h.1, fun i hi => ?_⟩
    exact wpOp_of_qOp hw (fun a' w' hw' h' => ih _ a' w' hw' h') (h.2 i hi).2
/-- what every operation that is not listed has to the operation i: it waits for it, or is apart from it -/
def Apart (md : Region.Mode) (ops : Array Oper) (i : Nat) (oi : Oper) (d : Array Bool) : Prop :=
  ∀ j oj, ops[j]? = some oj → j ≠ i → d.getD j true = false → (∀ e ∈ oj.after, Region.binds md e = true → e.on ≠ i) → oi.apart ops oj = true
theorem Apart.set {i j : Nat} {oi : Oper} {d : Array Bool} (h : Apart md ops i oi d) (hj : d.getD j true = false) : Apart md ops i oi (d.setIfInBounds j true) := fun k ok hk hki hun hno => by
  refine h k ok hk hki ?_ hno
  by_cases e : j = k
  · rw [← e]; exact hj
  · rwa [getD_set_ne true e] at hun
/-- an operation that may come up and is apart from the rest may be taken first -/
theorem HeadQ.first {n i : Nat} {oi : Oper} {v : Value} {L : Array Bool → Act → Prop} (hoi : ops[i]? = some oi) (hns : Region.noSelect ops = true) (hs : Region.sinkB md ops n = true) (hc : Region.chainB md ops n = true) (hn : n < ops.size) (hin : i < n)
    (hL : ∀ d a, L d a → ∀ j ∈ Region.ready md ops d, n ≤ j) (f : Nat) : ∀ d a, HeadInv md ops n d → Apart md ops i oi d → i ∈ Region.ready md ops d → YieldsIn P ops C oi v a →
    HeadQ P md ops C n L f (d.setIfInBounds i true) (a.put oi.dst v) → HeadQ P md ops C n L (f + 1) d a := by
  have sel := Region.noSelect_spec hns
  induction f with
  | zero =>
    intro d a inv hap hr hy H
    refine ⟨fun e => (by rw [e] at hr; cases hr), fun j hj => ?_⟩
    have hjn : j < n := Nat.lt_of_not_le fun h => tail_waits hs hc hn inv _ i rfl hin (mem_ready.1 hr).1 j h hj
    by_cases e : j = i
    · rw [e] at hjn ⊢; exact ⟨hjn, hy.qOp hoi H⟩
    · have := hL _ _ H j (ready_mono hj e)
      omega
  | succ f ih =>
    intro d a inv hap hr hy H
    refine ⟨fun e => (by rw [e] at hr; cases hr), fun j hj => ?_⟩
    have hjn : j < n := Nat.lt_of_not_le fun h => tail_waits hs hc hn inv _ i rfl hin (mem_ready.1 hr).1 j h hj
    by_cases e : j = i
    · rw [e] at hjn ⊢; exact ⟨hjn, hy.qOp hoi H⟩
    · refine ⟨hjn, ?_⟩
      obtain ⟨hju, oj, hoj, hall⟩ := mem_ready.1 hj
      have free : ∀ x ∈ oj.after, Region.binds md x = true → x.on ≠ i := fun x hx hb he => by
        have h1 := hall x hx hb
        rw [he, getD_both (mem_ready.1 hr).1] at h1
        cases h1
      have h1 := (H.2 j (ready_mono hj e)).2
      have h2 := qOp_put hoj (hap j oj hoj e hju free) (fun cs b => sel i oi cs b hoi) (fun cs b => sel j oj cs b hoj) hy h1
      refine qOp_mono (fun a' h3 => ih _ a' (inv.set hj hjn) (hap.set hju) (ready_mono hr (Ne.symm e)) h3.1 ?_) h2
      rw [Array.setIfInBounds_comm _ _ e]
      exact h3.2
theorem HeadQ.lex {n g : Nat} {K : Act → Prop} (hns : Region.noSelect ops = true) (hs : Region.sinkB md ops n = true) (hc : Region.chainB md ops n = true) (hn : n < ops.size) (l : List Oper) :
    ∀ k d a, (∀ j, j < l.length → l[j]? = ops[k + j]?) → k + l.length = n → HeadInv md ops n d → Region.lexHead md ops g l.length k d = true → wpQuiet P ops C K l a →
    HeadQ P md ops C n (fun d' a' => Region.seqB md ops g n d' = true ∧ K a') l.length d a := by
  induction l with
  | nil =>
    intro k d a _ hk _ hB h
    have e : k = n := by simpa using hk
    rw [← e]
    exact ⟨by simpa [Region.lexHead] using hB, h⟩
  | cons o l ih =>
    intro k d a hl hk inv hB h
    have ho : ops[k]? = some o := by simpa using (hl 0 (by simp)).symm
    rw [List.length_cons] at hk hB
    simp only [Region.lexHead, Bool.and_eq_true] at hB
    have hr : k ∈ Region.ready md ops d := by simpa using hB.1.1
    have hq : qOp P ops C k (wpQuiet P ops C K l) a := by unfold qOp; simp only [ho]; exact h
    obtain ⟨v, hy, hK⟩ := yieldsIn_of_qOp ho hq
    refine HeadQ.first ho hns hs hc hn (by omega) (fun d' a' h' => seqB_ready h'.1) l.length d a inv (Region.free_spec ho hB.1.2) hr hy ?_
    exact ih (k + 1) _ _ (fun j hj => by have := hl (j + 1) (by simp; omega); simpa [Nat.add_assoc, Nat.add_comm 1 j] using this) (by omega) (inv.set hr (by omega)) hB.2 hK
theorem wp_region_tail {id : Nat} {Q : Exit → Act → World → Prop} {a : Act} {w : World} {l : List Oper} (n : Nat) (hm : P.follows .mixedOrders = true) (hB : Region.lexTailB .any l.toArray n = true) (hC : C w.drew)
    (h : wpQuiet P l.toArray C (fun a' => ∀ w', C w' → wpList P l.toArray Q (l.drop n) a' w') (l.take n) a) : (Code.region id l.toArray true).wp P Q a w := by
  unfold Region.lexTailB at hB
  simp only [Bool.and_eq_true, decide_eq_true_eq] at hB
  obtain ⟨⟨⟨⟨hns, hn⟩, hs⟩, hc⟩, hx⟩ := hB
  have hn' : n < l.length := by simpa using hn
  have ht : (l.take n).length = n := by rw [List.length_take]; omega
  have hd : (l.drop n).length = l.toArray.size - n := by simp
  have inv : HeadInv .any l.toArray n (Array.replicate l.toArray.size false) :=
    ⟨by simp, fun j oj _ h0 => (by rw [getD_replicate_false] at h0; cases h0), fun t _ h0 => getD_in (by simpa using h0) (getD_replicate_false _ _)⟩
  have H := HeadQ.lex (P := P) (C := C) (md := .any) (g := l.toArray.size - n) hns hs hc hn (l.take n) 0 _ a (fun j hj => by
    rw [ht] at hj
    simp [hj]) (by rw [ht, Nat.zero_add]) inv (by rw [ht]; exact hx) h
  have := HeadQ.any (Q := Q) (g := l.toArray.size - n) (fun d a' w' hw' hL => by
    have h2 := wpAny_of_seq (md := .any) (Q' := Q) (l.drop n) n d a' w' (fun j => by simp [List.getElem?_drop]) (by rw [hd]; exact hL.1) (hL.2 w' hw')
    rwa [hd] at h2) _ _ _ w.drew hC H
  rw [ht, show n + (l.toArray.size - n) = l.toArray.size by omega] at this
  exact wp_region_any hm this
end
/-- the class of the later worlds -/
theorem wp_region_ext_tail {P : Program} {id : Nat} {Q : Exit → Act → World → Prop} {a : Act} {w : World} {l : List Oper} (n : Nat) (hm : P.follows .mixedOrders = true) (hB : Region.lexTailB .any l.toArray n = true)
    (h : wpQuiet P l.toArray (fun w' => ∃ x, w' = ext w x) (fun a' => ∀ w', (∃ x, w' = ext w x) → wpList P l.toArray Q (l.drop n) a' w') (l.take n) a) : (Code.region id l.toArray true).wp P Q a w :=
  wp_region_tail (C := fun w' => ∃ x, w' = ext w x) n hm hB ⟨⟨w.drew, (Below.refl _ _).drew⟩, rfl⟩ h
end
end Go.Proofs.YtgadfmknjpanpaaDoor
