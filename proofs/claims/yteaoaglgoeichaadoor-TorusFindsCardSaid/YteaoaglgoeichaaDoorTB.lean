/-
  Package torus: what climb keeps: the tower, how many rings over each of its rings were tried, the lines that are dead.
  torus.band.climb: the first tower over a lowest ring.
  torus.band.ringsAt: the rings with these indices.
  torus.band.first: the first tower of a height.
-/
import Derived.Test.YteaoaglgoeichaaDoorTA
import Derived.Test.YteaoaglgoeichaaDoorRg
import Derived.Test.YteaoaglgoeichaaDoorTb
import Derived.Deep.LoopGhost
import Derived.Lib.SliceRun
namespace Go.Proofs.YteaoaglgoeichaaDoor
section
open Go.RowKit Go.Maps Go.BigFrame Go.Sort
set_option linter.unusedVariables false
set_option linter.unusedSimpArgs false
set_option maxRecDepth 100000

/-- the tower: from its lowest ring up -/
def twr (r : Nat) (T : List (Nat × Nat)) : List Nat := (r :: T.map Prod.fst).reverse
theorem twr_len (r : Nat) (T : List (Nat × Nat)) : (twr r T).length = T.length + 1 := by simp [twr]
theorem twr_top (r : Nat) (T : List (Nat × Nat)) : (twr r T)[T.length]? = some r := by
  unfold twr
  rw [List.reverse_cons, List.getElem?_append_right (by simp)]
  simp
theorem twr_put (q r i : Nat) (T : List (Nat × Nat)) : twr q ((r, i) :: T) = twr r T ++ [q] := by simp [twr]
theorem twr_fall (r r' i : Nat) (T : List (Nat × Nat)) : (twr r ((r', i) :: T)).take (T.length + 1) = twr r' T := by
  rw [twr_put, List.take_left' (twr_len r' T)]
/-- how many rings over each ring were tried -/
def TrOk (f : Nat → Nat) : Nat → List (Nat × Nat) → Prop
  | i, [] => f 0 = i
  | i, (_, i') :: T => f (T.length + 1) = i ∧ TrOk f i' T
theorem TrOk.top {f : Nat → Nat} {i : Nat} {T : List (Nat × Nat)} (h : TrOk f i T) : f T.length = i := by
  cases T with
  | nil => exact h
  | cons p T => exact h.1
theorem TrOk.congr {f g : Nat → Nat} : ∀ {T : List (Nat × Nat)} {i : Nat}, TrOk f i T → (∀ j, j ≤ T.length → f j = g j) → TrOk g i T
  | [], i, h, e => by rw [TrOk, ← e 0 (by simp)]; exact h
  | (_, i') :: T, i, h, e => ⟨by rw [← e (T.length + 1) (by simp)]; exact h.1, TrOk.congr h.2 fun j hj => e j (by simp; omega)⟩
def updF (f : Nat → Nat) (k v : Nat) : Nat → Nat := fun j => if j = k then v else f j
theorem TrOk.set {f : Nat → Nat} {i : Nat} {T : List (Nat × Nat)} (h : TrOk f i T) (v : Nat) : TrOk (updF f T.length v) v T := by
  cases T with
  | nil => simp [TrOk, updF]
  | cons p T => exact ⟨by simp [updF], h.2.congr fun j hj => by simp [updF]; intro e; omega⟩
theorem TrOk.put {f : Nat → Nat} {i r : Nat} {T : List (Nat × Nat)} (h : TrOk f i T) : TrOk (updF f (T.length + 1) 0) 0 ((r, i) :: T) :=
  ⟨by simp [updF], h.congr fun j hj => by simp [updF]; intro e; omega⟩
/-- a table of numbers -/
structure ITab (w : World) (q n : Nat) (f : Nat → Nat) : Prop where
  lt : q < w.heap.size
  at_ : ∀ j, j < n → w.cell? ⟨q, j, none⟩ = some (.int .i64 (f j : Nat))
  fr : ∀ o, w.frozen? ⟨q, o, none⟩ = false
theorem ITab.keep {w w' : World} {q n : Nat} {f : Nat → Nat} (h : ITab w q n f) (hb : Below w.heap.size w w') : ITab w' q n f :=
  ⟨Nat.lt_of_lt_of_le h.lt hb.size, fun j hj => (hb.cell (p := ⟨q, j, none⟩) h.lt).trans (h.at_ j hj), fun o => (hb.frozen (p := ⟨q, o, none⟩) h.lt).trans (h.fr o)⟩
theorem ITab.grown {w w' : World} {q n : Nat} {f : Nat → Nat} {g : Option Nat} (h : ITab w q n f) (hg : w.grownBy w' g) (hne : some q ≠ g) : ITab w' q n f :=
  ⟨Nat.lt_of_lt_of_le h.lt hg.size, fun j hj => (World.cell?_of_block (hg.block q h.lt hne)).trans (h.at_ j hj), fun o => (World.frozen?_of_block (hg.block q h.lt hne)).trans (h.fr o)⟩
theorem ITab.set {w : World} {q n : Nat} {f : Nat → Nat} (h : ITab w q n f) (k v : Nat) (hk : k < n) : ITab (w.setCell ⟨q, k, none⟩ (.int .i64 (v : Nat))) q n (updF f k v) := by
  refine ⟨by simpa using h.lt, fun j hj => ?_, fun o => (World.frozen?_setCell _ _ _ _).trans (h.fr o)⟩
  by_cases e : j = k
  · subst e
    rw [World.cell?_setCell_same _ _ _ (h.at_ j hj)]
    simp [updF]
  · rw [World.cell?_setCell_other _ _ _ _ (fun e' => by injection e' with _ e2; omega), h.at_ j hj]
    simp [updF, e]
/-- the lines that are dead: a table of tables, each of its own; all lie from block B on and below block T -/
structure DeadT (w : World) (B T mb x h : Nat) (Q : Nat → Nat) (F : Nat → Nat → Bool) : Prop where
  le : B ≤ mb
  lt : mb < T
  up : T ≤ w.heap.size
  fr : ∀ o, w.frozen? ⟨mb, o, none⟩ = false
  tab : ∀ y, y < h → Q y ≠ mb ∧ B ≤ Q y ∧ Q y < T ∧ w.cell? ⟨mb, y, none⟩ = some (.slice (some ⟨Q y, 0, none⟩) x x) ∧ BTab w (Q y) x (fun l => F y l.toNat)
  inj : ∀ y y', y < h → y' < h → Q y = Q y' → y = y'
theorem DeadT.keep {w w' : World} {B T mb x h : Nat} {Q : Nat → Nat} {F : Nat → Nat → Bool} (d : DeadT w B T mb x h Q F) (hb : Below T w w') : DeadT w' B T mb x h Q F where
  le := d.le
  lt := d.lt
  up := Nat.le_trans d.up hb.size
  fr o := (hb.frozen (p := ⟨mb, o, none⟩) d.lt).trans (d.fr o)
  tab y hy := by
    obtain ⟨h1, h2, h3, h4, h5⟩ := d.tab y hy
    refine ⟨h1, h2, h3, (hb.cell (p := ⟨mb, y, none⟩) d.lt).trans h4, Nat.lt_of_lt_of_le h5.1 hb.size, fun L hL => (hb.cell (p := ⟨Q y, L, none⟩) h3).trans (h5.2.1 L hL), fun o => (hb.frozen (p := ⟨Q y, o, none⟩) h3).trans (h5.2.2 o)⟩
  inj := d.inj
theorem DeadT.mono {w : World} {B T T' mb x h : Nat} {Q : Nat → Nat} {F : Nat → Nat → Bool} (d : DeadT w B T mb x h Q F) (h1 : T ≤ T') (h2 : T' ≤ w.heap.size) : DeadT w B T' mb x h Q F where
  le := d.le
  lt := Nat.lt_of_lt_of_le d.lt h1
  up := h2
  fr := d.fr
  tab y hy := by
    obtain ⟨a, b, c, e, f⟩ := d.tab y hy
    exact ⟨a, b, Nat.lt_of_lt_of_le c h1, e, f⟩
  inj := d.inj
/-- a store into one of the tables -/
theorem DeadT.set {w w' : World} {B T mb x h : Nat} {Q : Nat → Nat} {F : Nat → Nat → Bool} (d : DeadT w B T mb x h Q F) (y : Nat) (hy : y < h) (hg : w.grownBy w' (some (Q y))) (G : Nat → Bool) (hb : BTab w' (Q y) x (fun l => G l.toNat)) :
    DeadT w' B T mb x h Q (fun y' l => if y' = y then G l else F y' l) := by
  obtain ⟨a0, b0, c0, e0, f0⟩ := d.tab y hy
  have hmb : mb < w.heap.size := Nat.lt_of_lt_of_le d.lt d.up
  have hne : some mb ≠ some (Q y) := fun e => by injection e with e; exact a0 e.symm
  refine ⟨d.le, d.lt, Nat.le_trans d.up hg.size, fun o => (World.frozen?_of_block (hg.block mb hmb hne)).trans (d.fr o), fun y' hy' => ?_, d.inj⟩
  obtain ⟨a, b, c, e, f⟩ := d.tab y' hy'
  refine ⟨a, b, c, (World.cell?_of_block (hg.block mb hmb hne)).trans e, ?_⟩
  by_cases hyy : y' = y
  · subst hyy
    simpa using hb
  · simp only [if_neg hyy]
    exact f.grown hg fun e => by injection e with e; exact hyy (d.inj y' y hy' hy e)
theorem DeadT.mark {w : World} {B T mb x h : Nat} {Q : Nat → Nat} {F : Nat → Nat → Bool} (d : DeadT w B T mb x h Q F) (y l : Nat) (hy : y < h) (hl : l < x) :
    DeadT (w.setCell ⟨Q y, l, none⟩ (.bool true)) B T mb x h Q (fun y' l' => if y' = y ∧ l' = l then true else F y' l') := by
  obtain ⟨a0, b0, c0, e0, f0⟩ := d.tab y hy
  have h1 := d.set y hy (grown_one w (Q y) l (.bool true)) (fun l' => if l' = l then true else F y l') (f0.set l hl true (by simp) (fun L hL hne => by simp [hne]))
  have e : (fun y' l' => if y' = y then (if l' = l then true else F y l') else F y' l') = fun y' l' => if y' = y ∧ l' = l then true else F y' l' := by
    funext y' l'
    by_cases h1 : y' = y
    · subst h1; simp
    · simp [h1]
  rw [e] at h1
  exact h1
theorem DeadT.at_ {w : World} {B T mb x h : Nat} {Q : Nat → Nat} {F : Nat → Nat → Bool} (d : DeadT w B T mb x h Q F) (y l : Nat) (hy : y < h) (hl : l < x) : w.cell? ⟨Q y, l, none⟩ = some (.bool (F y l)) := by
  have := (d.tab y hy).2.2.2.2.2.1 l hl
  simpa using this
/-- the first numbers of a row -/
theorem own_prefix {w : World} {base n y c : Nat} {e : TypeId} {A : Option Addr} {xs : List Value} (h : w.ownsRow base e 1 (.slice A n c) n xs) (hy : y ≤ n) : w.ownsRow base e 1 (.slice A y c) y (xs.take y) := by
  have hl := h.1
  rcases h.2 with ⟨h0, h1⟩ | ⟨g, cap, cur, hv, hg, hh, hnc, hm, hs, hx⟩
  · simp at h0
    obtain ⟨rfl, rfl, rfl⟩ := h0
    have : y = 0 := by omega
    subst this
    exact ⟨by simp, Or.inl ⟨rfl, rfl⟩⟩
  · simp at hv
    obtain ⟨rfl, rfl⟩ := hv
    refine ⟨by simp; omega, Or.inr ⟨g, c, cur, rfl, hg, hh, by omega, hm, hs, ?_⟩⟩
    rw [← hx, List.take_take]
    congr 1
    omega
/-- what climb hands back -/
def IsClimb (over : Nat → List Nat) (nor sou : Nat → Nat) (B T mb x h bottom : Nat) (Q : Nat → Nat) (W : World) (e : Ending) (w' : World) : Prop :=
  ∃ v F', e = .returned v ∧ Below B W w' ∧ DeadT w' B T mb x h Q F' ∧ match towerT over nor sou h bottom with
    | none => v = .slice none 0 0
    | some u => ∃ A c, v = .slice A u.length c ∧ IntsIn w' w'.heap.size A (idxI u)
end
section
open Go.RowKit Go.Maps Go.BigFrame Go.Sort
set_option linter.unusedVariables false
set_option linter.unusedSimpArgs false
set_option maxRecDepth 100000

theorem grown_of_drew {w w' : World} {o : Obj} {r r' : Option Nat} (h : (w.alloc o).drew.grownBy w' r') (e : r' = r) : w.grownBy w' r :=
  (World.grownBy_alloc w o r).trans ⟨h.os, h.tape, h.output, h.size, fun k hk hne => h.block k hk (by rw [e]; exact hne)⟩
theorem at_to {w : World} {o : Obj} {v : Value} {r r' : Option Nat} (h : v.ownBlock = r' ∨ v.ownBlock = some (w.alloc o).drew.heap.size) (e : r' = r) : v.ownBlock = r ∨ v.ownBlock = some (w.heap.size + 1) := by
  rcases h with h | h
  · exact Or.inl (h.trans e)
  · right
    rw [h]
    show some (w.heap.push o).size = _
    rw [Array.size_push]
/-- the state at the loop's head -/
def ClAt (over : Nat → List Nat) (nor : Nat → Nat) (sb : Nat) (B T mb nl h rn bottom : Nat) (Q : Nat → Nat) (w : World) (box : Array Value) (g : Nat) (v : Value) (wr : World) : Prop :=
  ∃ F', Hid (DeadT wr B T mb nl h Q F') ∧ Hid (DeadOk over nor sb h F') ∧ Hid (wr.heap[T]? = some (.cells box 50 (0, 0))) ∧ Below B w wr ∧
    ((∃ A c, v = .slice A 0 c ∧ Hid (fstT over nor sb (h - 1) (nor bottom) = none)) ∨
    ∃ (r i k : Nat) (Tl : List (Nat × Nat)) (f : Nat → Nat), Hid (wr.ownsRow (T + 1) 3 1 v (Tl.length + 1) (vals (idxI (twr r Tl)))) ∧ v.ownBlock ≠ some (T + 1 + 1) ∧ Hid (ITab wr (T + 1 + 1) h f) ∧ Hid (TrOk f i Tl) ∧ Hid (Low over nor sb bottom k r Tl) ∧ k + Tl.length + 1 = h ∧
      Hid (∀ k', k = k' + 1 → fstT over nor sb (k' + 1) (nor r) = restT over nor sb k' (nor r) i) ∧ Hid (g = topC over nor k (nor r) i + lowC over nor k Tl) ∧ r < rn ∧ Hid (∀ p ∈ Tl, p.1 < rn))
set_option maxHeartbeats 8000000 in
theorem climb_abs (over : Nat → List Nat) (nor sou : Nat → Nat) (B mb nl h hc rn rc rb O oc bottom : Nat) (Q : Nat → Nat) (w : World)
    (hring : ∀ W, Below B w W → ∀ i, i < rn → W.cell? ⟨rb, i * 8 + 6, none⟩ = some (.int .i64 (nor i : Nat)) ∧ W.cell? ⟨rb, i * 8 + 7, none⟩ = some (.int .i64 (sou i : Nat)))
    (hover : ∀ W, Below B w W → ∀ l, l < nl → ∃ A c, W.cell? ⟨O, l, none⟩ = some (.slice A (over l).length c) ∧ ∀ i r, (over l)[i]? = some r → r < rn ∧ ∃ ab ao, A = some ⟨ab, ao, none⟩ ∧ W.cell? ⟨ab, ao + i, none⟩ = some (.int .i64 (r : Nat)))
    (hnor : ∀ i, i < rn → nor i < nl) (hbot : bottom < rn) (hrn : rn ≤ 100000000) (hh1 : 1 ≤ h) (hh6 : h ≤ 6) (hol : ∀ l, (over l).length ≤ 100000000) (hnl : nl ≤ 300000000)
    (hdead : DeadT w B w.heap.size mb nl h Q fun _ _ => false) :
    Calls Tryd.prog 35 #[.agg #[.slice (some ⟨rb, 0, none⟩) rn rc, .slice (some ⟨O, 0, none⟩) nl oc], .int .i64 (bottom : Nat), .slice (some ⟨mb, 0, none⟩) h hc] w (IsClimb over nor sou B w.heap.size mb nl h bottom Q w) := by
  obtain ⟨i0, hi, hz0, hz1, hz2⟩ := info_parts int_info
  have hby : i0.bytes * h ≤ 281474976710656 := by rw [hz2]; omega
  obtain ⟨top, htop⟩ : ∃ top, top + 1 = h := ⟨h - 1, by omega⟩
  have mt : IntKind.i64.wrap ((h : Int) - 1) = (top : Int) := by rw [IntWalk.i64_in _ (by omega)]; omega
  have HRING := Lib.hid hring
  have HOVER := Lib.hid hover
  have HNOR := Lib.hid hnor
  have HDEAD := Lib.hid hdead
  have HOL := Lib.hid hol
  have HTOP := Lib.hid htop
  clear hring hover hnor hdead hol htop
  go_enter Tryd.func35, Tryd.ntmps35
  go_wp2_with fail
  go_step3
  go_wp2_with (first
    | (at_make; refine wpList_make_full _ rfl _ _ 25 rfl (w.heap.size + 2) 3 i0 (.int .i64 0) 1 Tryd.underlying25 hi hz0 hz1 .i64 .i64 _ _ h rfl rfl rfl rfl hby (by simp only [maxLen]; omega) (by simp) ?_; intro w3 hown3 hgrow3)
    | fail)
  obtain ⟨hlt3, hcw3, hfz3⟩ := own_words hown3
  have hb3 : Below w.heap.size w w3 := (below_two w _ _).grown hgrow3 (by simp; omega) (fun j hj => by cases hj)
  have hit3 : ITab w3 (w.heap.size + 1 + 1) h (fun _ => 0) := by
    refine ⟨by simpa using hlt3, fun j hj => ?_, fun o => by simpa using hfz3 o⟩
    have := (hcw3 j hj).trans (made_at (.int .i64 0) (h * 1) j (by omega))
    simpa using this
  have hbox3 : w3.heap[w.heap.size]? = some (.cells #[.slice (some ⟨rb, 0, none⟩) rn rc, .slice (some ⟨O, 0, none⟩) nl oc] 50 (0, 0)) := by
    exact (hgrow3.block _ (by simp; omega) (by simp)).trans (heap_kp (heap_at w _ _ rfl) _)
  have hown1 : w3.ownsRow (w.heap.size + 1) 3 1 (.slice (some ⟨w.heap.size + 1, 0, none⟩) 1 1) (([] : List (Nat × Nat)).length + 1) (vals (idxI (twr bottom []))) := by
    have h0 := own_one (w.alloc (.cells #[.slice (some ⟨rb, 0, none⟩) rn rc, .slice (some ⟨O, 0, none⟩) nl oc] 50)) [.int .i64 (bottom : Nat)] 1 3 rfl
    have h1 := h0.kept hgrow3 (Or.inr (by simp [Value.ownBlock]))
    simpa [twr, idxI, vals] using h1
  obtain ⟨sb, hsb⟩ : ∃ sb, sb = sou bottom := ⟨_, rfl⟩
  have hBT : B ≤ w.heap.size := by have := HDEAD.out.le; have := HDEAD.out.lt; omega
  have hd3 : DeadT w3 B w.heap.size mb nl h Q fun _ _ => false := HDEAD.out.keep hb3
  have HSB := Lib.hid hsb
  have hbB3 : Below B w w3 := hb3.mono (by omega)
  clear hown3 hgrow3 hlt3 hcw3 hfz3 hb3 hsb
  go_wp2_with fail
  go_step3
  go_wp2_with fail
  go_loopg [8] (topC over nor top (nor bottom) 0 + lowC over nor top []) (fun g v wr => ClAt over nor sb B w.heap.size mb nl h rn bottom Q w #[.slice (some ⟨rb, 0, none⟩) rn rc, .slice (some ⟨O, 0, none⟩) nl oc] g v wr)
  case atStart =>
    refine ⟨fun _ _ => false, hd3, ?_, hbox3, hbB3, Or.inr ⟨bottom, 0, top, [], _, hown1, ?_, hit3, rfl, .bottom top, ?_, ?_, rfl, hbot, ?_⟩⟩
    · intro y l _ e
      cases e
    · simp [Value.ownBlock]
    · have := HTOP.out
      simpa using this
    · intro k' e
      rfl
    · intro p hp
      cases hp
  case round =>
    clear hd3 hit3 hbox3 hown1 hbB3
    obtain ⟨F', hdt, hdo, hbox, hbB, hcase⟩ := hrel
    obtain ⟨wo, rfl⟩ : ∃ wo : World, wo = wr := ⟨_, rfl⟩
    obtain ⟨g0, rfl⟩ : ∃ g0 : Nat, g0 = gk := ⟨_, rfl⟩
    rcases hcase with ⟨A, c, rfl, hnone⟩ | ⟨r, i, k, Tl, f, hown, hne, hit, htr, hlow, hkT, hkept, hgk, hrr, hTl⟩
    · have hres : towerT over nor sou h bottom = none := by
        unfold towerT
        rw [← HSB.out, hnone.out]
        rfl
      have HRES := Lib.hid hres
      have HDT := Lib.hid hdt.out
      clear hres hnone hdt hdo hbox
      go_wp2_with fail
      rw [Exit.noGoto_ret]
      go_ret
      refine ⟨_, F', rfl, hbB, HDT.out, ?_⟩
      rw [HRES.out]
      rfl
    · obtain ⟨y, hy⟩ : ∃ y, y = Tl.length := ⟨_, rfl⟩
      obtain ⟨n1, hn1⟩ : ∃ n1, n1 = y + 1 := ⟨_, rfl⟩
      have hown' := hown.out
      rw [← hy, ← hn1] at hown'
      obtain ⟨A, c, rfl, -, hnc', hnm', hI, hA⟩ := own_ints hown'
      have hlen : (idxI (twr r Tl)).length = n1 := by unfold idxI; rw [List.length_map, twr_len]; omega
      obtain ⟨tg, tf, rfl, htg, hcl⟩ := hI (fun e => by rw [e] at hlen; simp at hlen; omega)
      have qt := hcl y (by omega)
      have hgd : (idxI (twr r Tl)).getD y 0 = (r : Int) := by
        have := twr_top r Tl
        rw [← hy] at this
        unfold idxI
        rw [List.getD_eq_getElem?_getD, List.getElem?_map, this]
        rfl
      rw [hgd] at qt
      have HOWN := Lib.hid hown'
      obtain ⟨q0, q1⟩ := cells2 hbox.out
      obtain ⟨qr, -⟩ := HRING.out wo hbB r hrr
      obtain ⟨-, qb⟩ := HRING.out wo hbB bottom hbot
      rw [← HSB.out] at qb
      have hyh : y < h := by omega
      have qi := hit.out.at_ y hyh
      have hfy : f y = i := by rw [hy]; exact htr.out.top
      rw [hfy] at qi
      have har := HNOR.out r hrr
      obtain ⟨a, ha⟩ : ∃ a, a = nor r := ⟨_, rfl⟩
      rw [← ha] at qr har
      obtain ⟨Ao, co, qo, hov⟩ := HOVER.out wo hbB a har
      obtain ⟨L, hL⟩ : ∃ L, L = (over a).length := ⟨_, rfl⟩
      rw [← hL] at qo
      have hL9 : L ≤ 100000000 := by rw [hL]; exact HOL.out a
      have m1 : IntKind.i64.wrap ((n1 : Int) - 1) = (y : Int) := by rw [IntWalk.i64_in _ (by omega)]; omega
      have y0 : (0 : Int) ≤ (y : Int) := by omega
      have y1 : (y : Int) < (n1 : Int) := by omega
      have r0 : (0 : Int) ≤ (r : Int) := by omega
      have r1 : (r : Int) < (rn : Int) := by omega
      have n0 : (0 : Int) < (n1 : Int) := by omega
      have HI := Lib.hid hI
      have HY := Lib.hid hy
      have HN1 := Lib.hid hn1
      have HA := Lib.hid ha
      have HOVA := Lib.hid hov
      have HLO := Lib.hid hL
      have HFY := Lib.hid hfy
      have HLEN := Lib.hid hlen
      clear hI hcl hgd hlen hA hown hown' hy ha hov hL hfy hn1
      rcases k with _ | k
      · have hyt : y = top := by have := HTOP.out; have := HY.out; omega
        have d0 : ((y : Int) == (top : Int)) = true := by rw [beq_iff_eq]; omega
        have HYT := Lib.hid hyt
        clear hyt
        have b0 : (0 : Int) ≤ (bottom : Int) := by omega
        have b1 : (bottom : Int) < (rn : Int) := by omega
        by_cases hs : a = sb
        · have d1 : ((a : Int) == (sb : Int)) = true := by rw [beq_iff_eq]; omega
          have hres : towerT over nor sou h bottom = some (twr r Tl) := by
            have h0 : fstT over nor sb 0 (nor r) = some [] := by
              rw [← HA.out, hs]
              simp [fstT]
            have := hlow.out.found h0
            unfold towerT
            rw [← HSB.out, show h - 1 = 0 + Tl.length by omega, this, List.append_nil]
            rfl
          have HRES := Lib.hid hres
          have HDT := Lib.hid hdt.out
          clear hres hdt hdo hbox hs hit htr hlow hkept hgk
          go_wp2_with fail
          go_region
          go_wp2_with fail
          rw [Exit.noGoto_ret]
          go_ret
          refine ⟨_, F', rfl, hbB.drew, HDT.out.keep (Below.refl _ _).drew, ?_⟩
          rw [HRES.out]
          refine ⟨some ⟨tg, tf, none⟩, c, ?_, HI.out.keep (Below.refl _ _).drew (Nat.le_refl _)⟩
          rw [twr_len, ← HY.out, ← HN1.out]
          rfl
        · have d1 : ((a : Int) == (sb : Int)) = false := by rw [beq_eq_false_iff_ne]; omega
          have hnone : Hid (fstT over nor sb 0 (nor r) = none) := by
            show _ = _
            rw [← HA.out]
            simp [fstT, hs]
          have hdeg : ¬ ((y : Int) < (top : Int)) := by have := HYT.out; omega
          have hdeg' : ¬ (y < top) := by omega
          clear hs
          go_wp2_with fail
          go_region
          go_wp2_with fail
          obtain ⟨kk, hkk⟩ : ∃ kk, kk = 0 := ⟨_, rfl⟩
          have HKK := Lib.hid hkk
          clear hkk q0 q1 qt qr qb qi qo
          go_loopg [8] (topC over nor kk (nor r) i + lowC over nor kk Tl) (fun g v wr => ∃ (i' : Nat) (f' : Nat → Nat), v = .slice (some ⟨tg, tf, none⟩) n1 c ∧ Hid (wr.ownsRow (w.heap.size + 1) 3 1 (.slice (some ⟨tg, tf, none⟩) n1 c) n1 (vals (idxI (twr r Tl)))) ∧ Hid (ITab wr (w.heap.size + 1 + 1) h f') ∧ Hid (TrOk f' i' Tl) ∧ Hid (DeadT wr B w.heap.size mb nl h Q F') ∧
            Hid (wr.heap[w.heap.size]? = some (.cells #[.slice (some ⟨rb, 0, none⟩) rn rc, .slice (some ⟨O, 0, none⟩) nl oc] 50 (0, 0))) ∧ Below B w wr ∧ Hid (∀ k', kk = k' + 1 → fstT over nor sb (k' + 1) (nor r) = restT over nor sb k' (nor r) i') ∧ Hid (g = topC over nor kk (nor r) i' + lowC over nor kk Tl) ∧ g ≤ g0)
          case atStart => exact ⟨i, f, rfl, HOWN.out.drew, hit.out.keep (Below.refl _ _).drew, htr, hdt.out.keep (Below.refl _ _).drew, hbox.out, hbB.drew, by rw [HKK.out]; exact hkept.out, rfl, by rw [HKK.out, hgk.out]; exact Nat.le_refl _⟩
          case round =>
            obtain ⟨i2, f2, rfl, hown2, hit2, htr2, hdt2, hbox2, hbB2, hkept2, hg2, hle2⟩ := hrel
            obtain ⟨wi, rfl⟩ : ∃ wi : World, wi = wr := ⟨_, rfl⟩
            clear hdt hbox hit htr hgk hkept HOWN hbB
            obtain ⟨q0, q1⟩ := cells2 hbox2.out
            have hfy : f2 y = i2 := by rw [HY.out]; exact htr2.out.top
            have qi := hit2.out.at_ y hyh
            rw [hfy] at qi
            clear hfy
            obtain ⟨Ao, co, qo, hov⟩ := HOVER.out wi hbB2 a har
            rw [← HLO.out] at qo
            have HOVA := Lib.hid hov
            clear hov
            have hnon : Hid (fstT over nor sb kk (nor r) = none) := by show _ = _; rw [HKK.out]; exact hnone
            obtain ⟨hQm, hQB, hQT, dq, hbt⟩ := hdt2.out.tab y hyh
            have dc := hdt2.out.at_ y a hyh har
            have df := hbt.2.2 a
            have yh' : (y : Int) < (h : Int) := by omega
            have ea0 : (0 : Int) ≤ (a : Int) := by omega
            have eal : (a : Int) < (nl : Int) := by omega
            have hyc : y ≤ c := by omega
            have HBT := Lib.hid hbt
            clear hbt
            go_wp2_with fail
            go_region
            go_wp2_with fail
            have hG : wi.grownBy (wi.setCell ⟨Q y, a, none⟩ (.bool true)).drew (some (Q y)) := grown_drew (grown_one wi (Q y) a (.bool true))
            have hd9 := (hdt2.out.mark y a hyh har).keep (w' := (wi.setCell ⟨Q y, a, none⟩ (.bool true)).drew) (Below.refl _ _).drew
            have hlowk : Low over nor sb bottom kk r Tl := by rw [HKK.out]; exact hlow.out
            have hkk1 : kk + Tl.length + 1 = h := by rw [HKK.out]; exact hkT
            have hky : h - 1 - y = kk := by have := HY.out; omega
            have hdo9 : DeadOk over nor sb h fun y' l' => if y' = y ∧ l' = a then true else F' y' l' := hdo.out.mark (by rw [hky, HA.out]; exact hnon.out)
            have hwT : w.heap.size < wi.heap.size := (Array.getElem?_eq_some_iff.1 hbox2.out).1
            have hbox9 := (hG.block w.heap.size hwT (by intro e; injection e with e; omega)).trans hbox2.out
            have hbB9 := hbB2.grown hG (by omega) (fun j e => by cases e; exact hQB)
            have hit9 := hit2.out.grown hG (by intro e; injection e with e; omega)
            have hown9 := own_prefix (y := y) (hown2.out.kept hG (Or.inr fun e => by have := (hown2.out.lt _ e).1; omega)) (by have := HN1.out; omega)
            have hnone9 := hnon.out
            have hg2' := hg2.out
            have hkept9 := hkept2.out
            have htr9 := htr2.out
            have HOW9 := Lib.hid hown9
            clear hown9 hown2 hdt2 hbox2 hit2 q0 q1 qi qo dq dc df hG
            cases Tl with
            | nil =>
              have hy0 : y = 0 := HY.out
              subst hy0
              have hrb : r = bottom := hlowk.len rfl
              go_roundg 0
              case measure =>
                have h1 : 1 ≤ topC over nor kk (nor r) i2 := by cases kk <;> simp [topC]
                omega
              case rel => exact ⟨_, hd9, hdo9, hbox9, hbB9, Or.inl ⟨some ⟨tg, tf, none⟩, c, rfl, by show _ = _; rw [← hrb, ← show kk = h - 1 by simp at hkk1; omega]; exact hnone9⟩⟩
            | cons p Tl =>
              obtain ⟨r3, i3⟩ := p
              obtain ⟨low3, kept3⟩ := hlowk.falls hnone9
              have hyl : y = Tl.length + 1 := HY.out
              have htk : (vals (idxI (twr r ((r3, i3) :: Tl)))).take y = vals (idxI (twr r3 Tl)) := by
                unfold vals idxI
                rw [List.map_map, List.map_map, ← List.map_take, hyl, twr_fall]
              have hmem3 := hTl.out (r3, i3) (by simp)
              have hTl3 : ∀ p ∈ Tl, p.1 < rn := fun p hp => hTl.out p (by simp [hp])
              go_roundg (topC over nor (kk + 1) (nor r3) i3 + lowC over nor (kk + 1) Tl)
              case measure =>
                have := fall_less (over := over) (nor := nor) (k := kk) (l := nor r) (j := i2) (r := r3) (i := i3) (T := Tl)
                omega
              case rel =>
                refine ⟨_, hd9, hdo9, hbox9, hbB9, Or.inr ⟨r3, i3, kk + 1, Tl, f2, ?_, ?_, hit9, htr9.2, low3, ?_, ?_, rfl, hmem3, hTl3⟩⟩
                · show World.ownsRow _ _ _ _ _ _ _
                  rw [← htk, ← hyl]
                  exact HOW9.out
                · exact hne
                · simp at hkk1; omega
                · intro k' e
                  have e' : k' = kk := by omega
                  subst e'
                  exact kept3
      · have hyt : y < top := by have := HTOP.out; have := HY.out; omega
        have hyt' : (y : Int) < (top : Int) := by omega
        have d0 : ((y : Int) == (top : Int)) = false := by rw [beq_eq_false_iff_ne]; omega
        go_wp2_with fail
        go_region
        go_wp2_with fail
        obtain ⟨kk, hkk⟩ : ∃ kk, kk = k + 1 := ⟨_, rfl⟩
        have HKK := Lib.hid hkk
        clear hkk q0 q1 qt qr qb qi qo
        go_loopg [8] (topC over nor kk (nor r) i + lowC over nor kk Tl) (fun g v wr => ∃ (i' : Nat) (f' : Nat → Nat), v = .slice (some ⟨tg, tf, none⟩) n1 c ∧ Hid (wr.ownsRow (w.heap.size + 1) 3 1 (.slice (some ⟨tg, tf, none⟩) n1 c) n1 (vals (idxI (twr r Tl)))) ∧ Hid (ITab wr (w.heap.size + 1 + 1) h f') ∧ Hid (TrOk f' i' Tl) ∧ Hid (DeadT wr B w.heap.size mb nl h Q F') ∧
          Hid (wr.heap[w.heap.size]? = some (.cells #[.slice (some ⟨rb, 0, none⟩) rn rc, .slice (some ⟨O, 0, none⟩) nl oc] 50 (0, 0))) ∧ Below B w wr ∧ Hid (∀ k', kk = k' + 1 → fstT over nor sb (k' + 1) (nor r) = restT over nor sb k' (nor r) i') ∧ Hid (g = topC over nor kk (nor r) i' + lowC over nor kk Tl) ∧ g ≤ g0)
        case atStart => exact ⟨i, f, rfl, HOWN.out.drew, hit.out.keep (Below.refl _ _).drew, htr, hdt.out.keep (Below.refl _ _).drew, hbox.out, hbB.drew, by rw [HKK.out]; exact hkept.out, rfl, by rw [HKK.out, hgk.out]; exact Nat.le_refl _⟩
        case round =>
          obtain ⟨i2, f2, rfl, hown2, hit2, htr2, hdt2, hbox2, hbB2, hkept2, hg2, hle2⟩ := hrel
          obtain ⟨wi, rfl⟩ : ∃ wi : World, wi = wr := ⟨_, rfl⟩
          clear hdt hbox hit htr hgk hkept HOWN hbB
          obtain ⟨q0, q1⟩ := cells2 hbox2.out
          have hfy : f2 y = i2 := by rw [HY.out]; exact htr2.out.top
          have qi := hit2.out.at_ y hyh
          rw [hfy] at qi
          clear hfy
          obtain ⟨Ao, co, qo, hov⟩ := HOVER.out wi hbB2 a har
          rw [← HLO.out] at qo
          have HOVA := Lib.hid hov
          clear hov
          have hi0 : (0 : Int) ≤ (i2 : Int) := by omega
          have ha0 : (0 : Int) ≤ (a : Int) := by omega
          have har' : (a : Int) < (nl : Int) := by omega
          have hyh' : (y : Int) < (h : Int) := by omega
          by_cases hiL : i2 < L
          · have hiL' : (i2 : Int) < (L : Int) := by omega
            obtain ⟨nx, hnx⟩ : ∃ nx, (over a)[i2]? = some nx := ⟨_, List.getElem?_eq_getElem (by rw [← HLO.out]; exact hiL)⟩
            obtain ⟨hnxr, ab, ao, rfl, qn⟩ := HOVA.out i2 nx hnx
            obtain ⟨qx, -⟩ := HRING.out wi hbB2 nx hnxr
            obtain ⟨an, han⟩ : ∃ an, an = nor nx := ⟨_, rfl⟩
            have hanl := HNOR.out nx hnxr
            rw [← han] at qx hanl
            obtain ⟨i3, hi3⟩ : ∃ i3, i3 = i2 + 1 := ⟨_, rfl⟩
            obtain ⟨y2, hy2⟩ : ∃ y2, y2 = y + 1 := ⟨_, rfl⟩
            have mi : IntKind.i64.wrap ((i2 : Int) + 1) = (i3 : Int) := by rw [IntWalk.i64_in _ (by omega)]; omega
            have my : IntKind.i64.wrap ((y : Int) + 1) = (y2 : Int) := by rw [IntWalk.i64_in _ (by omega)]; omega
            have hy2h : y2 < h := by have := HTOP.out; omega
            obtain ⟨hQm, hQB, hQT, dq, hbt⟩ := hdt2.out.tab y2 hy2h
            obtain ⟨bd, hbd⟩ : ∃ bd, bd = F' y2 an := ⟨_, rfl⟩
            have dc := hdt2.out.at_ y2 an hy2h hanl
            rw [← hbd] at dc
            have fi := hit2.out.fr y
            have y20 : (0 : Int) ≤ (y2 : Int) := by omega
            have y2h' : (y2 : Int) < (h : Int) := by omega
            have nx0 : (0 : Int) ≤ (nx : Int) := by omega
            have nx1 : (nx : Int) < (rn : Int) := by omega
            have an0 : (0 : Int) ≤ (an : Int) := by omega
            have an1 : (an : Int) < (nl : Int) := by omega
            have HNX := Lib.hid hnx
            have HAN := Lib.hid han
            have HI3 := Lib.hid hi3
            have HY2 := Lib.hid hy2
            have HBD := Lib.hid hbd
            clear hbt hnx han hi3 hy2 hbd
            go_wp2_with fail
            go_region
            go_wp2_with fail
            go_region
            go_wp2_with fail
            obtain ⟨W5, hW5⟩ : ∃ W5, W5 = (wi.setCell ⟨w.heap.size + 1 + 1, y, none⟩ (.int .i64 (i3 : Int))).drew.drew := ⟨_, rfl⟩
            rw [← hW5]
            have hwT : w.heap.size < wi.heap.size := (Array.getElem?_eq_some_iff.1 hbox2.out).1
            have g5 : wi.grownBy W5 (some (w.heap.size + 1 + 1)) := by rw [hW5]; exact grown_drew (grown_drew (grown_one wi (w.heap.size + 1 + 1) y (.int .i64 (i3 : Int))))
            have b5 : Below w.heap.size wi W5 := (Below.refl w.heap.size wi).grown g5 (by omega) (fun j e => by cases e; omega)
            have hd5 := hdt2.out.keep b5
            have hbB5 : Below B w W5 := hbB2.trans (b5.mono hBT)
            have hbox5 : W5.heap[w.heap.size]? = some (.cells #[.slice (some ⟨rb, 0, none⟩) rn rc, .slice (some ⟨O, 0, none⟩) nl oc] 50 (0, 0)) := (g5.block w.heap.size hwT (by intro e; injection e with e; omega)).trans hbox2.out
            have hit5 : ITab W5 (w.heap.size + 1 + 1) h (updF f2 y i3) := by rw [hW5]; exact ((hit2.out.set y i3 hyh).keep (Below.refl _ _).drew).keep (Below.refl _ _).drew
            have hown5 := hown2.out.kept g5 (Or.inr hne)
            have htr5 : TrOk (updF f2 y i3) i3 Tl := by rw [HY.out]; exact htr2.out.set i3
            obtain ⟨q0, q1⟩ := cells2 hbox5
            obtain ⟨qx5, -⟩ := HRING.out W5 hbB5 nx hnxr
            rw [← HAN.out] at qx5
            obtain ⟨-, -, -, dq5, -⟩ := hd5.tab y2 hy2h
            have dc5 := hd5.at_ y2 an hy2h hanl
            rw [← HBD.out] at dc5
            have hkk1 : kk + Tl.length + 1 = h := by rw [HKK.out]; exact hkT
            have hky : h - 1 - y2 = k := by have := HY.out; have := HY2.out; omega
            have hlowk : Low over nor sb bottom (k + 1) r Tl := hlow.out
            have hover2 : (over (nor r))[i2]? = some nx := by rw [← HA.out]; exact HNX.out
            have hkeptk : fstT over nor sb (k + 1) (nor r) = restT over nor sb k (nor r) i2 := hkept2.out k HKK.out
            have HOVER2 := Lib.hid hover2
            have HKEPT := Lib.hid hkeptk
            have HLOWK := Lib.hid hlowk
            have HG2 := Lib.hid hg2.out
            have HD5 := Lib.hid hd5
            have HBOX5 := Lib.hid hbox5
            have HIT5 := Lib.hid hit5
            have HOWN5 := Lib.hid hown5
            have HTR5 := Lib.hid htr5
            clear hover2 hkeptk hlowk hd5 hbox5 hit5 hown5 htr5 hown2 hit2 htr2 hdt2 hbox2 hkept2 hW5 g5 qi qo qn qx dq dc fi hg2
            have hn16 : n1 ≤ 6 := by have := HN1.out; omega
            have hW5s : w.heap.size + 1 + 1 < W5.heap.size := HIT5.out.lt
            cases bd
            · go_region
              go_wp2_with (first
                | (at_builtin; refine wpList_append_own_at _ rfl _ _ 25 rfl (w.heap.size + 1) 3 i0 _ 1 8 Tryd.underlying25 hi hz0 hz1 hz2 rfl (by decide) _ _ _ rfl ((HOWN5.out.alloc _).drew) ⟨W5.heap.size, 0, none⟩ 1 1 [.int .i64 (nx : Int)] rfl rfl (fun jj uu hh => cell_one_new W5 (.int .i64 (nx : Int)) 3 jj uu hh) (one_int (nx : Int)) (by simp only [maxLen]; omega) (by omega) (by simp; omega) ?_; intro v7 w7 hown7 hgrow7' hnil7' hat7'; have hgrow7 := grown_of_drew (r := (Value.slice (some ⟨tg, tf, none⟩) n1 c).ownBlock) hgrow7' rfl; have hat7 := at_to (r := (Value.slice (some ⟨tg, tf, none⟩) n1 c).ownBlock) hat7' rfl; clear hgrow7' hnil7' hat7'; obtain ⟨A7, c7, rfl⟩ := own_sl hown7; have hit7 := HIT5.out.grown hgrow7 (fun e => hne e.symm); have z7 := hit7.at_ y2 hy2h; have zf7 := hit7.fr y2)
                | fail)
              have tgT : w.heap.size + 1 ≤ tg := (HOWN5.out.lt tg rfl).1
              have hz7 := hgrow7.size
              have g8 := grown_one w7 (w.heap.size + 1 + 1) y2 (.int .i64 0)
              have hrow7 : ∀ j, (Value.slice (some ⟨tg, tf, none⟩) n1 c).ownBlock = some j → w.heap.size + 1 ≤ j := fun j e => (HOWN5.out.lt j e).1
              have b7 : Below w.heap.size W5 w7 := (Below.refl w.heap.size W5).grown hgrow7 (by omega) (fun j e => Nat.le_of_succ_le (hrow7 j e))
              have b8 : Below w.heap.size W5 (w7.setCell ⟨w.heap.size + 1 + 1, y2, none⟩ (.int .i64 0)) := b7.grown g8 (by omega) (fun j e => by cases e; omega)
              have hd8 := HD5.out.keep b8
              have hbB8 := hbB5.trans (b8.mono hBT)
              have hbox8 := (g8.block w.heap.size (by omega) (by intro e; injection e with e; omega)).trans ((hgrow7.block w.heap.size (by omega) (fun e => by have := hrow7 _ e.symm; omega)).trans HBOX5.out)
              have hit8 : ITab (w7.setCell ⟨w.heap.size + 1 + 1, y2, none⟩ (.int .i64 0)) (w.heap.size + 1 + 1) h (updF (updF f2 y i3) y2 0) := hit7.set y2 0 hy2h
              have hne7 : (Value.slice A7 (n1 + 1) c7).ownBlock ≠ some (w.heap.size + 1 + 1) := by
                rcases hat7 with e | e
                · rw [e]; exact hne
                · rw [e]; intro e'; injection e' with e'; omega
              have hown8 := hown7.kept g8 (Or.inr hne7)
              have e8 : vals (idxI (twr r Tl)) ++ [Value.int .i64 (nx : Int)] = vals (idxI (twr nx ((r, i3) :: Tl))) := by rw [twr_put]; simp [vals, idxI]
              rw [e8] at hown8
              have HOW8 := Lib.hid hown8
              have HD8 := Lib.hid hd8
              have HBX8 := Lib.hid hbox8
              have HIT8 := Lib.hid hit8
              clear hown7 hgrow7 hown8 hat7 hit7 z7 zf7 e8 g8 b7 b8 hd8 hbox8 hit8 q0 q1 qx5 dq5 dc5
              go_roundg (topC over nor k (nor nx) 0 + lowC over nor k ((r, i3) :: Tl))
              case measure =>
                have h1 := put_less (over := over) (nor := nor) (k := k) (r := r) (i := i2) (T := Tl) HOVER2.out
                have h2 := HG2.out
                rw [HKK.out] at h2
                rw [HI3.out]
                omega
              case rel =>
                refine ⟨F', HD8.out, hdo, HBX8.out, hbB8, Or.inr ⟨nx, 0, k, (r, i3) :: Tl, updF (updF f2 y i3) y2 0, ?_, hne7, HIT8.out, ?_, ?_, ?_, fun k' e => ?_, rfl, hnxr, ?_⟩⟩
                · show World.ownsRow _ _ _ _ _ _ _
                  rw [List.length_cons, show Tl.length + 1 + 1 = n1 + 1 by rw [HN1.out, HY.out]]
                  exact HOW8.out
                · show TrOk _ _ _
                  rw [HY2.out, HY.out]
                  rw [HY.out] at HTR5
                  exact HTR5.out.put
                · show Low _ _ _ _ _ _ _
                  rw [HI3.out]
                  exact HLOWK.out.put HKEPT.out HOVER2.out
                · rw [List.length_cons]; omega
                · exact fst_rest over nor sb k' (nor nx)
                · intro p hp
                  rcases List.mem_cons.1 hp with e | hp
                  · rw [e]; exact hrr
                  · exact hTl.out p hp
            · have hdead : fstT over nor sb k (nor nx) = none := by
                have := hdo.out y2 an hy2h (by exact HBD.out.symm)
                rw [hky, HAN.out] at this
                exact this
              have HDEAD1 := Lib.hid hdead
              clear hdead
              go_region
              go_wp2_with fail
              go_roundg (topC over nor kk (nor r) i3 + lowC over nor kk Tl)
              case measure =>
                have h1 := skip_less (nor := nor) (k := k) HOVER2.out
                rw [HG2.out, HKK.out, HI3.out]
                omega
              case rel =>
                refine ⟨i3, updF f2 y i3, rfl, HOWN5.out.drew, HIT5.out.keep (Below.refl _ _).drew, HTR5.out, HD5.out.keep (Below.refl _ _).drew, HBOX5.out, hbB5.drew, ?_, rfl, ?_⟩
                · intro k' e
                  have e' : k' = k := by have := HKK.out; omega
                  subst e'
                  rw [HKEPT.out, HI3.out]
                  exact rest_skip HOVER2.out HDEAD1.out
                · have h1 := skip_less (nor := nor) (k := k) HOVER2.out
                  have h2 := HG2.out
                  rw [HKK.out] at h2 ⊢
                  rw [HI3.out]
                  omega
          · have hiL' : ¬ ((i2 : Int) < (L : Int)) := by omega
            have hnon : Hid (fstT over nor sb kk (nor r) = none) := by
              show _ = _
              have h1 := hkept2.out k HKK.out
              rw [HKK.out, h1]
              exact rest_end (by rw [← HA.out, ← HLO.out]; omega)
            obtain ⟨hQm, hQB, hQT, dq, hbt⟩ := hdt2.out.tab y hyh
            have dc := hdt2.out.at_ y a hyh har
            have df := hbt.2.2 a
            have yh' : (y : Int) < (h : Int) := by omega
            have ea0 : (0 : Int) ≤ (a : Int) := by omega
            have eal : (a : Int) < (nl : Int) := by omega
            have hyc : y ≤ c := by omega
            have HBT := Lib.hid hbt
            clear hbt
            go_wp2_with fail
            go_region
            go_wp2_with fail
            have hG : wi.grownBy (wi.setCell ⟨Q y, a, none⟩ (.bool true)).drew (some (Q y)) := grown_drew (grown_one wi (Q y) a (.bool true))
            have hd9 := (hdt2.out.mark y a hyh har).keep (w' := (wi.setCell ⟨Q y, a, none⟩ (.bool true)).drew) (Below.refl _ _).drew
            have hlowk : Low over nor sb bottom kk r Tl := by rw [HKK.out]; exact hlow.out
            have hkk1 : kk + Tl.length + 1 = h := by rw [HKK.out]; exact hkT
            have hky : h - 1 - y = kk := by have := HY.out; omega
            have hdo9 : DeadOk over nor sb h fun y' l' => if y' = y ∧ l' = a then true else F' y' l' := hdo.out.mark (by rw [hky, HA.out]; exact hnon.out)
            have hwT : w.heap.size < wi.heap.size := (Array.getElem?_eq_some_iff.1 hbox2.out).1
            have hbox9 := (hG.block w.heap.size hwT (by intro e; injection e with e; omega)).trans hbox2.out
            have hbB9 := hbB2.grown hG (by omega) (fun j e => by cases e; exact hQB)
            have hit9 := hit2.out.grown hG (by intro e; injection e with e; omega)
            have hown9 := own_prefix (y := y) (hown2.out.kept hG (Or.inr fun e => by have := (hown2.out.lt _ e).1; omega)) (by have := HN1.out; omega)
            have hnone9 := hnon.out
            have hg2' := hg2.out
            have hkept9 := hkept2.out
            have htr9 := htr2.out
            have HOW9 := Lib.hid hown9
            clear hown9 hown2 hdt2 hbox2 hit2 q0 q1 qi qo dq dc df hG
            cases Tl with
            | nil =>
              have hy0 : y = 0 := HY.out
              subst hy0
              have hrb : r = bottom := hlowk.len rfl
              go_roundg 0
              case measure =>
                have h1 : 1 ≤ topC over nor kk (nor r) i2 := by cases kk <;> simp [topC]
                omega
              case rel => exact ⟨_, hd9, hdo9, hbox9, hbB9, Or.inl ⟨some ⟨tg, tf, none⟩, c, rfl, by show _ = _; rw [← hrb, ← show kk = h - 1 by simp at hkk1; omega]; exact hnone9⟩⟩
            | cons p Tl =>
              obtain ⟨r3, i3⟩ := p
              obtain ⟨low3, kept3⟩ := hlowk.falls hnone9
              have hyl : y = Tl.length + 1 := HY.out
              have htk : (vals (idxI (twr r ((r3, i3) :: Tl)))).take y = vals (idxI (twr r3 Tl)) := by
                unfold vals idxI
                rw [List.map_map, List.map_map, ← List.map_take, hyl, twr_fall]
              have hmem3 := hTl.out (r3, i3) (by simp)
              have hTl3 : ∀ p ∈ Tl, p.1 < rn := fun p hp => hTl.out p (by simp [hp])
              go_roundg (topC over nor (kk + 1) (nor r3) i3 + lowC over nor (kk + 1) Tl)
              case measure =>
                have := fall_less (over := over) (nor := nor) (k := kk) (l := nor r) (j := i2) (r := r3) (i := i3) (T := Tl)
                omega
              case rel =>
                refine ⟨_, hd9, hdo9, hbox9, hbB9, Or.inr ⟨r3, i3, kk + 1, Tl, f2, ?_, ?_, hit9, htr9.2, low3, ?_, ?_, rfl, hmem3, hTl3⟩⟩
                · show World.ownsRow _ _ _ _ _ _ _
                  rw [← htk, ← hyl]
                  exact HOW9.out
                · exact hne
                · simp at hkk1; omega
                · intro k' e
                  have e' : k' = kk := by omega
                  subst e'
                  exact kept3
end
section
open Go.RowKit Go.Maps Go.BigFrame Go.Sort
set_option linter.unusedVariables false
set_option linter.unusedSimpArgs false
set_option maxRecDepth 100000

theorem there_sub {w : World} {b n o k : Nat} (h : w.there b 0 n) (hk : o + k ≤ n) : w.there b o k := fun j hj => by
  have := h (o + j) (by omega)
  rwa [Nat.zero_add] at this
theorem own_there {w : World} {base n b c size : Nat} {e : TypeId} {xs : List Value} (h : w.ownsRow base e size (.slice (some ⟨b, 0, none⟩) n c) n xs) : w.there b 0 (n * size) := by
  rcases h.2 with ⟨h0, _⟩ | ⟨g, cap, cur, hv, hb, hh, hnc, hm, hs, hx⟩
  · simp at h0
  · have hg : b = g := by simp at hv; exact hv.1
    subst hg
    have hc : c = cap := by simpa using hv
    subst hc
    have ht := there_block hh
    rw [hs] at ht
    exact there_sub ht (by have := Nat.mul_le_mul_right size hnc; omega)
theorem there_keep {w w' : World} {b o n : Nat} (h : w.there b o n) (hb : w'.heap[b]? = w.heap[b]?) : w'.there b o n := fun j hj => by
  obtain ⟨h1, h2⟩ := h j hj
  exact ⟨by rw [World.cell?_of_block (a := ⟨b, o + j, none⟩) hb]; exact h1, (World.frozen?_of_block (a := ⟨b, o + j, none⟩) hb).trans h2⟩
/-- what ringsAt returns: the rings of the list rs -/
def IsRingsAt (s : List Tl) (x n : Nat) (rs : List (List Nat)) (W : World) (e : Ending) (w' : World) : Prop :=
  ∃ g, e = .returned (.slice (some ⟨g, 0, none⟩) n n) ∧ Below W.heap.size W w' ∧ W.heap.size ≤ g ∧ g < w'.heap.size ∧ ∀ y r, rs[y]? = some r → w'.rangeAt g (y * 8) (ringV s x r)
set_option maxHeartbeats 4000000 in
theorem ringsAt_any (s : List Tl) (x rb rn rc O nl oc n c : Nat) (A : Option Addr) (u : List Nat) (w : World) (hx : x ≤ 6) (hrn : rn = (ringsE s x).length) (hrn9 : rn ≤ 100000000)
    (hR : ∀ W, Below w.heap.size w W → ∀ i r, (ringsE s x)[i]? = some r → W.rangeAt rb (i * 8) (ringV s x r)) (hu : n = u.length) (hn : n ≤ 6) (hI : IntsIn w w.heap.size A (idxI u)) (hul : ∀ i ∈ u, i < rn) :
    Calls Tryd.prog 36 #[.agg #[.slice (some ⟨rb, 0, none⟩) rn rc, .slice (some ⟨O, 0, none⟩) nl oc], .slice A n c] w (IsRingsAt s x n (u.map fun i => (ringsE s x).getD i []) w) := by
  obtain ⟨i0, hi, hz0, hz1, hz2⟩ := info_parts ring_info
  have hby : i0.bytes * n ≤ 281474976710656 := by rw [hz2]; omega
  have HR := Lib.hid hR
  have HU := Lib.hid hu
  have HI := Lib.hid hI
  have HUL := Lib.hid hul
  have HRN := Lib.hid hrn
  clear hR hu hI hul hrn
  go_enter Tryd.func36, Tryd.ntmps36
  go_wp2_with (first
    | (at_make; refine wpList_make_full _ rfl _ _ 47 rfl (w.heap.size + 1) 75 i0 (.agg #[.int .i64 0, .int .i64 0, .int .i64 0, .int .i64 0, .int .i64 0, .int .i64 0, .int .i64 0, .int .i64 0]) 8 Tryd.underlying47 hi hz0 hz1 .i64 .i64 _ _ n rfl rfl rfl rfl hby (by simp only [maxLen]; omega) (by simp) ?_; intro w3 hown3 hgrow3)
    | fail)
  have hb3 : Below w.heap.size w w3 := ((Below.refl _ _).alloc (Nat.le_refl _) _).grown hgrow3 (by simp) (fun j hj => by cases hj)
  have hth3 : w3.there (w.heap.size + 1) 0 (n * 8) := by simpa using own_there hown3
  have hlt3 : w.heap.size + 1 < w3.heap.size := by
    have := (hown3.lt _ rfl).2
    simpa using this
  have hbox3 : w3.heap[w.heap.size]? = some (.cells #[.slice (some ⟨rb, 0, none⟩) rn rc, .slice (some ⟨O, 0, none⟩) nl oc] 50 (0, 0)) := (hgrow3.block _ (by simp) (by simp)).trans (heap_at w _ _ rfl)
  clear hown3 hgrow3
  go_loopw [13] (fun i wr => ∃ y : Nat, y ≤ n ∧ i = .int .i64 y ∧ Hid (wr.there (w.heap.size + 1) 0 (n * 8)) ∧ Hid (wr.heap[w.heap.size]? = some (.cells #[.slice (some ⟨rb, 0, none⟩) rn rc, .slice (some ⟨O, 0, none⟩) nl oc] 50 (0, 0))) ∧ Below w.heap.size w wr ∧ w.heap.size + 1 < wr.heap.size ∧
    Hid (∀ y' r, y' < y → (u.map fun i => (ringsE s x).getD i [])[y']? = some r → wr.rangeAt (w.heap.size + 1) (y' * 8) (ringV s x r))) (fun i _ => n - (intOf i).toNat)
  case atStart => exact ⟨0, Nat.zero_le _, rfl, hth3, hbox3, hb3, hlt3, fun y' r h _ => by omega⟩
  case round =>
    clear hth3 hbox3 hb3 hlt3
    obtain ⟨y, hy, rfl, hth, hbox, hbw, hlt, hdone⟩ := hrel
    obtain ⟨wo, rfl⟩ : ∃ wo : World, wo = wr := ⟨_, rfl⟩
    by_cases hyn : y < n
    · have hyu : y < u.length := by rw [← HU.out]; exact hyn
      obtain ⟨ab, ao, rfl, hab, hcl⟩ := HI.out (fun e => by have := congrArg List.length e; simp [idxI] at this; subst this; simp at hyu)
      obtain ⟨r, hr⟩ : ∃ r, r = u[y] := ⟨_, rfl⟩
      have hcell := (hbw.cell (p := ⟨ab, ao + y, none⟩) hab).trans (hcl y (by simpa [idxI] using hyu))
      have hgd : (idxI u).getD y 0 = (r : Int) := by rw [hr]; simp [idxI, hyu]
      rw [hgd] at hcell
      have hrr : r < rn := HUL.out r (by rw [hr]; exact List.getElem_mem _)
      have hr0 : (0 : Int) ≤ (r : Int) := by omega
      have hr1 : (r : Int) < (rn : Int) := by omega
      have hy0 : (0 : Int) ≤ (y : Int) := by omega
      have hy1 : (y : Int) < (n : Int) := by omega
      obtain ⟨ρ, hρ⟩ : ∃ ρ, (ringsE s x)[r]? = some ρ := ⟨_, List.getElem?_eq_getElem (by rw [← HRN.out]; exact hrr)⟩
      have hrange := HR.out wo hbw r ρ hρ
      have hρ6 : ρ.length ≤ 6 := by rw [(rings_row (List.mem_of_getElem? hρ)).1]; exact hx
      have hmap : (u.map fun i => (ringsE s x).getD i [])[y]? = some ρ := by
        rw [List.getElem?_map, List.getElem?_eq_getElem hyu, ← hr]
        simp [List.getD_eq_getElem?_getD, hρ]
      obtain ⟨q0, q1⟩ := cells2 hbox.out
      have hthy : wo.there (w.heap.size + 1) (y * 8) (ringA s x ρ).size := by
        rw [ringA_size s x ρ hρ6]
        exact there_sub hth.out (by have : (y + 1) * 8 ≤ n * 8 := Nat.mul_le_mul_right 8 hyn; omega)
      have HMAP := Lib.hid hmap
      have HTHY := Lib.hid hthy
      clear hr hcl hgd hρ hmap hyu hthy
      go_wp2_with (first
        | (refine wpList_load_mid rfl _ _ rfl rb (r * 8) rfl (ringV s x ρ) _ hrange Tryd.underlying75 rfl (by rw [ring_size]; simp [ringV_len s x ρ hρ6]) ?_)
        | (refine wpList_store_mid rfl _ _ _ rfl (w.heap.size + 1) (y * 8) (ringA s x ρ) rfl rfl HTHY.out (by rw [ring_size, ringA_size s x ρ hρ6]) (ringA_one s x ρ) ?_))
      obtain ⟨W5, hW5⟩ : ∃ W5, W5 = wo.setCells (w.heap.size + 1) (y * 8) (ringA s x ρ).toList := ⟨_, rfl⟩
      rw [← hW5]
      have hset := setCells_grown (w.heap.size + 1) (ringA s x ρ).toList (y * 8) wo
      rw [← hW5] at hset
      have hth5 : Hid (W5.there (w.heap.size + 1) 0 (n * 8)) := by rw [hW5]; exact World.there_setCells hth.out _ _ _
      have hbox5 : Hid (W5.heap[w.heap.size]? = some (.cells #[.slice (some ⟨rb, 0, none⟩) rn rc, .slice (some ⟨O, 0, none⟩) nl oc] 50 (0, 0))) := (hset.1.block _ (by omega) (by simp)).trans hbox.out
      have hb5 : Below w.heap.size w W5 := hbw.grown hset.1 (by omega) (fun j e => by cases e; omega)
      have hlt5 : w.heap.size + 1 < W5.heap.size := by rw [hset.2]; exact hlt
      have hdone5 : Hid (∀ y' r, y' < y + 1 → (u.map fun i => (ringsE s x).getD i [])[y']? = some r → W5.rangeAt (w.heap.size + 1) (y' * 8) (ringV s x r)) := fun y' r' h1 h2 => by
        rw [hW5]
        by_cases e : y' = y
        · subst e
          rw [HMAP.out] at h2
          cases h2
          exact World.rangeAt_setCells_same _ _ _ _ (by have := HTHY.out; rwa [← Array.length_toList] at this)
        · have h3 := hdone.out y' r' (by omega) h2
          refine World.rangeAt_setCells_apart h3 _ _ _ (Or.inr (Or.inl ?_))
          have h4 : r'.length ≤ 6 := by
            rw [List.getElem?_map] at h2
            cases hq : u[y']? with
            | none => rw [hq] at h2; cases h2
            | some i =>
              rw [hq] at h2
              cases h2
              have hi' : i < (ringsE s x).length := by rw [← HRN.out]; exact HUL.out i (List.mem_of_getElem? hq)
              rw [(rings_row (getD_mem' hi')).1]
              exact hx
          rw [ringV_len s x r' h4]
          omega
      clear hset hW5 hth hbox hdone q0 q1 hrange
      go_roundw
      case rel => exact ⟨y + 1, by omega, by go_num, hth5, hbox5, hb5, hlt5, hdone5⟩
      case measure => simp [intOf]; omega
    · have e : y = n := by omega
      subst e
      have HD := Lib.hid hdone.out
      clear hdone hth hbox
      go_wp2_with fail
      go_ret
      refine ⟨w.heap.size + 1, rfl, hbw, by omega, hlt, fun y' r hr => HD.out y' r ?_ hr⟩
      have := (List.getElem?_eq_some_iff.1 hr).1
      rw [List.length_map] at this
      rw [HU.out]
      exact this
end
section
open Go.RowKit Go.Maps Go.BigFrame Go.Sort
set_option linter.unusedVariables false
set_option linter.unusedSimpArgs false
set_option maxRecDepth 100000

theorem bool_infoT : (Tryd.prog.info? 4).map (fun i => (i.zero, i.size, i.bytes)) = some (some (.bool false), 1, 1) := by kernel_rfl
theorem bools_infoT : (Tryd.prog.info? 77).map (fun i => (i.zero, i.size, i.bytes)) = some (some (.slice none 0 0), 1, 24) := by kernel_rfl
theorem zero_boolT (w : World) : (zeroValue 4).run Tryd.prog w = .ok (.bool false) w := by kernel_rfl
/-- the table of dead lines while it is made: y tables are there -/
structure DeadP (w : World) (B mb x h y : Nat) (Q : Nat → Nat) : Prop where
  le : B ≤ mb
  lt : mb < w.heap.size
  fr : ∀ o, w.frozen? ⟨mb, o, none⟩ = false
  nil : ∀ j, j < h → y ≤ j → w.cell? ⟨mb, j, none⟩ = some (.slice none 0 0)
  tab : ∀ j, j < y → Q j ≠ mb ∧ B ≤ Q j ∧ Q j < w.heap.size ∧ w.cell? ⟨mb, j, none⟩ = some (.slice (some ⟨Q j, 0, none⟩) x x) ∧ BTab w (Q j) x (fun _ => false)
  inj : ∀ j j', j < y → j' < y → Q j = Q j' → j = j'
theorem DeadP.done {w : World} {B mb x h : Nat} {Q : Nat → Nat} (d : DeadP w B mb x h h Q) : DeadT w B w.heap.size mb x h Q fun _ _ => false :=
  ⟨d.le, d.lt, Nat.le_refl _, d.fr, d.tab, d.inj⟩
theorem DeadP.more {w w' : World} {B mb x h y q : Nat} {Q : Nat → Nat} (d : DeadP w B mb x h y Q) (hy : y < h) (hb : Below w.heap.size w w') (hq : w.heap.size ≤ q) (ht : BTab w' q x fun _ => false) :
    DeadP (w'.setCell ⟨mb, y, none⟩ (.slice (some ⟨q, 0, none⟩) x x)) B mb x h (y + 1) (updF Q y q) := by
  have hg := grown_one w' mb y (.slice (some ⟨q, 0, none⟩) x x)
  have hlt := d.lt
  have hle := d.le
  have hs := hb.size
  refine ⟨d.le, by rw [setCell_heap_size]; omega, fun o => by rw [World.frozen?_setCell]; exact (hb.frozen (p := ⟨mb, o, none⟩) d.lt).trans (d.fr o), fun j hj hyj => ?_, fun j hj => ?_, fun j j' hj hj' e => ?_⟩
  · rw [World.cell?_setCell_other _ _ _ _ (fun e => by injection e with _ e2; omega)]
    exact (hb.cell (p := ⟨mb, j, none⟩) d.lt).trans (d.nil j hj (by omega))
  · by_cases e : j = y
    · subst e
      have e1 : updF Q j q j = q := by simp [updF]
      rw [e1]
      have hc := (hb.cell (p := ⟨mb, j, none⟩) d.lt).trans (d.nil j hy (Nat.le_refl _))
      refine ⟨by omega, by omega, ?_, World.cell?_setCell_same _ _ _ hc, ht.grown hg (by intro e; injection e with e; omega)⟩
      rw [setCell_heap_size]
      exact ht.1
    · have e1 : updF Q y q j = Q j := by simp [updF, e]
      rw [e1]
      obtain ⟨h1, h2, h3, h4, h5⟩ := d.tab j (by omega)
      refine ⟨h1, h2, by rw [setCell_heap_size]; omega, ?_, (h5.keep hb).grown hg (by intro e; injection e with e; exact h1 e)⟩
      rw [World.cell?_setCell_other _ _ _ _ (fun e' => by injection e' with _ e2; omega)]
      exact (hb.cell (p := ⟨mb, j, none⟩) d.lt).trans h4
  · by_cases e1 : j = y
    · by_cases e2 : j' = y
      · omega
      · have h3 := (d.tab j' (by omega)).2.2.1
        simp only [updF, e1, if_true, if_neg e2] at e
        omega
    · by_cases e2 : j' = y
      · have h3 := (d.tab j (by omega)).2.2.1
        simp only [updF, e2, if_true, if_neg e1] at e
        omega
      · simp only [updF, if_neg e1, if_neg e2] at e
        exact d.inj j j' (by omega) (by omega) e
/-- the same tables, lower -/
theorem DeadT.lower {w : World} {B T T' mb x h : Nat} {Q : Nat → Nat} {F : Nat → Nat → Bool} (d : DeadT w B T mb x h Q F) (h0 : mb < T') (h1 : ∀ y, y < h → Q y < T') (h2 : T' ≤ w.heap.size) : DeadT w B T' mb x h Q F where
  le := d.le
  lt := h0
  up := h2
  fr := d.fr
  tab y hy := by
    obtain ⟨a, b, c, e, f⟩ := d.tab y hy
    exact ⟨a, b, h1 y hy, e, f⟩
  inj := d.inj
theorem DeadT.congr {w : World} {B T mb x h : Nat} {Q : Nat → Nat} {F G : Nat → Nat → Bool} (d : DeadT w B T mb x h Q F) (e : ∀ y l, y < h → l < x → F y l = G y l) : DeadT w B T mb x h Q G where
  le := d.le
  lt := d.lt
  up := d.up
  fr := d.fr
  tab y hy := by
    obtain ⟨a, b, c, e', f⟩ := d.tab y hy
    exact ⟨a, b, c, e', f.congr fun L hL => by simpa using e y L hy hL⟩
  inj := d.inj
theorem btab_clear {w : World} {q n : Nat} {f : Int → Bool} (h : BTab w q n f) : BTab (w.setCells q 0 (List.replicate n (.bool false))) q n fun _ => false := by
  have ht : w.there q 0 (List.replicate n (Value.bool false)).length := fun j hj => by
    rw [List.length_replicate] at hj
    rw [Nat.zero_add]
    exact ⟨by rw [h.2.1 j hj]; rfl, h.2.2 j⟩
  have hr := World.rangeAt_setCells_same w q 0 (List.replicate n (.bool false)) ht
  have hg := setCells_grown q (List.replicate n (.bool false)) 0 w
  refine ⟨by rw [hg.2]; exact h.1, fun L hL => ?_, fun o => ?_⟩
  · have := hr L (.bool false) (by simp [hL])
    simpa using this
  · have : ∀ (vs : List Value) (o' : Nat) (W : World), W.frozen? ⟨q, o, none⟩ = false → (W.setCells q o' vs).frozen? ⟨q, o, none⟩ = false := by
      intro vs
      induction vs with
      | nil => intro o' W h; exact h
      | cons v vs ih => intro o' W h; exact ih (o' + 1) _ (by rw [World.frozen?_setCell]; exact h)
    exact this _ _ _ (h.2.2 o)
/-- the indices of the rings of the first tower -/
def firstT (s : List Tl) (x h : Nat) : Option (List Nat) := (List.range (ringsE s x).length).findSome? fun b => towerT (ovT s x) (noT s x) (soT s x) h b
/-- the same over the first j bottoms -/
def firstK (s : List Tl) (x h j : Nat) : Option (List Nat) := (List.range j).findSome? fun b => towerT (ovT s x) (noT s x) (soT s x) h b
theorem firstK_none (s : List Tl) (x h j : Nat) (h0 : firstK s x h j = none) (h1 : towerT (ovT s x) (noT s x) (soT s x) h j = none) : firstK s x h (j + 1) = none := by
  unfold firstK at h0 ⊢
  rw [List.range_succ, List.findSome?_append, h0]
  simp [h1]
theorem firstK_some (s : List Tl) (x h j : Nat) (hj : j < (ringsE s x).length) (u : List Nat) (h0 : firstK s x h j = none) (h1 : towerT (ovT s x) (noT s x) (soT s x) h j = some u) : firstT s x h = some u := by
  unfold firstK at h0
  unfold firstT
  have e : List.range (ringsE s x).length = List.range j ++ j :: (List.range ((ringsE s x).length - (j + 1))).map (j + 1 + ·) := by
    have h2 : (ringsE s x).length = j + (1 + ((ringsE s x).length - (j + 1))) := by omega
    conv => lhs; rw [h2, List.range_add, List.range_add]
    simp [Nat.add_assoc, Nat.add_comm, Nat.add_left_comm]
  rw [e, List.findSome?_append, h0]
  simp [h1]
/-- its rings are the first torus -/
theorem firstT_tors (s : List Tl) (x h : Nat) (hh : 1 ≤ h) : (firstT s x h).map (fun u => u.map fun i => (ringsE s x).getD i []) = (torsE s x h).head? := by
  unfold firstT
  rw [findSome_map]
  exact tower_first s x h hh (numT s x) (numT_inj s x)
theorem fst_idx {over : Nat → List Nat} {nor : Nat → Nat} {s rn : Nat} (ho : ∀ l, ∀ r ∈ over l, r < rn) : ∀ (k l : Nat) (u : List Nat), fstT over nor s k l = some u → ∀ i ∈ u, i < rn
  | 0, l, u, h, i, hi => by
    simp only [fstT] at h
    split at h
    · cases h; cases hi
    · cases h
  | k + 1, l, u, h, i, hi => by
    obtain ⟨r, hr, hr2⟩ := List.exists_of_findSome?_eq_some h
    cases e : fstT over nor s k (nor r) with
    | none => rw [e] at hr2; cases hr2
    | some v =>
      rw [e] at hr2
      cases hr2
      rcases List.mem_cons.1 hi with h1 | h1
      · rw [h1]; exact ho l r hr
      · exact fst_idx ho k _ v e i h1
theorem tower_idx {over : Nat → List Nat} {nor sou : Nat → Nat} {h b rn : Nat} (ho : ∀ l, ∀ r ∈ over l, r < rn) (hb : b < rn) {u : List Nat} (e : towerT over nor sou h b = some u) : ∀ i ∈ u, i < rn := by
  unfold towerT at e
  cases e' : fstT over nor (sou b) (h - 1) (nor b) with
  | none => rw [e'] at e; cases e
  | some v =>
    rw [e'] at e
    cases e
    intro i hi
    rcases List.mem_cons.1 hi with h1 | h1
    · rw [h1]; exact hb
    · exact fst_idx ho _ _ _ e' i h1
/-- what first returns -/
def IsFirstT (s : List Tl) (x h : Nat) (W : World) (e : Ending) (w' : World) : Prop :=
  Below W.heap.size W w' ∧ match firstT s x h with
    | none => e = .returned (.slice none 0 0)
    | some u => ∃ g, e = .returned (.slice (some ⟨g, 0, none⟩) h h) ∧ W.heap.size ≤ g ∧ g < w'.heap.size ∧ u.length = h ∧ (∀ i ∈ u, i < (ringsE s x).length) ∧ ∀ y r, (u.map fun i => (ringsE s x).getD i [])[y]? = some r → w'.rangeAt g (y * 8) (ringV s x r)
set_option maxHeartbeats 8000000 in
theorem first_anyT (s : List Tl) (x h rc O oc : Nat) (R : Option Addr) (w : World) (hx : x ≤ 6) (hh1 : 1 ≤ h) (hh6 : h ≤ 6) (hrn9 : (ringsE s x).length ≤ 100000000) (hB : BandIn s x w w.heap.size R O) :
    Calls Tryd.prog 21 #[.agg #[.slice R (ringsE s x).length rc, .slice (some ⟨O, 0, none⟩) (nlT s x) oc], .int .i64 (h : Nat)] w (IsFirstT s x h w) := by
  obtain ⟨i0, hi, hz0, hz1, hz2⟩ := info_parts bool_infoT
  obtain ⟨i1, gi, gz0, gz1, gz2⟩ := info_parts bools_infoT
  obtain ⟨rn, hrn⟩ : ∃ rn, rn = (ringsE s x).length := ⟨_, rfl⟩
  obtain ⟨nl, hnl⟩ : ∃ nl, nl = nlT s x := ⟨_, rfl⟩
  rw [← hrn] at hrn9 ⊢
  rw [← hnl]
  have hnl9 : nl ≤ 200000000 := by
    have := lines6_len s (ringsE s x)
    rw [hnl]
    unfold nlT
    omega
  have hby : i0.bytes * nl ≤ 281474976710656 := by rw [hz2]; omega
  have hby1 : i1.bytes * h ≤ 281474976710656 := by rw [gz2]; omega
  have HRN := Lib.hid hrn
  have HNL := Lib.hid hnl
  have HB := Lib.hid hB
  clear hrn hnl hB
  go_enter Tryd.func21, Tryd.ntmps21
  go_wp2_with (first
    | (at_make; refine wpList_make_full _ rfl _ _ 76 rfl (w.heap.size + 1) 77 i1 (.slice none 0 0) 1 Tryd.underlying76 gi gz0 gz1 .i64 .i64 _ _ h rfl rfl rfl rfl hby1 (by simp only [maxLen]; omega) (by simp) ?_; intro w3 hown3 hgrow3)
    | fail)
  obtain ⟨hlt3, hcw3, hfz3⟩ := own_words hown3
  have hs3 : w.heap.size + 1 < w3.heap.size := by simpa using hlt3
  have hb3 : Below w.heap.size w w3 := ((Below.refl _ _).alloc (Nat.le_refl _) _).grown hgrow3 (by simp) (fun j hj => by cases hj)
  have hbox3 : w3.heap[w.heap.size]? = some (.cells #[.slice R rn rc, .slice (some ⟨O, 0, none⟩) nl oc] 50 (0, 0)) := (hgrow3.block _ (by simp) (by simp)).trans (heap_at w _ _ rfl)
  have hdp3 : DeadP w3 (w.heap.size + 1) (w.heap.size + 1) nl h 0 (fun _ => 0) := by
    refine ⟨Nat.le_refl _, hs3, fun o => by simpa using hfz3 o, fun j hj _ => ?_, fun j hj => by omega, fun j j' hj => by omega⟩
    have := (hcw3 j hj).trans (made_at (.slice none 0 0) (h * 1) j (by omega))
    simpa using this
  clear hown3 hgrow3 hlt3 hcw3 hfz3
  go_loopw [15] (fun i wr => ∃ (y : Nat) (Q : Nat → Nat), y ≤ h ∧ i = .int .i64 y ∧ Hid (DeadP wr (w.heap.size + 1) (w.heap.size + 1) nl h y Q) ∧ Hid (wr.heap[w.heap.size]? = some (.cells #[.slice R rn rc, .slice (some ⟨O, 0, none⟩) nl oc] 50 (0, 0))) ∧ Below w.heap.size w wr) (fun i _ => h - (intOf i).toNat)
  case atStart => exact ⟨0, fun _ => 0, Nat.zero_le _, rfl, hdp3, hbox3, hb3⟩
  case round =>
    clear hdp3 hbox3 hb3 hs3
    obtain ⟨y, Q, hy, rfl, hdp, hbox, hbw⟩ := hrel
    obtain ⟨wo, rfl⟩ : ∃ wo : World, wo = wr := ⟨_, rfl⟩
    obtain ⟨q0, q1⟩ := cells2 hbox.out
    have hmlt := hdp.out.lt
    by_cases hyh : y < h
    · have hy0 : (0 : Int) ≤ (y : Int) := by omega
      have hy1 : (y : Int) < (h : Int) := by omega
      have hnily := hdp.out.nil y hyh (Nat.le_refl _)
      have hfry := hdp.out.fr y
      go_wp2_with (first
        | (at_make; refine wpList_make_full _ rfl _ _ 77 rfl wo.heap.size 4 i0 (.bool false) 1 Tryd.underlying77 hi hz0 hz1 .i64 .i64 _ _ nl rfl rfl rfl rfl hby (by simp only [maxLen]; omega) (Nat.le_refl _) ?_; intro w4 hown4 hgrow4; have hb4 : Below wo.heap.size wo w4 := ⟨hgrow4.os, hgrow4.tape, hgrow4.output, hgrow4.size, fun k hk => hgrow4.block k hk (by simp)⟩; have z4 := (hb4.cell (p := ⟨w.heap.size + 1, y, none⟩) hmlt).trans hnily; have zf4 := (hb4.frozen (p := ⟨w.heap.size + 1, y, none⟩) hmlt).trans hfry)
        | fail)
      obtain ⟨hlt4, hcw4, hfz4⟩ := own_words hown4
      have hbt : BTab w4 wo.heap.size nl fun _ => false := ⟨hlt4, fun L hL => (hcw4 L hL).trans (made_at (.bool false) (nl * 1) L (by omega)), hfz4⟩
      have hdp5 := hdp.out.more hyh hb4 (Nat.le_refl _) hbt
      have hg5 := grown_one w4 (w.heap.size + 1) y (.slice (some ⟨wo.heap.size, 0, none⟩) nl nl)
      have hbox5 : Hid ((w4.setCell ⟨w.heap.size + 1, y, none⟩ (.slice (some ⟨wo.heap.size, 0, none⟩) nl nl)).heap[w.heap.size]? = some (.cells #[.slice R rn rc, .slice (some ⟨O, 0, none⟩) nl oc] 50 (0, 0))) := (hg5.block _ (by have := hb4.size; omega) (by simp)).trans ((hb4.block _ (by omega)).trans hbox.out)
      have hb5 : Below w.heap.size w (w4.setCell ⟨w.heap.size + 1, y, none⟩ (.slice (some ⟨wo.heap.size, 0, none⟩) nl nl)) := (hbw.trans (hb4.mono hbw.size)).grown hg5 (by have := hb4.size; omega) (fun j e => by cases e; omega)
      have HDP5 := Lib.hid hdp5
      clear hown4 hgrow4 hdp5 hbt hcw4 hfz4 hlt4 z4 zf4 hnily hfry hg5 hb4 q0 q1 hdp hbox hbw
      go_roundw
      case rel => exact ⟨y + 1, updF Q y wo.heap.size, by omega, by go_num, HDP5.out, hbox5, hb5⟩
      case measure => simp [intOf]; omega
    · have e : h = y := by omega
      subst e
      have HDT := Lib.hid hdp.out.done
      have HBOX := Lib.hid hbox.out
      have hbwo := hbw
      clear hdp hbox
      go_wp2_with fail
      go_loopw [29] (fun i wr => ∃ j T : Nat, j ≤ rn ∧ i = .int .i64 j ∧ Hid (DeadT wr (w.heap.size + 1) T (w.heap.size + 1) nl h Q fun _ _ => false) ∧ Hid (wr.heap[w.heap.size]? = some (.cells #[.slice R rn rc, .slice (some ⟨O, 0, none⟩) nl oc] 50 (0, 0))) ∧ Below w.heap.size w wr ∧ Hid (firstK s x h j = none)) (fun i _ => rn - (intOf i).toNat)
      case atStart => exact ⟨0, wo.heap.size, Nat.zero_le _, rfl, HDT.out, HBOX.out, hbwo, rfl⟩
      case round =>
        clear HDT HBOX q0 q1 hmlt hbwo hbw
        obtain ⟨j, T, hj, rfl, hdt, hbox, hbw, hno⟩ := hrel
        obtain ⟨wi, rfl⟩ : ∃ wi : World, wi = wr := ⟨_, rfl⟩
        obtain ⟨q0, q1⟩ := cells2 hbox.out
        by_cases hjn : j < rn
        · have hjl : j < (ringsE s x).length := by rw [← HRN.out]; exact hjn
          obtain ⟨rb, rfl, hrb, hrg⟩ := HB.out.rings (fun e => by rw [e] at hjl; simp at hjl)
          have hsw : w.heap.size < wi.heap.size := (Array.getElem?_eq_some_iff.1 hbox.out).1
          have hB1 : ∀ W, Below (w.heap.size + 1) wi W → Below w.heap.size w W := fun W hb => hbw.trans (hb.mono (by omega))
          have hring : ∀ W, Below (w.heap.size + 1) wi W → ∀ i, i < rn → W.cell? ⟨rb, i * 8 + 6, none⟩ = some (.int .i64 (noT s x i : Nat)) ∧ W.cell? ⟨rb, i * 8 + 7, none⟩ = some (.int .i64 (soT s x i : Nat)) := fun W hb i hi' => by
            have hil : i < (ringsE s x).length := by rw [← HRN.out]; exact hi'
            obtain ⟨r, hr⟩ : ∃ r, (ringsE s x)[i]? = some r := ⟨_, List.getElem?_eq_getElem hil⟩
            have hk := rangeAt_keep (hrg i r hr) (hB1 W hb) hrb
            have h6 := ringA_at s x r (by rw [(rings_row (List.mem_of_getElem? hr)).1]; exact hx)
            have hgd : (ringsE s x).getD i [] = r := by rw [List.getD_eq_getElem?_getD, hr]; rfl
            unfold noT soT
            rw [hgd]
            exact ⟨hk 6 _ h6.1, hk 7 _ h6.2⟩
          have hover : ∀ W, Below (w.heap.size + 1) wi W → ∀ l, l < nl → ∃ A c, W.cell? ⟨O, l, none⟩ = some (.slice A (ovT s x l).length c) ∧ ∀ i r, (ovT s x l)[i]? = some r → r < rn ∧ ∃ ab ao, A = some ⟨ab, ao, none⟩ ∧ W.cell? ⟨ab, ao + i, none⟩ = some (.int .i64 (r : Nat)) := fun W hb l hl => by
            obtain ⟨A, c, h1, h2⟩ := HB.out.over l (by rw [← HNL.out]; exact hl)
            refine ⟨A, c, ((hB1 W hb).cell (p := ⟨O, l, none⟩) HB.out.lt).trans h1, fun i r hr => ⟨by rw [HRN.out]; exact ovT_lt (List.mem_of_getElem? hr), ?_⟩⟩
            have hil := (List.getElem?_eq_some_iff.1 hr).1
            obtain ⟨ab, ao, hA, hab, hcl⟩ := h2 (fun e => by have := congrArg List.length e; simp [idxI] at this; rw [this] at hil; simp at hil)
            refine ⟨ab, ao, hA, ((hB1 W hb).cell (p := ⟨ab, ao + i, none⟩) hab).trans ((hcl i (by simpa [idxI] using hil)).trans ?_)⟩
            simp [idxI, hr]
          have hnor : ∀ i, i < rn → noT s x i < nl := fun i hi' => by
            rw [HNL.out]
            unfold noT
            exact (numT_lt s x (getD_mem' (by rw [← HRN.out]; exact hi'))).2
          have hnl0 : 0 < nl := Nat.lt_of_le_of_lt (Nat.zero_le _) (hnor j hjn)
          have hc := climb_abs (ovT s x) (noT s x) (soT s x) (w.heap.size + 1) (w.heap.size + 1) nl h h rn rc rb O oc j Q wi hring hover hnor hjn hrn9 hh1 hh6 (fun l => Nat.le_trans (ovT_len s x l) (by rw [← HRN.out]; exact hrn9)) (by omega) (hdt.out.mono hdt.out.up (Nat.le_refl _))
          have hQT : ∀ y, y < h → Q y < T := fun y hy => (hdt.out.tab y hy).2.2.1
          have HC := Lib.hid hc
          have HRG := Lib.hid hrg
          have HQT := Lib.hid hQT
          have hTw := hdt.out.up
          have hmT := hdt.out.lt
          clear hc hring hover hnor hrg hjl hQT hB1
          cases htw : towerT (ovT s x) (noT s x) (soT s x) h j with
          | none =>
            have hno1 : Hid (firstK s x h (j + 1) = none) := firstK_none s x h j hno.out htw
            have HTW := Lib.hid htw
            clear htw
            go_wp2_with (first
              | (go_at_call 35; refine HC.out.mono ?_; rintro e w5 ⟨v5, F5, rfl, hb5, hd5, hres⟩; rw [HTW.out] at hres; obtain rfl : v5 = .slice none 0 0 := hres)
              | fail)
            have hbox5 : Hid (w5.heap[w.heap.size]? = some (.cells #[.slice (some ⟨rb, 0, none⟩) rn rc, .slice (some ⟨O, 0, none⟩) nl oc] 50 (0, 0))) := (hb5.block _ (by omega)).trans hbox.out
            have hbw5 : Below w.heap.size w w5 := hbw.trans (hb5.mono (by omega))
            have hd5' : DeadT w5 (w.heap.size + 1) wi.heap.size (w.heap.size + 1) nl h Q fun y l => if y < 0 then false else F5 y l := hd5.congr fun y l _ _ => by simp
            have HD5 := Lib.hid hd5'
            clear hd5 hd5' hb5 hdt hbox q0 q1
            go_loopw [44] (fun i wr => ∃ k : Nat, k ≤ h ∧ i = .int .i64 k ∧ Hid (DeadT wr (w.heap.size + 1) wi.heap.size (w.heap.size + 1) nl h Q fun y l => if y < k then false else F5 y l) ∧ Hid (wr.heap[w.heap.size]? = some (.cells #[.slice (some ⟨rb, 0, none⟩) rn rc, .slice (some ⟨O, 0, none⟩) nl oc] 50 (0, 0))) ∧ Below w.heap.size w wr) (fun i _ => h - (intOf i).toNat)
            case atStart => exact ⟨0, Nat.zero_le _, rfl, HD5.out, hbox5.out, hbw5⟩
            case round =>
              clear HD5 hbox5 hbw5
              obtain ⟨k, hk, rfl, hdk, hboxk, hbwk⟩ := hrel
              obtain ⟨wk, rfl⟩ : ∃ wk : World, wk = wr := ⟨_, rfl⟩
              by_cases hkh : k < h
              · have hk0 : (0 : Int) ≤ (k : Int) := by omega
                have hk1 : (k : Int) < (h : Int) := by omega
                obtain ⟨t1, t2, t3, t4, t5⟩ := hdk.out.tab k hkh
                have hcl : ∀ ty, (Builtin.clear_ #[77] ty #[.slice (some ⟨Q k, 0, none⟩) nl nl]).run Tryd.prog wk = .ok (.tuple #[]) (wk.setCells (Q k) 0 (List.replicate nl (.bool false))) :=
                  fun ty => Lib.run_clear_slice wk 77 4 ty (.bool false) Tryd.underlying77 zero_boolT rfl rfl (Q k) 0 nl nl hnl0 (fun j' hj' => by rw [Nat.zero_add, t5.2.1 j' hj']; rfl) (fun j' hj' => t5.2.2 _)
                have hsg := (setCells_grown (Q k) (List.replicate nl (.bool false)) 0 wk).1
                have hd6 := (hdk.out.set k hkh hsg (fun _ => false) (btab_clear t5)).congr (G := fun y l => if y < k + 1 then false else F5 y l) fun y l _ _ => by
                  by_cases e1 : y = k
                  · simp [e1]
                  · by_cases e2 : y < k
                    · simp [e1, e2, show y < k + 1 by omega]
                    · simp [e1, e2, show ¬ y < k + 1 by omega]
                have hbox6 : Hid ((wk.setCells (Q k) 0 (List.replicate nl (.bool false))).heap[w.heap.size]? = some (.cells #[.slice (some ⟨rb, 0, none⟩) rn rc, .slice (some ⟨O, 0, none⟩) nl oc] 50 (0, 0))) := (hsg.block _ (Array.getElem?_eq_some_iff.1 hboxk.out).1 (by intro e; injection e with e; omega)).trans hboxk.out
                have hbw6 := hbwk.grown hsg (by have := hbwk.size; omega) (fun j' e => by cases e; omega)
                have HD6 := Lib.hid hd6
                clear t5 hsg hd6 hdk hboxk
                go_wp2_with (simp only [hcl])
                go_roundw
                case rel => exact ⟨k + 1, by omega, by go_num, HD6.out, hbox6, hbw6⟩
                case measure => simp [intOf]; omega
              · have e : h = k := by omega
                subst e
                have hd7 := hdk.out.congr (G := fun _ _ => false) fun y l hy _ => by simp [hy]
                have HD7 := Lib.hid hd7
                clear hd7 hdk
                go_wp2_with fail
                go_roundw
                case rel => exact ⟨j + 1, wi.heap.size, by omega, by go_num, HD7.out, hboxk, hbwk, hno1⟩
                case measure => simp [intOf]; omega
          | some u =>
            have hul : u.length = h := tower_len hh1 htw
            have hfs : firstT s x h = some u := firstK_some s x h j (by rw [← HRN.out]; exact hjn) u hno.out htw
            have hui : ∀ i ∈ u, i < rn := tower_idx (fun l r hr => by rw [HRN.out]; exact ovT_lt hr) hjn htw
            have h0 : (0 : Int) < (h : Int) := by omega
            have HTW := Lib.hid htw
            have HUL := Lib.hid hul
            have HFS := Lib.hid hfs
            have HUI := Lib.hid hui
            clear htw hul hfs hui
            go_wp2_with (first
              | (go_at_call 35; refine HC.out.mono ?_; rintro e w5 ⟨v5, F5, rfl, hb5, hd5, hres⟩; rw [HTW.out] at hres; obtain ⟨A, c, hv5, hI5⟩ := hres; rw [HUL.out] at hv5; subst hv5; obtain ⟨z0, z1⟩ := cells2 ((hb5.block _ (by omega)).trans hbox.out); have HI5 := Lib.hid hI5; have HD5 := Lib.hid hd5; have HB5 := Lib.hid hb5; clear hI5 hd5 hb5)
              | (go_at_call 36; refine (ringsAt_any s x rb rn rc O nl oc h c A u w5 hx HRN.out hrn9 (fun W hb i r hr => rangeAt_keep (HRG.out i r hr) ((hbw.trans (HB5.out.mono (by omega))).trans (hb.mono (by have := HB5.out.size; omega))) hrb) HUL.out.symm hh6 HI5.out HUI.out).mono ?_; rintro e w6 ⟨g, rfl, hb6, hg6, hg6', hr6⟩)
              | fail)
            go_ret
            have hb5s := HB5.out.size
            refine ⟨(hbw.trans (HB5.out.mono (by omega))).trans (hb6.mono (by omega)), ?_⟩
            rw [HFS.out]
            exact ⟨g, rfl, by omega, hg6', HUL.out, fun i hi' => by rw [← HRN.out]; exact HUI.out i hi', hr6⟩
        · have e : rn = j := by omega
          subst e
          have hres : firstT s x h = none := by
            have := hno.out
            rw [HRN.out] at this
            exact this
          have HRES := Lib.hid hres
          clear hres hdt hbox
          go_wp2_with fail
          go_ret
          refine ⟨hbw, ?_⟩
          rw [HRES.out]
          rfl
end
end Go.Proofs.YteaoaglgoeichaaDoor
