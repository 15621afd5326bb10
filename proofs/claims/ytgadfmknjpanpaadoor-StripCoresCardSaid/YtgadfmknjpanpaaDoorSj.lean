/-
  strip.On: the tiles of rows on rows.
-/
import Derived.Test.YtgadfmknjpanpaaDoorSi
import Derived.Test.YtgadfmknjpanpaaDoorGI
namespace Go.Proofs.YtgadfmknjpanpaaDoor
open Go.RowKit Go.Maps Go.BigFrame Go.Sort
set_option linter.unusedVariables false
set_option linter.unusedSimpArgs false
set_option maxRecDepth 100000

/-- tiles, pairs of indices, pairs of colours -/
structure OnSt where
  t : List Tl
  f : List (Nat × Nat)
  k : List (List Int)
/-- the tile that stands for y on x, and the pairs that are numbered then -/
def dblT (ks : List (List Int)) (x y : Tl) : Tl := ⟨y.n, ((metP ks [x.e, y.e]).idxOf [x.e, y.e] : Nat), x.s, ((metP (metP ks [x.e, y.e]) [x.w, y.w]).idxOf [x.w, y.w] : Nat)⟩
def onStep (a b : List Tl) (st : OnSt) (i k : Nat) : OnSt :=
  if (ti a i).n = (ti b k).s then ⟨metP st.t (dblT st.k (ti a i) (ti b k)), metF st.t st.f (dblT st.k (ti a i) (ti b k)) (i, k), metP (metP st.k [(ti a i).e, (ti b k).e]) [(ti a i).w, (ti b k).w]⟩ else st
def onRow (a b : List Tl) (i : Nat) (st : OnSt) : Nat → OnSt
  | 0 => st
  | k + 1 => onStep a b (onRow a b i st k) i k
def onUp (a b : List Tl) : Nat → OnSt
  | 0 => ⟨[], [], []⟩
  | i + 1 => onRow a b i (onUp a b i) b.length
def onSmall (st : OnSt) : Bool := decide (st.t.length ≤ 1000) && decide (st.k.length ≤ 1000)
/-- b on a, and the indices, if it is small enough -/
def onE (a b : List Tl) : Option (List Tl × List (Nat × Nat)) := if onSmall (onUp a b a.length) = true then some ((onUp a b a.length).t, (onUp a b a.length).f) else none
theorem metP_len {β : Type} [DecidableEq β] (l : List β) (v : β) : l.length ≤ (metP l v).length ∧ (metP l v).length ≤ l.length + 1 := by
  unfold metP
  split
  · omega
  · rw [List.length_append]; simp
def OnLe (p q : OnSt) : Prop := p.t.length ≤ q.t.length ∧ p.k.length ≤ q.k.length
theorem onStep_le (a b : List Tl) (st : OnSt) (i k : Nat) : OnLe st (onStep a b st i k) := by
  unfold onStep OnLe
  split
  · exact ⟨(metP_len _ _).1, Nat.le_trans (metP_len _ _).1 (metP_len _ _).1⟩
  · exact ⟨Nat.le_refl _, Nat.le_refl _⟩
theorem OnLe.trans {p q r : OnSt} (h : OnLe p q) (h' : OnLe q r) : OnLe p r := ⟨Nat.le_trans h.1 h'.1, Nat.le_trans h.2 h'.2⟩
theorem onRow_le (a b : List Tl) (i : Nat) (st : OnSt) (k : Nat) : ∀ n, OnLe (onRow a b i st k) (onRow a b i st (k + n))
  | 0 => ⟨Nat.le_refl _, Nat.le_refl _⟩
  | n + 1 => (onRow_le a b i st k n).trans (onStep_le a b _ i (k + n))
theorem onUp_le (a b : List Tl) (i : Nat) : ∀ n, OnLe (onUp a b i) (onUp a b (i + n))
  | 0 => ⟨Nat.le_refl _, Nat.le_refl _⟩
  | n + 1 => (onUp_le a b i n).trans (by have := onRow_le a b (i + n) (onUp a b (i + n)) 0 b.length; rw [Nat.zero_add] at this; exact this)
/-- what is too much once is too much in the end -/
theorem onE_none (a b : List Tl) {i k : Nat} (hi : i < a.length) (hk : k ≤ b.length) (h : onSmall (onRow a b i (onUp a b i) k) = false) : onE a b = none := by
  unfold onE
  rw [if_neg]
  intro h1
  have h2 : OnLe (onRow a b i (onUp a b i) k) (onUp a b a.length) := by
    have e1 := onRow_le a b i (onUp a b i) k (b.length - k)
    rw [show k + (b.length - k) = b.length by omega] at e1
    have e2 := onUp_le a b (i + 1) (a.length - (i + 1))
    rw [show i + 1 + (a.length - (i + 1)) = a.length by omega] at e2
    exact e1.trans e2
  unfold onSmall at h h1
  rw [Bool.and_eq_true, decide_eq_true_eq, decide_eq_true_eq] at h1
  rw [Bool.and_eq_false_iff, decide_eq_false_iff_not, decide_eq_false_iff_not] at h
  have := h2.1
  have := h2.2
  omega
theorem small_wf {z : Int} (h0 : 0 ≤ z) (h1 : z ≤ 9223372036854775807) : (Lit.int .i64 z).wf = true := WalkArith.wf_i64 (by omega)
theorem idx_met_le (ks : List (List Int)) (p : List Int) : (metP ks p).idxOf p ≤ ks.length := by
  have h1 : p ∈ metP ks p := by
    unfold metP
    split
    · assumption
    · simp
  have h2 := List.idxOf_lt_length_of_mem h1
  have := (metP_len ks p).2
  omega
theorem dbl_twf (ks : List (List Int)) (x y : Tl) (hx : twf x) (hy : twf y) (hk : ks.length ≤ 1000000) : twf (dblT ks x y) := by
  have h1 := idx_met_le ks [x.e, y.e]
  have h2 := idx_met_le (metP ks [x.e, y.e]) [x.w, y.w]
  have h3 := (metP_len ks [x.e, y.e]).2
  exact ⟨hy.1, small_wf (Int.natCast_nonneg _) (by show (((metP ks [x.e, y.e]).idxOf [x.e, y.e] : Nat) : Int) ≤ _; omega), hx.2.2.1, small_wf (Int.natCast_nonneg _) (by show (((metP (metP ks [x.e, y.e]) [x.w, y.w]).idxOf [x.w, y.w] : Nat) : Int) ≤ _; omega)⟩
theorem metF_len (T : List Tl) (F : List (Nat × Nat)) (t : Tl) (p : Nat × Nat) (h : F.length = T.length) : (metF T F t p).length = (metP T t).length := by
  unfold metF metP
  split
  · exact h
  · rw [List.length_append, List.length_append, h]; rfl
theorem onStep_wf (a b : List Tl) (st : OnSt) (i k : Nat) (hx : twf (ti a i)) (hy : twf (ti b k)) (hk : st.k.length ≤ 1000000) (h : ∀ t ∈ st.t, twf t) : ∀ t ∈ (onStep a b st i k).t, twf t := by
  unfold onStep
  split
  · intro t ht
    unfold metP at ht
    split at ht
    · exact h t ht
    · rcases List.mem_append.1 ht with h1 | h1
      · exact h t h1
      · rw [List.mem_singleton] at h1; rw [h1]; exact dbl_twf _ _ _ hx hy hk
  · exact h
theorem onStep_len (a b : List Tl) (st : OnSt) (i k : Nat) (h : st.f.length = st.t.length) : (onStep a b st i k).f.length = (onStep a b st i k).t.length := by
  unfold onStep
  split
  · exact metF_len _ _ _ _ h
  · exact h

/-- what On returns -/
def IsOnS (a b : List Tl) (W : World) (e : Ending) (w' : World) : Prop :=
  Below W.heap.size W w' ∧ if vld a = false ∨ vld b = false then e = .returned (.tuple #[.slice none 0 0, .slice none 0 0, .int .i64 1]) else match onE a b with
    | none => e = .returned (.tuple #[.slice none 0 0, .slice none 0 0, .int .i64 4])
    | some (T, F) => ∃ v v', e = .returned (.tuple #[v, v', .int .i64 0]) ∧ w'.ownsRow W.heap.size 53 4 v T.length (tcells T) ∧ w'.ownsRow W.heap.size 76 2 v' F.length (pcells F)
/-- what is held while the tiles are put on each other -/
def OnInv (B : Nat) (st : OnSt) (N1 N2 : Nat) (P : Value → Value → Prop) (wr : World) : Prop :=
  ∃ zt zf n1 n2 D, n1 ≤ N1 ∧ n2 ≤ N2 ∧ Dbl wr (B + 2) B zt zf B (B + 1) n1 n2 D st.t st.t st.f st.k ∧ onSmall st = true ∧ st.f.length = st.t.length ∧ (∀ t ∈ st.t, twf t) ∧ P zt zf
theorem OnInv.keep {B : Nat} {st : OnSt} {N1 N2 M1 M2 : Nat} {P : Value → Value → Prop} {w w' : World} (h : OnInv B st N1 N2 P w) (hb : Below w.heap.size w w') (h1 : N1 ≤ M1) (h2 : N2 ≤ M2) : OnInv B st M1 M2 P w' := by
  obtain ⟨zt, zf, n1, n2, D, a1, a2, a3, a4, a5, a6, a7⟩ := h
  exact ⟨zt, zf, n1, n2, D, by omega, by omega, a3.keep hb, a4, a5, a6, a7⟩
theorem OnInv.weak {B : Nat} {st : OnSt} {N1 N2 : Nat} {P Q : Value → Value → Prop} {w : World} (h : OnInv B st N1 N2 P w) (hpq : ∀ zt zf n1 n2 D, Dbl w (B + 2) B zt zf B (B + 1) n1 n2 D st.t st.t st.f st.k → P zt zf → Q zt zf) : OnInv B st N1 N2 Q w := by
  obtain ⟨zt, zf, n1, n2, D, a1, a2, a3, a4, a5, a6, a7⟩ := h
  exact ⟨zt, zf, n1, n2, D, a1, a2, a3, a4, a5, a6, hpq _ _ _ _ _ a3 a7⟩
theorem ret3 {a b c : Value} : Ending.returned (.tuple #[a, b, c]) = Ending.returned (.tuple #[a, b, c]) := rfl
set_option maxHeartbeats 4000000 in
theorem on_any (a b : List Tl) (A A2 : Option Addr) (m d n d2 : Nat) (w : World) (hm : m = a.length) (hn : n = b.length) (hA : SetIn w w.heap.size A a) (hB : SetIn w w.heap.size A2 b) (hwa : ∀ t ∈ a, twf t) (hwb : ∀ t ∈ b, twf t) (hml : m ≤ 9223372036854775807) (hnl : n ≤ 9223372036854775807) :
    Calls Tryd.prog 14 #[.slice A m d, .slice A2 n d2] w (IsOnS a b w) := by
  have hva := fun r h => valid_pat a r A m d w hm h hA hwa hml
  have hvb := fun (W : World) (hb : Below w.heap.size w W) r h => valid_pat b r A2 n d2 W hn h (hB.keep hb hb.size) hwb hnl
  cases hv1 : vld a
  · have HVA := Lib.hid (hva false hv1)
    have HK : Hid (∀ e w', e = .returned (.tuple #[.slice none 0 0, .slice none 0 0, .int .i64 1]) → Below w.heap.size w w' → IsOnS a b w e w') := fun e w' h1 h2 => ⟨h2, by rw [if_pos (Or.inl hv1)]; exact h1⟩
    clear hva hvb hm hn hA hB hwa hwb hv1
    go_enter Tryd.func14, Tryd.ntmps14
    go_wp2_with (go_at_call 27; refine HVA.out.mono ?_; rintro e w2 ⟨rfl, hb2⟩)
    go_ret3
    exact HK.out _ _ rfl hb2
  cases hv2 : vld b
  · have HVA := Lib.hid (hva true hv1)
    have HVB : Hid (∀ W, Below w.heap.size w W → Calls Tryd.prog 27 #[.slice A2 n d2] W fun e w' => e = .returned (.bool false) ∧ Below W.heap.size W w') := fun W hb => hvb W hb false hv2
    have HK : Hid (∀ e w', e = .returned (.tuple #[.slice none 0 0, .slice none 0 0, .int .i64 1]) → Below w.heap.size w w' → IsOnS a b w e w') := fun e w' h1 h2 => ⟨h2, by rw [if_pos (Or.inr hv2)]; exact h1⟩
    clear hva hvb hm hn hA hB hwa hwb hv1 hv2
    go_enter Tryd.func14, Tryd.ntmps14
    go_wp2_with (first
      | (go_at_call 27; (with_reducible refine HVA.out.mono ?_); rintro e w2 ⟨rfl, hb2⟩)
      | (go_at_call 27; (with_reducible refine (HVB.out w2 hb2).mono ?_); rintro e w3 ⟨rfl, hb3⟩)
      | fail)
    go_ret3
    exact HK.out _ _ rfl (hb2.trans (hb3.mono hb2.size))
  have HVA := Lib.hid (hva true hv1)
  have HVB : Hid (∀ W, Below w.heap.size w W → Calls Tryd.prog 27 #[.slice A2 n d2] W fun e w' => e = .returned (.bool true) ∧ Below W.heap.size W w') := fun W hb => hvb W hb true hv2
  have hm1 : m ≤ 1000 := by rw [hm]; exact (vld_iff.1 hv1).1
  have hn1 : n ≤ 1000 := by rw [hn]; exact (vld_iff.1 hv2).1
  have HK : Hid (∀ e w', (match onE a b with | none => e = .returned (.tuple #[.slice none 0 0, .slice none 0 0, .int .i64 4]) | some (T, F) => ∃ v v', e = .returned (.tuple #[v, v', .int .i64 0]) ∧ w'.ownsRow w.heap.size 53 4 v T.length (tcells T) ∧ w'.ownsRow w.heap.size 76 2 v' F.length (pcells F)) → Below w.heap.size w w' → IsOnS a b w e w') := fun e w' h1 h2 => ⟨h2, by rw [if_neg (by rw [hv1, hv2]; decide)]; exact h1⟩
  have HM := Lib.hid hm
  have HN := Lib.hid hn
  have HA := Lib.hid hA
  have HB := Lib.hid hB
  have HWA := Lib.hid hwa
  have HWB := Lib.hid hwb
  clear hva hvb hm hn hA hB hwa hwb hv1 hv2
  go_enter Tryd.func14, Tryd.ntmps14
  go_upto_region 3 with (first
    | (go_at_call 27; (with_reducible refine HVA.out.mono ?_); rintro e w1 ⟨rfl, hb1⟩)
    | (go_at_call 27; (with_reducible refine (HVB.out w1 hb1).mono ?_); rintro e w2 ⟨rfl, hb2⟩)
    | fail)
  have hb02 := hb1.trans (hb2.mono hb1.size)
  obtain ⟨B, hBe⟩ : ∃ B, B = w2.heap.size := ⟨_, rfl⟩
  obtain ⟨W3, hW3⟩ : ∃ W3, W3 = ((w2.alloc (.map #[] 0)).alloc (.map #[] 0)).alloc (.cells #[.slice none 0 0, .slice none 0 0, .map (some B), .map (some (B + 1))] 71) := ⟨_, rfl⟩
  have hb23 : Below w2.heap.size w2 W3 := by rw [hW3]; exact (((Below.refl _ _).alloc (Nat.le_refl _) _).alloc (by simp) _).alloc (by simp; omega) _
  have hbox3 : W3.heap[B + 2]? = some (.cells #[.slice none 0 0, .slice none 0 0, .map (some B), .map (some (B + 1))] 71 (0, 0)) := by rw [hW3]; exact heap_at _ _ _ (by simp [hBe])
  have hinv3 : OnInv B (onUp a b 0) 0 0 (fun _ _ => True) W3 := by
    refine ⟨.slice none 0 0, .slice none 0 0, 0, 0, .map [], Nat.le_refl _, Nat.le_refl _, ⟨hbox3, ?_, Nv2.empty, ?_, World.ownsRow_nil _ _ _ _, World.ownsRow_nil _ _ _ _, ⟨by omega, by omega, by omega⟩, ⟨by omega, by omega, by omega⟩, ⟨by simp [Value.ownBlock], by simp [Value.ownBlock], by simp [Value.ownBlock]⟩, ⟨by simp [Value.ownBlock], by simp [Value.ownBlock], by simp [Value.ownBlock]⟩, fun g e => by simp [Value.ownBlock] at e⟩, rfl, rfl, (fun t ht => by cases ht), trivial⟩
    · rw [hW3, hBe]
      exact ((World.ownsMap_made w2 _ _ _).alloc _).alloc _
    · rw [hW3, hBe]
      have := (World.ownsMap_made (H := Unit) (w2.alloc (.map #[] 0)) Tryd.prog 53 (plainElem Tryd.prog 4)).alloc (.cells #[.slice none 0 0, .slice none 0 0, .map (some w2.heap.size), .map (some (w2.heap.size + 1))] 71)
      rw [show (w2.alloc (.map #[] 0)).heap.size = w2.heap.size + 1 by simp] at this
      exact this
  have hb03 : Below w.heap.size w W3 := hb02.trans (hb23.mono hb02.size)
  have hBw : w.heap.size ≤ B := by rw [hBe]; exact hb02.size
  have HINV := Lib.hid hinv3
  have HB03 := Lib.hid hb03
  have HBE := Lib.hid hBe
  have HW3 := Lib.hid hW3
  have hmm := @run_makeMap Tryd.prog
  clear hW3 hb23 hbox3 hinv3 hb03 hb1 hb2 hb02 hBe
  go_upto_region 5 with fail
  clear hmm
  rw [← HBE.out]
  try rw [show B + 1 + 1 = B + 2 from rfl]
  rw [← HW3.out]
  go_loopw [25] (fun iv wr => ∃ i : Nat, i ≤ m ∧ iv = .int .i64 (i : Int) ∧ Hid (OnInv B (onUp a b i) (2000 * i) (1000 * i) (fun _ _ => True) wr) ∧ Hid (Below w.heap.size w wr) ∧ B ≤ wr.heap.size) (fun iv _ => m - (intOf iv).toNat)
  case atStart => exact ⟨0, Nat.zero_le _, rfl, HINV, HB03, by rw [HW3.out, HBE.out]; simp; omega⟩
  case round =>
    clear HINV HB03
    obtain ⟨i, hi, rfl, hinv, hbr, hBr⟩ := hrel
    obtain ⟨wo, rfl⟩ : ∃ wo : World, wo = wr := ⟨_, rfl⟩
    by_cases him : i < m
    · have hia : i < a.length := by rw [← HM.out]; exact him
      obtain ⟨x, hx⟩ : ∃ x, x = ti a i := ⟨_, rfl⟩
      obtain ⟨xa, xo, rfl, hxa, t0, t1, t2, t3⟩ := set_at HA.out hbr.out hia
      have hxw : twf x := by rw [hx]; exact HWA.out _ (ti_mem hia)
      have t0' : wo.cell? ⟨xa, xo + i * 4, none⟩ = some (.int .i64 x.n) := by rw [t0, hx]; rfl
      have t1' : wo.cell? ⟨xa, xo + i * 4 + 1, none⟩ = some (.int .i64 x.e) := by rw [t1, hx]; rfl
      have t2' : wo.cell? ⟨xa, xo + i * 4 + 2, none⟩ = some (.int .i64 x.s) := by rw [t2, hx]; rfl
      have t3' : wo.cell? ⟨xa, xo + i * 4 + 3, none⟩ = some (.int .i64 x.w) := by rw [t3, hx]; rfl
      have hi0 : (0 : Int) ≤ (i : Int) := by omega
      obtain ⟨xb, hxb⟩ : ∃ xb, xb = wo.heap.size := ⟨_, rfl⟩
      obtain ⟨W4, hW4⟩ : ∃ W4, W4 = wo.alloc (.cells #[.int .i64 x.n, .int .i64 x.e, .int .i64 x.s, .int .i64 x.w] 53) := ⟨_, rfl⟩
      have hb4 : Below wo.heap.size wo W4 := by rw [hW4]; exact (Below.refl _ _).alloc (Nat.le_refl _) _
      have hbx4 : W4.heap[xb]? = some (.cells #[.int .i64 x.n, .int .i64 x.e, .int .i64 x.s, .int .i64 x.w] 53 (0, 0)) := by rw [hW4, hxb]; exact heap_at _ _ _ rfl
      have hinv4 : OnInv B (onRow a b i (onUp a b i) 0) (2000 * i + 2 * 0) (1000 * i + 0) (fun zt zf => FreeD (B + 2) B (B + 1) zt zf xb) W4 := (hinv.out.weak (Q := fun zt zf => FreeD (B + 2) B (B + 1) zt zf xb) (fun zt zf n1 n2 D h _ => by
        have h1 := (Array.getElem?_eq_some_iff.1 h.box).1
        have h2 := h.num.lt
        have h3 := h.met.lt
        exact ⟨by omega, by omega, by omega, fun e => by have := (h.tiles.lt _ e).2; omega, fun e => by have := (h.froms.lt _ e).2; omega⟩)).keep hb4 (by omega) (by omega)
      have hbw4 : Below w.heap.size w W4 := hbr.out.trans (hb4.mono hbr.out.size)
      have hB4 : B ≤ W4.heap.size := Nat.le_trans hBr hb4.size
      have HX := Lib.hid hx
      have HXW := Lib.hid hxw
      have HBX4 := Lib.hid hbx4
      have HINV4 := Lib.hid hinv4
      have HBW4 := Lib.hid hbw4
      have HW4 := Lib.hid hW4
      have HXB := Lib.hid hxb
      clear hia hx t0 t1 t2 t3 hxw hW4 hb4 hbx4 hinv4 hbw4 hinv hbr hxa hxb
      go_upto_region 8 with fail
      rw [← HXB.out, ← HW4.out]
      clear t0' t1' t2' t3'
      go_loopw [32] (fun kv wr => ∃ k : Nat, k ≤ n ∧ kv = .int .i64 (k : Int) ∧ Hid (OnInv B (onRow a b i (onUp a b i) k) (2000 * i + 2 * k) (1000 * i + k) (fun zt zf => FreeD (B + 2) B (B + 1) zt zf xb) wr) ∧ Hid (Below w.heap.size w wr) ∧ B ≤ wr.heap.size ∧ Hid (wr.heap[xb]? = some (.cells #[.int .i64 x.n, .int .i64 x.e, .int .i64 x.s, .int .i64 x.w] 53 (0, 0)))) (fun kv _ => n - (intOf kv).toNat)
      case atStart => exact ⟨0, Nat.zero_le _, rfl, HINV4, HBW4, hB4, HBX4⟩
      case round =>
        clear HINV4 HBW4 HBX4 hB4
        obtain ⟨k, hk, rfl, hinv, hbr, hBr2, hbx⟩ := hrel
        obtain ⟨wi, rfl⟩ : ∃ wi : World, wi = wr := ⟨_, rfl⟩
        by_cases hkn : k < n
        · have hkb : k < b.length := by rw [← HN.out]; exact hkn
          obtain ⟨y, hy⟩ : ∃ y, y = ti b k := ⟨_, rfl⟩
          obtain ⟨ya, yo, rfl, hya, t0, t1, t2, t3⟩ := set_at HB.out hbr.out hkb
          have hyw : twf y := by rw [hy]; exact HWB.out _ (ti_mem hkb)
          have t0' : wi.cell? ⟨ya, yo + k * 4, none⟩ = some (.int .i64 y.n) := by rw [t0, hy]; rfl
          have t1' : wi.cell? ⟨ya, yo + k * 4 + 1, none⟩ = some (.int .i64 y.e) := by rw [t1, hy]; rfl
          have t2' : wi.cell? ⟨ya, yo + k * 4 + 2, none⟩ = some (.int .i64 y.s) := by rw [t2, hy]; rfl
          have t3' : wi.cell? ⟨ya, yo + k * 4 + 3, none⟩ = some (.int .i64 y.w) := by rw [t3, hy]; rfl
          have hk0 : (0 : Int) ≤ (k : Int) := by omega
          obtain ⟨W5, hW5⟩ : ∃ W5, W5 = wi.alloc (.cells #[.int .i64 y.n, .int .i64 y.e, .int .i64 y.s, .int .i64 y.w] 53) := ⟨_, rfl⟩
          have hb5 : Below wi.heap.size wi W5 := by rw [hW5]; exact (Below.refl _ _).alloc (Nat.le_refl _) _
          obtain ⟨yb, hyb⟩ : ∃ yb, yb = wi.heap.size := ⟨_, rfl⟩
          have hby5 : W5.heap[yb]? = some (.cells #[.int .i64 y.n, .int .i64 y.e, .int .i64 y.s, .int .i64 y.w] 53 (0, 0)) := by rw [hW5, hyb]; exact heap_at _ _ _ rfl
          have hbx5 := (hb5.block xb (Array.getElem?_eq_some_iff.1 hbx.out).1).trans hbx.out
          obtain ⟨st, hst⟩ : ∃ st, st = onRow a b i (onUp a b i) k := ⟨_, rfl⟩
          rw [← hst] at hinv
          have hst1 : onRow a b i (onUp a b i) (k + 1) = onStep a b st i k := by rw [hst]; rfl
          have hinv5 := hinv.out.keep hb5 (Nat.le_refl _) (Nat.le_refl _)
          have hbw5 : Below w.heap.size w W5 := hbr.out.trans (hb5.mono hbr.out.size)
          have hB5 : B ≤ W5.heap.size := Nat.le_trans hBr2 hb5.size
          obtain ⟨x0, x1, x2, x3, -⟩ := zcells4i hbx5
          obtain ⟨y0, y1, y2, y3, -⟩ := zcells4i hby5
          have HY := Lib.hid hy
          have HYW := Lib.hid hyw
          have HBX5 := Lib.hid hbx5
          have HINV5 := Lib.hid hinv5
          have HBW5 := Lib.hid hbw5
          have HW5 := Lib.hid hW5
          have HYB := Lib.hid hyb
          have HST := Lib.hid hst
          have HST1 := Lib.hid hst1
          clear hkb hy t0 t1 t2 t3 hyw hW5 hb5 hby5 hbx5 hinv5 hbw5 hinv hbr hya hyb hst hst1 hbx
          go_upto_region 10 with fail
          rw [← HYB.out, ← HW5.out]
          clear t0' t1' t2' t3'
          by_cases hns : x.n = y.s
          rotate_left
          · have d0 : (x.n != y.s) = true := by rw [bne_iff_ne]; exact hns
            have hsame : Hid (onRow a b i (onUp a b i) (k + 1) = st) := by
              show _ = _
              rw [HST1.out]
              unfold onStep
              rw [if_neg (by rw [← HX.out, ← HY.out]; exact hns)]
            clear hns
            go_wp2_with fail
            go_roundw
            case rel => exact ⟨k + 1, by omega, by go_num, by show OnInv _ _ _ _ _ _; rw [hsame.out]; exact HINV5.out.keep (Below.refl _ _) (by omega) (by omega), HBW5.out, hB5, HBX5.out⟩
            case measure => simp [intOf]; omega
          · have d0 : (x.n != y.s) = false := by rw [bne_eq_false_iff_eq]; exact hns
            obtain ⟨zt, zf, n1, n2, D, hn1, hn2, hd5, hsm, hlen, hwf, hfree⟩ := HINV5.out
            obtain ⟨hs1, hs2⟩ : st.t.length ≤ 1000 ∧ st.k.length ≤ 1000 := by unfold onSmall at hsm; rw [Bool.and_eq_true, decide_eq_true_eq, decide_eq_true_eq] at hsm; exact hsm
            obtain ⟨tt, htt⟩ : ∃ tt, tt = dblT st.k x y := ⟨_, rfl⟩
            obtain ⟨ks2, hks2⟩ : ∃ ks2, ks2 = metP (metP st.k [x.e, y.e]) [x.w, y.w] := ⟨_, rfl⟩
            have hks2l : ks2.length ≤ 1002 := by rw [hks2]; have := (metP_len st.k [x.e, y.e]).2; have := (metP_len (metP st.k [x.e, y.e]) [x.w, y.w]).2; omega
            have httw : twf tt := by rw [htt]; exact dbl_twf _ _ _ HXW.out HYW.out (by omega)
            have hdb := sdouble_any W5 (B + 2) B zt zf B (B + 1) n1 n2 D st.t st.t st.f st.k hd5 x y HXW.out HYW.out (by omega)
            have HDB : Hid (Calls Tryd.prog 34 #[.pointer (some ⟨B + 2, 0, none⟩), .agg #[.int .i64 x.n, .int .i64 x.e, .int .i64 x.s, .int .i64 x.w], .agg #[.int .i64 y.n, .int .i64 y.e, .int .i64 y.s, .int .i64 y.w]] W5 fun e w' => ∃ m1 D', e = .returned (.agg #[.int .i64 tt.n, .int .i64 tt.e, .int .i64 tt.s, .int .i64 tt.w]) ∧ m1 ≤ n1 + 2 ∧ Dbl w' (B + 2) B zt zf B (B + 1) m1 n2 D' st.t st.t st.f ks2 ∧ Below B W5 w' ∧ Hid (∀ q, q < W5.heap.size → q ≠ B → w'.heap[q]? = W5.heap[q]?)) := by
              show Calls _ _ _ _ _
              rw [htt, hks2]
              exact hdb
            have HADD : Hid (∀ w6 m1 D2, Dbl w6 (B + 2) B zt zf B (B + 1) m1 n2 D2 st.t st.t st.f ks2 → Calls Tryd.prog 33 #[.pointer (some ⟨B + 2, 0, none⟩), .agg #[.int .i64 tt.n, .int .i64 tt.e, .int .i64 tt.s, .int .i64 tt.w], .int .i64 (i : Int), .int .i64 (k : Int)] w6 (IsAdd (B + 2) B B (B + 1) m1 n2 zt zf D2 st.t st.f ks2 tt i k w6)) := fun w6 m1 D2 hd6 =>
              sadd_any w6 (B + 2) B zt zf B (B + 1) m1 n2 D2 st.t st.f ks2 hd6 tt httw hwf i k (by omega) (by omega) (by omega) (by omega) (by omega)
            have hst' : onStep a b st i k = ⟨metP st.t tt, metF st.t st.f tt (i, k), ks2⟩ := by
              unfold onStep
              rw [if_pos (by rw [← HX.out, ← HY.out]; exact hns), ← HX.out, ← HY.out, ← htt, ← hks2]
            have hwf' := onStep_wf a b st i k (by rw [← HX.out]; exact HXW.out) (by rw [← HY.out]; exact HYW.out) (by omega) hwf
            have hlen' := onStep_len a b st i k hlen
            rw [hst'] at hwf' hlen'
            obtain ⟨tl, htl⟩ : ∃ tl, tl = (metP st.t tt).length := ⟨_, rfl⟩
            obtain ⟨kl, hkl⟩ : ∃ kl, kl = ks2.length := ⟨_, rfl⟩
            have htl1 : tl ≤ 1001 := by rw [htl]; have := (metP_len st.t tt).2; omega
            have hkl1 : kl ≤ 1002 := by rw [hkl]; exact hks2l
            have hxlt : xb < W5.heap.size := (Array.getElem?_eq_some_iff.1 HBX5.out).1
            have HFREE := Lib.hid hfree
            have HWF' := Lib.hid hwf'
            have HLEN' := Lib.hid hlen'
            have HST' := Lib.hid hst'
            have HTL := Lib.hid htl
            have HKL := Lib.hid hkl
            clear hns hd5 hsm hlen hwf htt hks2 hks2l httw hdb hst' hwf' hlen' htl hkl hfree hs1 hs2
            go_upto_region 12 with (first
              | (go_at_call 34; refine HDB.out.mono ?_; rintro e w6 ⟨m1, D2, rfl, hm1, hd6, hb6, hq6⟩)
              | (go_at_call 33; refine (HADD.out w6 m1 D2 hd6).mono ?_; rintro e w7 ⟨rfl, hb7, yt, yf, m2, hm2, hd7, hq7⟩)
              | fail)
            obtain ⟨q1, q2, q3, q4, q5⟩ := HFREE.out
            have hq6x := hq6.out xb hxlt q2
            have hlt6 : xb < w6.heap.size := by
              have h1 := HBX5.out
              rw [← hq6x] at h1
              exact (Array.getElem?_eq_some_iff.1 h1).1
            obtain ⟨hq7x, hfree7⟩ := hq7 xb hlt6 ⟨q1, q2, q3, q4, q5⟩
            have hbx7 : w7.heap[xb]? = some (.cells #[.int .i64 x.n, .int .i64 x.e, .int .i64 x.s, .int .i64 x.w] 53 (0, 0)) := by rw [hq7x, hq6x]; exact HBX5.out
            have hbw7 : Below w.heap.size w w7 := (HBW5.out.trans (hb6.mono hBw)).trans (hb7.mono hBw)
            have hB7 : B ≤ w7.heap.size := Nat.le_trans hB5 (Nat.le_trans hb6.size hb7.size)
            obtain ⟨A7, c7, rfl, -⟩ := own_set hd7.tiles
            rw [← HTL.out] at hd7
            obtain ⟨b0, b1, b2, b3, -⟩ := zcells4i hd7.box
            have hlen7 := fun ty => hd7.num.len Tryd.underlying68 ty
            rw [hd7.nv.size, ← HKL.out] at hlen7
            have hc1 : onRow a b i (onUp a b i) (k + 1) = ⟨metP st.t tt, metF st.t st.f tt (i, k), ks2⟩ := by rw [HST1.out, HST'.out]
            have HC1 := Lib.hid hc1
            have HD7 := Lib.hid hd7
            have HFR7 := Lib.hid hfree7
            have HBX7 := Lib.hid hbx7
            have HBW7 := Lib.hid hbw7
            clear hq6x hq7x hfree7 hbx7 hbw7 hq7 hd7 hd6 hc1 b1 b3 x0 x1 x2 x3 y0 y1 y2 y3 d0
            by_cases htl2 : 1000 < tl
            · have hone : Hid (onE a b = none) := onE_none a b (i := i) (k := k + 1) (by rw [← HM.out]; exact him) (by rw [← HN.out]; omega) (by rw [HC1.out]; unfold onSmall; rw [← HTL.out, decide_eq_false (by omega), Bool.false_and])
              go_wp2_with fail
              go_ret3
              exact HK.out _ _ (by rw [hone.out]; rfl) HBW7.out
            · by_cases hkl2 : 1000 < kl
              · have hone : Hid (onE a b = none) := onE_none a b (i := i) (k := k + 1) (by rw [← HM.out]; exact him) (by rw [← HN.out]; omega) (by rw [HC1.out]; unfold onSmall; rw [← HKL.out, decide_eq_false (p := kl ≤ 1000) (by omega), Bool.and_false])
                go_wp2_with fail
                go_ret3
                exact HK.out _ _ (by rw [hone.out]; rfl) HBW7.out
              · have hinv8 : Hid (OnInv B (onRow a b i (onUp a b i) (k + 1)) (2000 * i + 2 * (k + 1)) (1000 * i + (k + 1)) (fun zt zf => FreeD (B + 2) B (B + 1) zt zf xb) w7) := by
                  show OnInv _ _ _ _ _ _
                  rw [HC1.out]
                  refine ⟨_, yf, m1, m2, D2, by omega, by omega, by rw [← HTL.out]; exact HD7.out, ?_, HLEN'.out, HWF'.out, HFR7.out⟩
                  unfold onSmall
                  rw [← HTL.out, ← HKL.out, decide_eq_true (by omega), decide_eq_true (by omega)]; rfl
                go_wp2_with fail
                go_roundw
                case rel => exact ⟨k + 1, by omega, by go_num, hinv8, HBW7, hB7, HBX7⟩
                case measure => simp [intOf]; omega
        · have hke : k = n := by omega
          have hnext : Hid (onRow a b i (onUp a b i) k = onUp a b (i + 1)) := by show _ = _; rw [hke, HN.out]; rfl
          have hinv2 : Hid (OnInv B (onUp a b (i + 1)) (2000 * (i + 1)) (1000 * (i + 1)) (fun _ _ => True) wi) := by
            show OnInv _ _ _ _ _ _
            have h := hinv.out
            rw [hnext.out] at h
            exact (h.weak (Q := fun _ _ => True) fun _ _ _ _ _ _ _ => trivial).keep (Below.refl _ _) (by omega) (by omega)
          clear hinv hke hbx
          go_wp2_with fail
          go_roundw
          case rel => exact ⟨i + 1, by omega, by go_num, hinv2, hbr, hBr2⟩
          case measure => simp [intOf]; omega
    · have hie : i = m := by omega
      have hup : Hid (onUp a b i = onUp a b a.length) := by show _ = _; rw [hie, HM.out]
      obtain ⟨zt, zf, n1, n2, D, -, -, hd, hsm, hlen, -, -⟩ := hinv.out
      rw [hup.out] at hd hsm
      obtain ⟨b0, b1, -, -, -⟩ := zcells4i hd.box
      have hone : Hid (onE a b = some ((onUp a b a.length).t, (onUp a b a.length).f)) := by show _ = _; unfold onE; rw [if_pos hsm]
      have HT := Lib.hid hd.tiles
      have HF := Lib.hid hd.froms
      have HBR := hbr
      clear hd hsm hlen hinv hie hbr
      obtain ⟨A7, c7, rfl, -⟩ := own_set HT.out
      go_wp2_with fail
      go_region
      go_wp2_with fail
      go_ret3
      refine HK.out _ _ ?_ HBR.out.drew
      rw [hone.out]
      exact ⟨_, zf, rfl, own_mono (own_keep' HT.out (Below.refl _ _).drew) hBw, own_mono (own_keep' HF.out (Below.refl _ _).drew) hBw⟩
end Go.Proofs.YtgadfmknjpanpaaDoor
