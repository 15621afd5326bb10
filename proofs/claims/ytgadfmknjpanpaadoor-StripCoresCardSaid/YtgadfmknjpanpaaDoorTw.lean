/-
  strings.SplitN in one form; tile.parseTile.
  Rows of tiles that the call owns; tile.Parse.
  Words for the texts of tiles and sets; a row of the call's own.
-/
import Derived.Test.YtgadfmknjpanpaaDoorEnv
import Derived.Lib.ItoaLen
import Derived.Deep.RegionHeld3
namespace Go.Proofs.YtgadfmknjpanpaaDoor
section
open Go.RowKit Go.Maps Go.Sort Go.Lib
set_option linter.unusedVariables false
set_option maxRecDepth 100000

def cutN (c : UInt8) (n : Nat) (s : ByteArray) : List ByteArray := Lib.splitB ⟨#[c]⟩ 0 (min n (s.size + 1) - 1) s
theorem cut_size (sep : ByteArray) : ∀ (k : Nat) (s : ByteArray), ∀ p ∈ Lib.splitB sep 0 k s, p.size ≤ s.size
  | 0, s => by simp [Lib.splitB]
  | k + 1, s => by
    intro p hp
    unfold Lib.splitB at hp
    split at hp
    · simp at hp; rw [hp]; exact Nat.le_refl _
    · simp only [List.mem_cons] at hp
      rcases hp with rfl | hp
      · rw [ByteArray.size_extract]; omega
      · have := cut_size sep k _ p hp
        rw [ByteArray.size_extract] at this; omega
theorem cutN_size (c : UInt8) (n : Nat) (s : ByteArray) (k : Nat) (hk : k < (cutN c n s).length) : ((cutN c n s).getD k .empty).size ≤ s.size := by
  rw [List.getD_eq_getElem?_getD, List.getElem?_eq_getElem hk]
  exact cut_size _ _ s _ (List.getElem_mem hk)
theorem cutN_length (c : UInt8) (n : Nat) (s : ByteArray) (hn : 1 ≤ n) : (cutN c n s).length ≤ n := by
  have := Lib.splitB_length_le ⟨#[c]⟩ 0 (min n (s.size + 1) - 1) s
  unfold cutN; omega
theorem split_any (s : ByteArray) (c : UInt8) (n : Nat) (w : World) (hs : s.size ≤ 4294967280) (hn : 1 ≤ n) (hn63 : n ≤ 9223372036854775807) (h : Env w) :
    Calls Tryd.prog 43 #[.string s, .string ⟨#[c]⟩, .int .i64 n] w fun e w' => ∃ b d, e = .returned (.slice (some ⟨b, 0, none⟩) (cutN c n s).length d) ∧
      w.heap.size ≤ b ∧ b < w'.heap.size ∧ (∀ i, i < (cutN c n s).length → w'.cell? ⟨b, i, none⟩ = some (.string ((cutN c n s).getD i .empty))) ∧ Below w.heap.size w w' := by
  obtain ⟨m, hm⟩ := h.maxLen
  refine (Tryd.strings_SplitN s ⟨#[c]⟩ n m w (by omega) hm (by show 1 ≤ (#[c] : Array UInt8).size; simp) hn hn63).mono ?_
  rintro e w' ⟨rfl, rfl⟩
  refine ⟨_, _, rfl, Nat.le_refl _, by simp, fun i hi => ?_, (Below.refl _ _).alloc (Nat.le_refl _) _⟩
  rw [World.cell?_alloc_at _ _ _ _ rfl]
  unfold Lib.cellsOf
  rw [List.getElem?_toArray, List.getElem?_append_left (by simpa [cutN] using hi), List.getElem?_map, List.getD_eq_getElem?_getD]
  unfold cutN at hi ⊢
  rw [List.getElem?_eq_getElem hi]
  rfl

def pv (s : ByteArray) : Int := (pCol s).getD 0
/-- What parseTile makes of a text. -/
def pTile (s : ByteArray) : Option Tl :=
  let l := cutN 46 5 s
  if l.length = 4 ∧ l.all (fun x => (pCol x).isSome) = true then some ⟨pv (l.getD 0 .empty), pv (l.getD 1 .empty), pv (l.getD 2 .empty), pv (l.getD 3 .empty)⟩ else none
def tileRes (s : ByteArray) : Value :=
  match pTile s with
  | some t => .tuple #[tv t, .bool true]
  | none => .tuple #[tv ⟨0, 0, 0, 0⟩, .bool false]
theorem colRes_some {s : ByteArray} (h : (pCol s).isSome = true) : colRes s = .tuple #[.int .i64 (pv s), .bool true] := by
  obtain ⟨v, hv⟩ := Option.isSome_iff_exists.1 h
  unfold colRes pv
  rw [hv]; rfl
theorem colRes_none {s : ByteArray} (h : (pCol s).isSome = false) : colRes s = .tuple #[.int .i64 0, .bool false] := by
  unfold colRes
  cases hv : pCol s with
  | none => rfl
  | some v => rw [hv] at h; cases h

theorem tileRes_long (s : ByteArray) (h : (cutN 46 5 s).length ≠ 4) : tileRes s = .tuple #[tv ⟨0, 0, 0, 0⟩, .bool false] := by
  unfold tileRes pTile
  rw [if_neg (fun e => h e.1)]
theorem tileRes_bad (s : ByteArray) (k : Nat) (hk : k < (cutN 46 5 s).length) (h : (pCol ((cutN 46 5 s).getD k .empty)).isSome = false) : tileRes s = .tuple #[tv ⟨0, 0, 0, 0⟩, .bool false] := by
  unfold tileRes pTile
  rw [if_neg (fun e => by have := all_bad (fun x => (pCol x).isSome) _ k hk .empty h; rw [e.2] at this; cases this)]
theorem tileRes_ok (s : ByteArray) (h4 : (cutN 46 5 s).length = 4) (h : ((cutN 46 5 s).take 4).all (fun x => (pCol x).isSome) = true) :
    tileRes s = .tuple #[tv ⟨pv ((cutN 46 5 s).getD 0 .empty), pv ((cutN 46 5 s).getD 1 .empty), pv ((cutN 46 5 s).getD 2 .empty), pv ((cutN 46 5 s).getD 3 .empty)⟩, .bool true] := by
  unfold tileRes pTile
  rw [List.take_of_length_le (by omega)] at h
  rw [if_pos ⟨h4, h⟩]

/-- the array while the loop runs -/
def arr (l : List ByteArray) (k j : Nat) : Int := if j < k then pv (l.getD j .empty) else 0
def ArrIn (w : World) (b : Nat) (l : List ByteArray) (k : Nat) : Prop := ∀ j, j < 4 → w.cell? ⟨b, j, none⟩ = some (.int .i64 (arr l k j))
theorem ArrIn.step {w : World} {b : Nat} {l : List ByteArray} {k : Nat} (h : ArrIn w b l k) (hk : k < 4) : ArrIn (w.setCell ⟨b, k, none⟩ (.int .i64 (pv (l.getD k .empty)))) b l (k + 1) := fun j hj => by
  by_cases e : j = k
  · subst e
    rw [World.cell?_setCell_same _ _ _ (h j hj)]
    simp [arr]
  · rw [World.cell?_setCell_other _ _ _ _ (fun x => e (by injection x with _ x; exact x.symm)), h j hj]
    have : (j < k + 1) = (j < k) := by apply propext; omega
    simp [arr, this]
theorem ArrIn.keep {w w' : World} {b : Nat} {l : List ByteArray} {k : Nat} (h : ArrIn w b l k) (hb : Below w.heap.size w w') (hlt : b < w.heap.size) : ArrIn w' b l k := fun j hj => (hb.cell (p := ⟨b, j, none⟩) hlt).trans (h j hj)

set_option maxHeartbeats 1000000 in
theorem parseTile_any (s : ByteArray) (hs : s.size ≤ 4294967280) (w : World) (h : Env w) :
    Calls Tryd.prog 44 #[.string s] w fun e w' => e = .returned (tileRes s) ∧ Below w.heap.size w w' := by
  obtain ⟨l, hl⟩ : ∃ l, l = cutN 46 5 s := ⟨_, rfl⟩
  obtain ⟨n, hn⟩ : ∃ n, n = l.length := ⟨_, rfl⟩
  have hn5 : n ≤ 5 := by rw [hn, hl]; exact cutN_length _ _ _ (by omega)
  have HL := Lib.hid hl
  have HN := Lib.hid hn
  have hcut := fun (W : World) (he : Env W) => split_any s 46 5 W hs (by omega) (by omega) he
  rw [← hl, ← hn] at hcut
  have HC := Lib.hid hcut
  have hps : Hid (∀ k, k < n → (l.getD k .empty).size ≤ s.size) := fun k hk => by
    rw [hl]; exact cutN_size _ _ _ _ (by rw [← hl, ← hn]; exact hk)
  clear hcut hl hn
  by_cases h4 : n = 4
  · subst h4
    go_enter Tryd.func44, Tryd.ntmps44
    go_wp2_with (go_at_call 43; refine (HC.out _ (h.keep ((Below.refl _ _).alloc (Nat.le_refl _) _))).mono ?_; rintro e w2 ⟨b, d, rfl, hb0, hbs, hcs, hb2⟩; obtain ⟨hc2, hf2⟩ := bcell hb2; have hs2 := hb2.size; simp at hs2 hb0)
    have r0 : w2.cell? ⟨w.heap.size, 0, none⟩ = some (.int .i64 0) := (hc2 _ _ (by simp)).trans (by simp [go_sem])
    have r1 : w2.cell? ⟨w.heap.size, 1, none⟩ = some (.int .i64 0) := (hc2 _ _ (by simp)).trans (by simp [go_sem])
    have r2 : w2.cell? ⟨w.heap.size, 2, none⟩ = some (.int .i64 0) := (hc2 _ _ (by simp)).trans (by simp [go_sem])
    have r3 : w2.cell? ⟨w.heap.size, 3, none⟩ = some (.int .i64 0) := (hc2 _ _ (by simp)).trans (by simp [go_sem])
    have hz : ∀ o, w2.frozen? ⟨w.heap.size, o, none⟩ = false := fun o => (hf2 _ _ (by simp)).trans (World.frozen?_alloc_at _ _ _ _ (by simp))
    have hb02 : Below w.heap.size w w2 := ((Below.refl _ _).alloc (Nat.le_refl _) _).trans (hb2.mono (by simp))
    have HB := Lib.hid hb02
    have HCS := Lib.hid hcs
    have HR : Hid (_ ∧ _ ∧ _ ∧ _ ∧ _) := ⟨r0, r1, r2, r3, hz⟩
    clear hc2 hf2 r0 r1 r2 r3 hz hb2 hb02 hcs
    go_loopw [18] (fun i wr => ∃ k : Nat, k ≤ 4 ∧ i = .int .i64 k ∧ Hid ((l.take k).all (fun x => (pCol x).isSome) = true) ∧ Hid (ArrIn wr w2.heap.size l k) ∧ Hid (∀ o, wr.frozen? ⟨w2.heap.size, o, none⟩ = false) ∧ w2.heap.size < wr.heap.size ∧ Below w2.heap.size w2 wr) (fun i _ => 4 - (RowKit.intOf i).toNat)
    case atStart => exact ⟨0, Nat.zero_le _, rfl, by simp [Hid], fun j hj => by rw [World.cell?_alloc_at _ _ _ _ rfl]; simp [arr]; match j, hj with | 0, _ => rfl | 1, _ => rfl | 2, _ => rfl | 3, _ => rfl, fun o => World.frozen?_alloc_at _ _ _ _ rfl, by simp, (Below.refl _ _).alloc (Nat.le_refl _) _⟩
    case round =>
      obtain ⟨k, hk, rfl, hall, harr, hfz, hsr, hbr⟩ := hrel
      have henv : Env wr := (h.keep HB.out).keep (hbr.mono (Nat.le_refl _))
      by_cases hlt : k < 4
      · have hcell := (hbr.cell (p := ⟨b, k, none⟩) hbs).trans (HCS.out k hlt)
        cases hp : (pCol (l.getD k .empty)).isSome
        · have HK : Hid (tileRes s = .tuple #[tv ⟨0, 0, 0, 0⟩, .bool false]) := by
            show _ = _
            refine tileRes_bad s k ?_ ?_
            · rw [← HL.out, ← HN.out]; exact hlt
            · rw [← HL.out]; exact hp
          have hcr := colRes_none hp
          have hq := (parseColour_any _ (Nat.le_trans (hps.out k hlt) (by omega)) wr henv)
          rw [hcr] at hq
          clear hcr hp
          go_wp2_with (go_at_call 55; refine hq.mono ?_; rintro e w3 ⟨rfl, hb3⟩; have hb23 := hbr.trans (hb3.mono (Nat.le_of_lt hsr)); obtain ⟨r0, r1, r2, r3, hz⟩ := HR.out; have q0 := (hb23.cell (p := ⟨w.heap.size, 0, none⟩) hs2).trans r0; have q1 := (hb23.cell (p := ⟨w.heap.size, 1, none⟩) hs2).trans r1; have q2 := (hb23.cell (p := ⟨w.heap.size, 2, none⟩) hs2).trans r2; have q3 := (hb23.cell (p := ⟨w.heap.size, 3, none⟩) hs2).trans r3; have qz : ∀ o, w3.frozen? ⟨w.heap.size, o, none⟩ = false := fun o => (hb23.frozen (p := ⟨w.heap.size, o, none⟩) hs2).trans (hz o); clear r0 r1 r2 r3 hz)
          refine bodyPost_ret (v := .tuple #[tv ⟨0, 0, 0, 0⟩, .bool false]) (by simp [results, Tryd.results44, tv, go_sem, q0, q1, q2, q3]) rfl ?_
          exact ⟨by rw [HK.out], ((((HB.out.trans (hb23.mono (by omega))).setCell (Nat.le_refl _) _).setCell (Nat.le_refl _) _).setCell (Nat.le_refl _) _).setCell (Nat.le_refl _) _⟩
        · have HS : Hid ((l.take (k + 1)).all (fun x => (pCol x).isSome) = true) := all_take _ _ k (by rw [← HN.out]; exact hlt) .empty hall.out hp
          have hcr := colRes_some hp
          have hq := (parseColour_any _ (Nat.le_trans (hps.out k hlt) (by omega)) wr henv)
          rw [hcr] at hq
          obtain ⟨v, hv⟩ : ∃ v, v = pv (l.getD k .empty) := ⟨_, rfl⟩
          rw [← hv] at hq
          have HV := Lib.hid hv
          clear hcr hp hv
          go_wp2_with (go_at_call 55; refine hq.mono ?_; rintro e w3 ⟨rfl, hb3⟩; have a0 := (hb3.cell (p := ⟨w2.heap.size, k, none⟩) hsr).trans (harr.out k hlt); have az := (hb3.frozen (p := ⟨w2.heap.size, k, none⟩) hsr).trans (hfz.out k))
          go_roundw
          case rel =>
            refine ⟨k + 1, by omega, by go_num, HS, ?_, ?_, ?_, ?_⟩
            · rw [HV.out]; exact (harr.out.keep hb3 hsr).step hlt
            · exact fun o => (World.frozen?_setCell _ _ _ _).trans ((hb3.frozen (p := ⟨w2.heap.size, o, none⟩) hsr).trans (hfz.out o))
            · exact Nat.lt_of_lt_of_le hsr (by simpa [World.setCell] using hb3.size)
            · exact (hbr.trans (hb3.mono (Nat.le_of_lt hsr))).setCell (Nat.le_refl _) _
          case measure => simp [RowKit.intOf]; omega
      · have e : k = 4 := by omega
        subst e
        have HK : Hid (tileRes s = .tuple #[tv ⟨pv (l.getD 0 .empty), pv (l.getD 1 .empty), pv (l.getD 2 .empty), pv (l.getD 3 .empty)⟩, .bool true]) := by
          show _ = _
          rw [HL.out]
          exact tileRes_ok s (by rw [← HL.out, ← HN.out]) (by rw [← HL.out]; exact hall.out)
        obtain ⟨v0, hv0⟩ : ∃ v, v = pv (l.getD 0 .empty) := ⟨_, rfl⟩
        obtain ⟨v1, hv1⟩ : ∃ v, v = pv (l.getD 1 .empty) := ⟨_, rfl⟩
        obtain ⟨v2, hv2⟩ : ∃ v, v = pv (l.getD 2 .empty) := ⟨_, rfl⟩
        obtain ⟨v3, hv3⟩ : ∃ v, v = pv (l.getD 3 .empty) := ⟨_, rfl⟩
        have a0 := harr.out 0 (by omega)
        have a1 := harr.out 1 (by omega)
        have a2 := harr.out 2 (by omega)
        have a3 := harr.out 3 (by omega)
        simp only [arr, show (0 : Nat) < 4 from by omega, show (1 : Nat) < 4 from by omega, show (2 : Nat) < 4 from by omega, show (3 : Nat) < 4 from by omega, if_true] at a0 a1 a2 a3
        rw [← hv0] at a0 HK
        rw [← hv1] at a1 HK
        rw [← hv2] at a2 HK
        rw [← hv3] at a3 HK
        obtain ⟨r0, r1, r2, r3, hz⟩ := HR.out
        have q0 := (hbr.cell (p := ⟨w.heap.size, 0, none⟩) hs2).trans r0
        have q1 := (hbr.cell (p := ⟨w.heap.size, 1, none⟩) hs2).trans r1
        have q2 := (hbr.cell (p := ⟨w.heap.size, 2, none⟩) hs2).trans r2
        have q3 := (hbr.cell (p := ⟨w.heap.size, 3, none⟩) hs2).trans r3
        have qz : ∀ o, wr.frozen? ⟨w.heap.size, o, none⟩ = false := fun o => (hbr.frozen (p := ⟨w.heap.size, o, none⟩) hs2).trans (hz o)
        clear r0 r1 r2 r3 hz harr hfz hall hv0 hv1 hv2 hv3
        go_wp2
        refine bodyPost_ret (v := .tuple #[tv ⟨v0, v1, v2, v3⟩, .bool true]) (by simp [results, Tryd.results44, tv, go_sem, q0, q1, q2, q3]) rfl ?_
        exact ⟨by rw [HK.out], ((((HB.out.trans (hbr.mono (by omega))).setCell (Nat.le_refl _) _).setCell (Nat.le_refl _) _).setCell (Nat.le_refl _) _).setCell (Nat.le_refl _) _⟩
  · have HK : Hid (tileRes s = .tuple #[tv ⟨0, 0, 0, 0⟩, .bool false]) := by
      show _ = _
      exact tileRes_long s (by rw [← HL.out, ← HN.out]; exact h4)
    go_enter Tryd.func44, Tryd.ntmps44
    go_wp2_with (go_at_call 43; refine (HC.out _ (h.keep ((Below.refl _ _).alloc (Nat.le_refl _) _))).mono ?_; rintro e w3 ⟨b, d, rfl, hb0, hbs, hcs, hb3⟩; obtain ⟨hc2, hf2⟩ := bcell hb3; have hs2 := hb3.size; simp at hs2 hb0; have q0 : w3.cell? ⟨w.heap.size, 0, none⟩ = some (.int .i64 0) := (hc2 _ _ (by simp)).trans (by simp [go_sem]); have q1 : w3.cell? ⟨w.heap.size, 1, none⟩ = some (.int .i64 0) := (hc2 _ _ (by simp)).trans (by simp [go_sem]); have q2 : w3.cell? ⟨w.heap.size, 2, none⟩ = some (.int .i64 0) := (hc2 _ _ (by simp)).trans (by simp [go_sem]); have q3 : w3.cell? ⟨w.heap.size, 3, none⟩ = some (.int .i64 0) := (hc2 _ _ (by simp)).trans (by simp [go_sem]); have qz : ∀ o, w3.frozen? ⟨w.heap.size, o, none⟩ = false := fun o => (hf2 _ _ (by simp)).trans (World.frozen?_alloc_at _ _ _ _ (by simp)); clear hc2 hf2 hcs)
    refine bodyPost_ret (v := .tuple #[tv ⟨0, 0, 0, 0⟩, .bool false]) (by simp [results, Tryd.results44, tv, go_sem, q0, q1, q2, q3]) rfl ?_
    have hb03 : Below w.heap.size w w3 := ((Below.refl _ _).alloc (Nat.le_refl _) _).trans (hb3.mono (by simp))
    exact ⟨by rw [HK.out], (((hb03.setCell (Nat.le_refl _) _).setCell (Nat.le_refl _) _).setCell (Nat.le_refl _) _).setCell (Nat.le_refl _) _⟩
end
section
open Go.RowKit Go.Maps Go.Sort
set_option linter.unusedVariables false
set_option maxRecDepth 100000

def tc (t : Tl) : List Value := [.int .i64 t.n, .int .i64 t.e, .int .i64 t.s, .int .i64 t.w]
def tcells (s : List Tl) : List Value := s.flatMap tc
theorem tcells_len (s : List Tl) : (tcells s).length = s.length * 4 := by
  unfold tcells
  induction s with
  | nil => rfl
  | cons t r ih => simp only [List.flatMap_cons, List.length_append, ih, List.length_cons, tc, List.length_nil]; omega
theorem tcells_at (s : List Tl) : ∀ i, i < s.length → ∀ j, j < 4 → (tcells s)[i * 4 + j]? = (tc (s.getD i ⟨0, 0, 0, 0⟩))[j]? := by
  induction s with
  | nil => intro i hi; simp at hi
  | cons t r ih =>
    intro i hi j hj
    have e : tcells (t :: r) = tc t ++ tcells r := by simp [tcells]
    rw [e]
    cases i with
    | zero =>
      rw [Nat.zero_mul, Nat.zero_add, List.getElem?_append_left (by simpa [tc] using hj)]
      rfl
    | succ i =>
      rw [List.getElem?_append_right (by simp [tc]; omega)]
      have e2 : (i + 1) * 4 + j - (tc t).length = i * 4 + j := by simp [tc]; omega
      rw [e2, ih i (by simpa using hi) j hj]
      rfl
theorem tcells_snoc (s : List Tl) (t : Tl) : tcells s ++ tc t = tcells (s ++ [t]) := by simp [tcells]

/-- A row of tiles from block lo on. -/
def SetNew (w : World) (lo : Nat) (A : Option Addr) (s : List Tl) : Prop :=
  s ≠ [] → ∃ b off, A = some ⟨b, off, none⟩ ∧ lo ≤ b ∧ b < w.heap.size ∧ ∀ i, i < s.length →
    w.cell? ⟨b, off + i * 4, none⟩ = some (.int .i64 (s.getD i ⟨0, 0, 0, 0⟩).n) ∧ w.cell? ⟨b, off + i * 4 + 1, none⟩ = some (.int .i64 (s.getD i ⟨0, 0, 0, 0⟩).e) ∧
    w.cell? ⟨b, off + i * 4 + 2, none⟩ = some (.int .i64 (s.getD i ⟨0, 0, 0, 0⟩).s) ∧ w.cell? ⟨b, off + i * 4 + 3, none⟩ = some (.int .i64 (s.getD i ⟨0, 0, 0, 0⟩).w)
theorem SetNew.old {w : World} {lo : Nat} {A : Option Addr} {s : List Tl} (h : SetNew w lo A s) : SetIn w w.heap.size A s := fun hn => by
  obtain ⟨b, off, hA, _, hlt, hc⟩ := h hn
  exact ⟨b, off, hA, hlt, hc⟩
theorem SetNew.mono {w : World} {lo lo' : Nat} {A : Option Addr} {s : List Tl} (h : SetNew w lo A s) (hl : lo' ≤ lo) : SetNew w lo' A s := fun hn => by
  obtain ⟨b, off, hA, hlo, hlt, hc⟩ := h hn
  exact ⟨b, off, hA, by omega, hlt, hc⟩
theorem SetNew.keep {w w' : World} {lo : Nat} {A : Option Addr} {s : List Tl} (h : SetNew w lo A s) (hb : Below w.heap.size w w') : SetNew w' lo A s := fun hn => by
  obtain ⟨b, off, hA, hlo, hlt, hc⟩ := h hn
  refine ⟨b, off, hA, hlo, Nat.lt_of_lt_of_le hlt hb.size, fun i hi => ?_⟩
  obtain ⟨h0, h1, h2, h3⟩ := hc i hi
  exact ⟨(hb.cell (p := ⟨b, _, none⟩) hlt).trans h0, (hb.cell (p := ⟨b, _, none⟩) hlt).trans h1, (hb.cell (p := ⟨b, _, none⟩) hlt).trans h2, (hb.cell (p := ⟨b, _, none⟩) hlt).trans h3⟩
theorem own_set {w : World} {base n : Nat} {e : TypeId} {v : Value} {s : List Tl} (h : w.ownsRow base e 4 v n (tcells s)) : ∃ A c, v = .slice A n c ∧ n = s.length ∧ n ≤ maxLen ∧ SetNew w base A s := by
  have hl : s.length = n := by have := h.1; rw [tcells_len] at this; omega
  rcases h.2 with ⟨rfl, h0⟩ | ⟨g, cap, cur, rfl, hb, hh, hnc, hm, hs, hx⟩
  · subst h0
    have : s = [] := List.eq_nil_of_length_eq_zero hl
    subst this
    exact ⟨none, 0, rfl, rfl, by simp [maxLen], fun hne => absurd rfl hne⟩
  · refine ⟨_, cap, rfl, hl.symm, Nat.le_trans hnc hm, fun _ => ⟨g, 0, rfl, hb, (Array.getElem?_eq_some_iff.1 hh).1, fun i hi => ?_⟩⟩
    have at' : ∀ j, j < 4 → w.cell? ⟨g, 0 + i * 4 + j, none⟩ = (tc (s.getD i ⟨0, 0, 0, 0⟩))[j]? := fun j hj => by
      have := h.cellAt (i * 4 + j) (by omega)
      rw [Nat.zero_add, this, tcells_at s i hi j hj]
    exact ⟨at' 0 (by omega), at' 1 (by omega), at' 2 (by omega), at' 3 (by omega)⟩
theorem own_keep' {w w' : World} {base e size n : Nat} {v : Value} {xs : List Value} (h : w.ownsRow base e size v n xs) (hb : Below w.heap.size w w') : w'.ownsRow base e size v n xs := by
  refine h.kept (grown_of_below hb none) ?_
  by_cases hv : v.ownBlock = none
  · exact .inl hv
  · exact .inr hv
theorem tile_info : (Tryd.prog.info? 53).map (fun i => (i.zero, i.size, i.bytes)) = some (some (.agg #[.int .i64 0, .int .i64 0, .int .i64 0, .int .i64 0]), 4, 32) := by kernel_rfl

/-- What Parse makes of a text. -/
def pt (x : ByteArray) : Tl := (pTile x).getD ⟨0, 0, 0, 0⟩
def pParse (s : ByteArray) : Option (List Tl) :=
  if s.size = 0 then some []
  else if (cutN 32 1001 s).all (fun x => (pTile x).isSome) = true ∧ vld ((cutN 32 1001 s).map pt) = true then some ((cutN 32 1001 s).map pt) else none
def IsParse (s : ByteArray) (W : World) (e : Ending) (w' : World) : Prop :=
  Below W.heap.size W w' ∧ match pParse s with
  | some set => ∃ A c, e = .returned (.tuple #[.slice A set.length c, .int .i64 0]) ∧ SetNew w' W.heap.size A set
  | none => e = .returned (.tuple #[.slice none 0 0, .int .i64 3])

theorem parse_nil (s : ByteArray) (h : s.size = 0) : pParse s = some [] := by unfold pParse; rw [if_pos h]
theorem parse_bad (s : ByteArray) (h : s.size ≠ 0) (k : Nat) (hk : k < (cutN 32 1001 s).length) (hb : (pTile ((cutN 32 1001 s).getD k .empty)).isSome = false) : pParse s = none := by
  unfold pParse
  rw [if_neg h, if_neg (fun e => by have := all_bad (fun x => (pTile x).isSome) _ k hk .empty hb; rw [e.1] at this; cases this)]
theorem parse_end (s : ByteArray) (h : s.size ≠ 0) (ha : (cutN 32 1001 s).all (fun x => (pTile x).isSome) = true) :
    pParse s = if vld ((cutN 32 1001 s).map pt) = true then some ((cutN 32 1001 s).map pt) else none := by
  unfold pParse
  rw [if_neg h]
  simp [ha]
theorem tileRes_some {s : ByteArray} (h : (pTile s).isSome = true) : tileRes s = .tuple #[tv (pt s), .bool true] := by
  obtain ⟨v, hv⟩ := Option.isSome_iff_exists.1 h
  unfold tileRes pt
  rw [hv]; rfl
theorem tileRes_none {s : ByteArray} (h : (pTile s).isSome = false) : tileRes s = .tuple #[tv ⟨0, 0, 0, 0⟩, .bool false] := by
  unfold tileRes
  cases hv : pTile s with
  | none => rfl
  | some v => rw [hv] at h; cases h
theorem map_snoc (l : List ByteArray) (k : Nat) (hk : k < l.length) : (l.map pt).take k ++ [pt (l.getD k .empty)] = (l.map pt).take (k + 1) := by
  rw [← List.map_take, ← List.map_take, take_snoc l k hk .empty, List.map_append]; rfl
theorem cell_four_new (w : World) (n : Nat) (hn : n = w.heap.size) (a b c d : Value) (t : TypeId) : ∀ j u, [a, b, c, d][j]? = some u → (w.alloc (.cells #[a, b, c, d] t)).cell? ((⟨n, 0, none⟩ : Addr).add j) = some u := by
  subst hn
  intro j u hj
  have e : ((⟨w.heap.size, 0, none⟩ : Addr).add j) = ⟨w.heap.size, j, none⟩ := by
    unfold Addr.add
    split
    · rename_i h; subst h; rfl
    · simp
  rw [e, World.cell?_alloc_at _ _ _ _ rfl]
  simpa using hj
theorem four_one (a b c d : Int) : ∀ u ∈ [Value.int .i64 a, .int .i64 b, .int .i64 c, .int .i64 d], u.oneCell' = true := by
  intro u hu
  simp at hu
  rcases hu with rfl | rfl | rfl | rfl <;> rfl
theorem pv_range (s : ByteArray) : (Lit.int .i64 (pv s)).wf = true := by
  have h : -9223372036854775808 ≤ pv s ∧ pv s ≤ 9223372036854775807 := by
    unfold pv pCol
    split
    · rename_i v hv
      split
      · exact parse_range _ _ hv
      · simp
    · simp
  obtain ⟨h1, h2⟩ := h
  unfold Lit.wf
  rw [Bool.and_eq_true]
  exact ⟨decide_eq_true h1, decide_eq_true h2⟩
theorem size_empty {s : ByteArray} {b : Bool} (h : decide (s.size = 0) = b) : s.toList.isEmpty = b := by
  have e : s.size = s.data.toList.length := (Array.length_toList (xs := s.data)).symm
  rw [← h, ByteArray.toList_eq, e]
  cases s.data.toList <;> simp
theorem pt_twf (s : ByteArray) : twf (pt s) := by
  unfold pt pTile
  simp only
  split
  · exact ⟨pv_range _, pv_range _, pv_range _, pv_range _⟩
  · exact ⟨by decide, by decide, by decide, by decide⟩
set_option maxHeartbeats 2000000 in
theorem parse_any (s : ByteArray) (hs : s.size ≤ 4294967280) (w : World) (h : Env w) :
    Calls Tryd.prog 25 #[.string s] w (IsParse s w) := by
  by_cases h0 : s.size = 0
  · have HP := Lib.hid (parse_nil s h0)
    have hq := size_empty (decide_eq_true h0)
    go_enter Tryd.func25, Tryd.ntmps25
    go_wp2
    refine bodyPost_ret (v := .tuple #[.slice none 0 0, .int .i64 0]) (by simp [results, Tryd.results25, go_sem]) rfl ?_
    refine ⟨Below.refl _ _, ?_⟩
    rw [HP.out]
    exact ⟨none, 0, rfl, fun hn => absurd rfl hn⟩
  · have hq := size_empty (decide_eq_false h0)
    obtain ⟨i0, hi, hz0, hz1, hz2⟩ := info_parts tile_info
    obtain ⟨l, hl⟩ : ∃ l, l = cutN 32 1001 s := ⟨_, rfl⟩
    obtain ⟨n, hn⟩ : ∃ n, n = l.length := ⟨_, rfl⟩
    have hn5 : n ≤ 1001 := by rw [hn, hl]; exact cutN_length _ _ _ (by omega)
    have HL := Lib.hid hl
    have HN := Lib.hid hn
    have H0 := Lib.hid h0
    have hcut := fun (W : World) (he : Env W) => split_any s 32 1001 W hs (by omega) (by omega) he
    rw [← hl, ← hn] at hcut
    have HC := Lib.hid hcut
    have hps : Hid (∀ k, k < n → (l.getD k .empty).size ≤ s.size) := fun k hk => by
      rw [hl]; exact cutN_size _ _ _ _ (by rw [← hl, ← hn]; exact hk)
    clear hcut hl hn h0
    have hby : i0.bytes * n ≤ 281474976710656 := by rw [hz2]; omega
    go_enter Tryd.func25, Tryd.ntmps25
    go_wp2_with first | (go_at_call 43; refine (HC.out _ h).mono ?_; rintro e w1 ⟨b, d, rfl, hb0, hbs, hcs, hb1⟩) | (at_make; refine wpList_make_own _ rfl _ _ 22 rfl w1.heap.size 53 i0 (.agg #[.int .i64 0, .int .i64 0, .int .i64 0, .int .i64 0]) 4 Tryd.underlying22 hi hz0 hz1 .i64 .i64 _ n rfl rfl rfl hby (by simp only [maxLen]; omega) (by simp) ?_; intro w2 hown2 hgrow2)
    have hb2 : Below w1.heap.size w1 w2 := ⟨hgrow2.os, hgrow2.tape, hgrow2.output, hgrow2.size, fun k hk => hgrow2.block k hk (by simp)⟩
    have HCS := Lib.hid hcs
    clear hcs hgrow2
    go_loopw [5, 19] (fun v i wr => ∃ k : Nat, k ≤ n ∧ i = .int .i64 k ∧ wr.ownsRow w1.heap.size 53 4 v k (tcells ((l.map pt).take k)) ∧ Hid ((l.take k).all (fun x => (pTile x).isSome) = true) ∧ Below w1.heap.size w1 wr) (fun _ i _ => n - (intOf i).toNat)
    case atStart => exact ⟨0, Nat.zero_le _, rfl, by simpa [tcells] using hown2, by simp [Hid], hb2⟩
    case round =>
      clear hown2 hb2
      obtain ⟨k, hk, rfl, hown, hall, hbr⟩ := hrel
      obtain ⟨wo, rfl⟩ : ∃ wo : World, wo = wr := ⟨_, rfl⟩
      have hbw : Below w.heap.size w wo := hb1.trans (hbr.mono hb1.size)
      by_cases hlt : k < n
      · have hcell := (hbr.cell (p := ⟨b, k, none⟩) hbs).trans (HCS.out k hlt)
        have hq := (parseTile_any _ (Nat.le_trans (hps.out k hlt) hs) wo (h.keep hbw))
        cases hp : (pTile (l.getD k .empty)).isSome
        · have HP : Hid (pParse s = none) := parse_bad s H0.out k (by rw [← HL.out, ← HN.out]; exact hlt) (by rw [← HL.out]; exact hp)
          rw [tileRes_none hp] at hq
          simp only [tv] at hq
          clear hp hown
          go_wp2_with (go_at_call 44; refine hq.mono ?_; rintro e w3 ⟨rfl, hb3⟩)
          refine bodyPost_ret (v := .tuple #[.slice none 0 0, .int .i64 3]) (by simp [results, Tryd.results25, go_sem]) rfl ?_
          refine ⟨(hbw.trans (hb3.mono hbw.size)).alloc (Nat.le_trans hbw.size hb3.size) _, ?_⟩
          rw [HP.out]
        · obtain ⟨t, ht⟩ : ∃ t, t = pt (l.getD k .empty) := ⟨_, rfl⟩
          rw [tileRes_some hp, ← ht] at hq
          simp only [tv] at hq
          have HA : Hid ((l.take (k + 1)).all (fun x => (pTile x).isSome) = true) := all_take _ _ k (by rw [← HN.out]; exact hlt) .empty hall.out hp
          have HST : Hid (tcells ((l.map pt).take k) ++ [.int .i64 t.n, .int .i64 t.e, .int .i64 t.s, .int .i64 t.w] = tcells ((l.map pt).take (k + 1))) := by
            show _ = _
            rw [← map_snoc l k (by rw [← HN.out]; exact hlt), ← tcells_snoc, ← ht]
            rfl
          clear hp ht hall
          go_wp2_with first | (go_at_call 44; refine hq.mono ?_; rintro e w3 ⟨rfl, hb3⟩; have hs3 := hb3.size) | (at_builtin; refine wpList_append_own _ rfl _ _ 22 rfl w1.heap.size 53 i0 (.agg #[.int .i64 0, .int .i64 0, .int .i64 0, .int .i64 0]) 4 32 Tryd.underlying22 hi hz0 hz1 hz2 rfl (by decide) _ _ _ rfl (((own_keep' hown hb3).alloc _).alloc _) ⟨_, 0, none⟩ 1 1 [.int .i64 t.n, .int .i64 t.e, .int .i64 t.s, .int .i64 t.w] rfl rfl (cell_four_new _ _ (by simp) _ _ _ _ _) (four_one _ _ _ _) (by simp only [maxLen]; omega) (by omega) (by have := hbr.size; simp; omega) ?_; intro v' w4 hown4 hgrow4 hnil4)
          have hb4 : Below w1.heap.size w1 w4 := (((hbr.trans (hb3.mono hbr.size)).alloc (Nat.le_trans hbr.size hs3) _).alloc (by have := hbr.size; simp; omega) _).grown hgrow4 (by have := hbr.size; simp; omega) (fun k hk => (hown.lt k hk).1)
          rw [HST.out] at hown4
          clear hnil4 hgrow4
          go_roundw
          case rel => exact ⟨k + 1, by omega, by go_num, hown4, HA, hb4⟩
          case measure => simp [intOf]; omega
      · have e : k = n := by omega
        subst e
        have HA : Hid (l.all (fun x => (pTile x).isSome) = true) := by
          have := hall.out
          rw [List.take_of_length_le (by rw [← HN.out]; omega)] at this
          exact this
        have hpe : pParse s = if vld (l.map pt) = true then some (l.map pt) else none := by rw [HL.out]; exact parse_end s H0.out (by rw [← HL.out]; exact HA.out)
        rw [List.take_of_length_le (by rw [List.length_map, ← HN.out]; omega)] at hown
        obtain ⟨A, c, rfl, hkl, hkm, hnew⟩ := own_set hown
        have hwf : ∀ t ∈ l.map pt, twf t := fun t ht => by
          obtain ⟨x, _, rfl⟩ := List.mem_map.1 ht
          exact pt_twf x
        have hval := valid_any (l.map pt) A c wo hnew.old hwf (by rw [← hkl]; omega)
        rw [← hkl] at hval
        have HKL := Lib.hid hkl
        clear hown hall hkl hkm
        cases hv : vld (l.map pt)
        · rw [hv] at hval
          have HP : Hid (pParse s = none) := by show _ = _; rw [hpe, hv]; simp
          clear hpe hv
          go_wp2_with (go_at_call 27; refine hval.mono ?_; rintro e w3 ⟨rfl, hb3⟩)
          refine bodyPost_ret (v := .tuple #[.slice none 0 0, .int .i64 3]) (by simp [results, Tryd.results25, go_sem]) rfl ?_
          refine ⟨hbw.trans (hb3.mono hbw.size), ?_⟩
          rw [HP.out]
        · rw [hv] at hval
          have HP : Hid (pParse s = some (l.map pt)) := by show _ = _; rw [hpe, hv]; simp
          clear hpe hv
          go_wp2_with (go_at_call 27; refine hval.mono ?_; rintro e w3 ⟨rfl, hb3⟩)
          refine bodyPost_ret (v := .tuple #[.slice A k c, .int .i64 0]) (by simp [results, Tryd.results25, go_sem]) rfl ?_
          refine ⟨hbw.trans (hb3.mono hbw.size), ?_⟩
          rw [HP.out]
          exact ⟨A, c, by rw [← HKL.out], (hnew.keep hb3).mono hb1.size⟩
end
section
open Go.RowKit Go.Maps Go.Sort
set_option linter.unusedVariables false
set_option maxRecDepth 100000

def tList (t : Tl) : List ByteArray := [dec t.n, dec t.e, dec t.s, dec t.w]
def glue (xs : List ByteArray) (c : UInt8) : ByteArray := ⟨(Lib.join (xs.map (·.data.toList)) [c]).toArray⟩
/-- the text of a tile -/
def tText (t : Tl) : ByteArray := glue (tList t) 46
theorem wf_range {n : Int} (h : (Lit.int .i64 n).wf = true) : -9223372036854775808 ≤ n ∧ n ≤ 9223372036854775807 := by
  unfold Lit.wf at h
  rw [Bool.and_eq_true] at h
  exact ⟨of_decide_eq_true h.1, of_decide_eq_true h.2⟩
theorem dec_len {n : Int} (h : (Lit.int .i64 n).wf = true) : (dec n).data.toList.length ≤ 21 := by
  obtain ⟨h0, h1⟩ := wf_range h
  simpa [dec] using Lib.itoa_length_le n h0 h1
theorem lens_le (xs : List (List UInt8)) (m : Nat) (h : ∀ x ∈ xs, x.length ≤ m) : Lib.lens xs ≤ m * xs.length := by
  unfold Lib.lens
  induction xs with
  | nil => simp
  | cons x r ih =>
    have h1 := h x (by simp)
    have h2 := ih (fun y hy => h y (by simp [hy]))
    simp only [List.map_cons, List.sum_cons, List.length_cons, Nat.mul_add, Nat.mul_one]
    omega
theorem glue_len (xs : List ByteArray) (c : UInt8) (m : Nat) (h : ∀ x ∈ xs, x.data.toList.length ≤ m) : (Lib.join (xs.map (·.data.toList)) [c]).length ≤ xs.length + m * xs.length := by
  cases xs with
  | nil => simp [Lib.join_nil]
  | cons x r =>
    rw [List.map_cons, Lib.join_length]
    have := lens_le ((x :: r).map (·.data.toList)) m (by
      intro y hy
      obtain ⟨z, hz, rfl⟩ := List.mem_map.1 hy
      exact h z hz)
    rw [List.map_cons] at this
    simp only [List.length_cons, List.length_map, List.length_nil] at this ⊢
    omega
theorem tList_len {t : Tl} (h : twf t) : ∀ x ∈ tList t, x.data.toList.length ≤ 21 := by
  intro x hx
  simp only [tList, List.mem_cons, List.not_mem_nil, or_false] at hx
  obtain ⟨h1, h2, h3, h4⟩ := h
  rcases hx with rfl | rfl | rfl | rfl
  · exact dec_len h1
  · exact dec_len h2
  · exact dec_len h3
  · exact dec_len h4
theorem tText_len {t : Tl} (h : twf t) : (tText t).data.toList.length ≤ 100 := by
  have := glue_len (tList t) 46 21 (tList_len h)
  have e : (tText t).data.toList = Lib.join ((tList t).map (·.data.toList)) [46] := by simp [tText, glue]
  rw [e]
  have h4 : (tList t).length = 4 := rfl
  rw [h4] at this
  omega

/-- the text of a set -/
def sText (s : List Tl) : ByteArray := glue (s.map tText) 32
def textRes (s : List Tl) : Value := if vld s = true then .tuple #[.string (sText s), .int .i64 0] else .tuple #[.string ⟨#[]⟩, .int .i64 1]
theorem str_info : (Tryd.prog.info? 9).map (fun i => (i.zero, i.size, i.bytes)) = some (some (.string ⟨#[]⟩), 1, 16) := by kernel_rfl
/-- the words while the loop runs -/
def wordAt (s : List Tl) (k j : Nat) : ByteArray := if j < k then tText (s.getD j ⟨0, 0, 0, 0⟩) else ⟨#[]⟩
def WordsIn (w : World) (b : Nat) (s : List Tl) (k : Nat) : Prop := ∀ j, j < s.length → w.cell? ⟨b, j, none⟩ = some (.string (wordAt s k j))
theorem WordsIn.step {w : World} {b : Nat} {s : List Tl} {k : Nat} (h : WordsIn w b s k) (hk : k < s.length) : WordsIn (w.setCell ⟨b, k, none⟩ (.string (tText (s.getD k ⟨0, 0, 0, 0⟩)))) b s (k + 1) := fun j hj => by
  by_cases e : j = k
  · subst e
    rw [World.cell?_setCell_same _ _ _ (h j hj)]
    simp [wordAt]
  · rw [World.cell?_setCell_other _ _ _ _ (fun x => e (by injection x with _ x; exact x.symm)), h j hj]
    have : (j < k + 1) = (j < k) := by apply propext; omega
    simp [wordAt, this]
theorem WordsIn.keep {w w' : World} {b : Nat} {s : List Tl} {k : Nat} (h : WordsIn w b s k) (hb : Below w.heap.size w w') (hlt : b < w.heap.size) : WordsIn w' b s k := fun j hj => (hb.cell (p := ⟨b, j, none⟩) hlt).trans (h j hj)
theorem text_bad {s : List Tl} (h : vld s = false) : textRes s = .tuple #[.string ⟨#[]⟩, .int .i64 1] := by unfold textRes; rw [h]; rfl
theorem text_ok {s : List Tl} (h : vld s = true) : textRes s = .tuple #[.string (sText s), .int .i64 0] := by unfold textRes; rw [h]; rfl

theorem own_words {w : World} {base n b c : Nat} {e : TypeId} {xs : List Value} (h : w.ownsRow base e 1 (.slice (some ⟨b, 0, none⟩) n c) n xs) : b < w.heap.size ∧ (∀ i, i < n → w.cell? ⟨b, i, none⟩ = xs[i]?) ∧ ∀ o, w.frozen? ⟨b, o, none⟩ = false := by
  rcases h.2 with ⟨h0, _⟩ | ⟨g, cap, cur, hv, hb, hh, hnc, hm, hs, hx⟩
  · simp at h0
  · have hg : b = g := by simp at hv; exact hv.1
    subst hg
    refine ⟨(Array.getElem?_eq_some_iff.1 hh).1, fun i hi => h.cellAt i (by omega), fun o => ?_⟩
    simp [World.frozen?, hh]
theorem made_at (z : Value) (n i : Nat) (hi : i < n) : (madeCells #[z] n).toList[i]? = some z := by simp [madeCells, hi, Nat.mod_one]
theorem set_at {w : World} {B : Nat} {A : Option Addr} {s : List Tl} (h : SetIn w B A s) {w' : World} (hb : Below B w w') {k : Nat} (hk : k < s.length) : ∃ bk off, A = some ⟨bk, off, none⟩ ∧ bk < B ∧
    w'.cell? ⟨bk, off + k * 4, none⟩ = some (.int .i64 (s.getD k ⟨0, 0, 0, 0⟩).n) ∧ w'.cell? ⟨bk, off + k * 4 + 1, none⟩ = some (.int .i64 (s.getD k ⟨0, 0, 0, 0⟩).e) ∧
    w'.cell? ⟨bk, off + k * 4 + 2, none⟩ = some (.int .i64 (s.getD k ⟨0, 0, 0, 0⟩).s) ∧ w'.cell? ⟨bk, off + k * 4 + 3, none⟩ = some (.int .i64 (s.getD k ⟨0, 0, 0, 0⟩).w) := by
  obtain ⟨bk, off, hA, hlt, hc⟩ := h (ne_nil_of_lt hk)
  obtain ⟨h0, h1, h2, h3⟩ := hc k hk
  exact ⟨bk, off, hA, hlt, (hb.cell (p := ⟨bk, _, none⟩) hlt).trans h0, (hb.cell (p := ⟨bk, _, none⟩) hlt).trans h1, (hb.cell (p := ⟨bk, _, none⟩) hlt).trans h2, (hb.cell (p := ⟨bk, _, none⟩) hlt).trans h3⟩
end
end Go.Proofs.YtgadfmknjpanpaaDoor
