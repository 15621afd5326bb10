/-
  strings.SplitN in one form; tile.parseTile.
-/
import Derived.Test.YtmmpdniafmhjpaaGreatDoorEnv
namespace Go.Proofs.YtmmpdniafmhjpaaGreatDoor
open Go.RowKit Go.Maps Go.Sort Go.Lib
set_option linter.unusedVariables false
set_option maxRecDepth 100000

def cutN (c : UInt8) (n : Nat) (s : ByteArray) : List ByteArray := Lib.splitB ⟨#[c]⟩ 0 (min n (s.size + 1) - 1) s
theorem cut_size (sep : ByteArray) : ∀ (k : Nat) (s : ByteArray), ∀ p ∈ Lib.splitB sep 0 k s, p.size ≤ s.size
  | 0, s => by simp [Lib.splitB]
  | k + 1, s => by
    intro p hp
    unfold Lib.splitB at hp
    split at hp
    · simp at hp; rw [hp]; exact Nat.le_refl _
    · simp only [List.mem_cons] at hp
      rcases hp with rfl | hp
      · rw [ByteArray.size_extract]; omega
      · have := cut_size sep k _ p hp
        rw [ByteArray.size_extract] at this; omega
theorem cutN_size (c : UInt8) (n : Nat) (s : ByteArray) (k : Nat) (hk : k < (cutN c n s).length) : ((cutN c n s).getD k .empty).size ≤ s.size := by
  rw [List.getD_eq_getElem?_getD, List.getElem?_eq_getElem hk]
  exact cut_size _ _ s _ (List.getElem_mem hk)
theorem cutN_length (c : UInt8) (n : Nat) (s : ByteArray) (hn : 1 ≤ n) : (cutN c n s).length ≤ n := by
  have := Lib.splitB_length_le ⟨#[c]⟩ 0 (min n (s.size + 1) - 1) s
  unfold cutN; omega
theorem split_any (s : ByteArray) (c : UInt8) (n : Nat) (w : World) (hs : s.size ≤ 4294967280) (hn : 1 ≤ n) (hn63 : n ≤ 9223372036854775807) (h : Env w) :
    Calls Tryz.prog 56 #[.string s, .string ⟨#[c]⟩, .int .i64 n] w fun e w' => ∃ b d, e = .returned (.slice (some ⟨b, 0, none⟩) (cutN c n s).length d) ∧
      w.heap.size ≤ b ∧ b < w'.heap.size ∧ (∀ i, i < (cutN c n s).length → w'.cell? ⟨b, i, none⟩ = some (.string ((cutN c n s).getD i .empty))) ∧ Below w.heap.size w w' := by
  obtain ⟨m, hm⟩ := h.maxLen
  refine (Tryz.strings_SplitN s ⟨#[c]⟩ n m w (by omega) hm (by show 1 ≤ (#[c] : Array UInt8).size; simp) hn hn63).mono ?_
  rintro e w' ⟨rfl, rfl⟩
  refine ⟨_, _, rfl, Nat.le_refl _, by simp, fun i hi => ?_, (Below.refl _ _).alloc (Nat.le_refl _) _⟩
  rw [World.cell?_alloc_at _ _ _ _ rfl]
  unfold Lib.cellsOf
  rw [List.getElem?_toArray, List.getElem?_append_left (by simpa [cutN] using hi), List.getElem?_map, List.getD_eq_getElem?_getD]
  unfold cutN at hi ⊢
  rw [List.getElem?_eq_getElem hi]
  rfl

def pv (s : ByteArray) : Int := (pCol s).getD 0
/-- What parseTile makes of a text. -/
def pTile (s : ByteArray) : Option Tl :=
  let l := cutN 46 5 s
  if l.length = 4 ∧ l.all (fun x => (pCol x).isSome) = true then some ⟨pv (l.getD 0 .empty), pv (l.getD 1 .empty), pv (l.getD 2 .empty), pv (l.getD 3 .empty)⟩ else none
def tileRes (s : ByteArray) : Value :=
  match pTile s with
  | some t => .tuple #[tv t, .bool true]
  | none => .tuple #[tv ⟨0, 0, 0, 0⟩, .bool false]
theorem colRes_some {s : ByteArray} (h : (pCol s).isSome = true) : colRes s = .tuple #[.int .i64 (pv s), .bool true] := by
  obtain ⟨v, hv⟩ := Option.isSome_iff_exists.1 h
  unfold colRes pv
  rw [hv]; rfl
theorem colRes_none {s : ByteArray} (h : (pCol s).isSome = false) : colRes s = .tuple #[.int .i64 0, .bool false] := by
  unfold colRes
  cases hv : pCol s with
  | none => rfl
  | some v => rw [hv] at h; cases h

theorem tileRes_long (s : ByteArray) (h : (cutN 46 5 s).length ≠ 4) : tileRes s = .tuple #[tv ⟨0, 0, 0, 0⟩, .bool false] := by
  unfold tileRes pTile
  rw [if_neg (fun e => h e.1)]
theorem tileRes_bad (s : ByteArray) (k : Nat) (hk : k < (cutN 46 5 s).length) (h : (pCol ((cutN 46 5 s).getD k .empty)).isSome = false) : tileRes s = .tuple #[tv ⟨0, 0, 0, 0⟩, .bool false] := by
  unfold tileRes pTile
  rw [if_neg (fun e => by have := all_bad (fun x => (pCol x).isSome) _ k hk .empty h; rw [e.2] at this; cases this)]
theorem tileRes_ok (s : ByteArray) (h4 : (cutN 46 5 s).length = 4) (h : ((cutN 46 5 s).take 4).all (fun x => (pCol x).isSome) = true) :
    tileRes s = .tuple #[tv ⟨pv ((cutN 46 5 s).getD 0 .empty), pv ((cutN 46 5 s).getD 1 .empty), pv ((cutN 46 5 s).getD 2 .empty), pv ((cutN 46 5 s).getD 3 .empty)⟩, .bool true] := by
  unfold tileRes pTile
  rw [List.take_of_length_le (by omega)] at h
  rw [if_pos ⟨h4, h⟩]

/-- the array while the loop runs -/
def arr (l : List ByteArray) (k j : Nat) : Int := if j < k then pv (l.getD j .empty) else 0
def ArrIn (w : World) (b : Nat) (l : List ByteArray) (k : Nat) : Prop := ∀ j, j < 4 → w.cell? ⟨b, j, none⟩ = some (.int .i64 (arr l k j))
theorem ArrIn.step {w : World} {b : Nat} {l : List ByteArray} {k : Nat} (h : ArrIn w b l k) (hk : k < 4) : ArrIn (w.setCell ⟨b, k, none⟩ (.int .i64 (pv (l.getD k .empty)))) b l (k + 1) := fun j hj => by
  by_cases e : j = k
  · subst e
    rw [World.cell?_setCell_same _ _ _ (h j hj)]
    simp [arr]
  · rw [World.cell?_setCell_other _ _ _ _ (fun x => e (by injection x with _ x; exact x.symm)), h j hj]
    have : (j < k + 1) = (j < k) := by apply propext; omega
    simp [arr, this]
theorem ArrIn.keep {w w' : World} {b : Nat} {l : List ByteArray} {k : Nat} (h : ArrIn w b l k) (hb : Below w.heap.size w w') (hlt : b < w.heap.size) : ArrIn w' b l k := fun j hj => (hb.cell (p := ⟨b, j, none⟩) hlt).trans (h j hj)

set_option maxHeartbeats 1000000 in
theorem parseTile_any (s : ByteArray) (hs : s.size ≤ 4294967280) (w : World) (h : Env w) :
    Calls Tryz.prog 57 #[.string s] w fun e w' => e = .returned (tileRes s) ∧ Below w.heap.size w w' := by
  obtain ⟨l, hl⟩ : ∃ l, l = cutN 46 5 s := ⟨_, rfl⟩
  obtain ⟨n, hn⟩ : ∃ n, n = l.length := ⟨_, rfl⟩
  have hn5 : n ≤ 5 := by rw [hn, hl]; exact cutN_length _ _ _ (by omega)
  have HL := Lib.hid hl
  have HN := Lib.hid hn
  have hcut := fun (W : World) (he : Env W) => split_any s 46 5 W hs (by omega) (by omega) he
  rw [← hl, ← hn] at hcut
  have HC := Lib.hid hcut
  have hps : Hid (∀ k, k < n → (l.getD k .empty).size ≤ s.size) := fun k hk => by
    rw [hl]; exact cutN_size _ _ _ _ (by rw [← hl, ← hn]; exact hk)
  clear hcut hl hn
  by_cases h4 : n = 4
  · subst h4
    go_enter Tryz.func57, Tryz.ntmps57
    go_wp2_with (go_at_call 56; refine (HC.out _ (h.keep ((Below.refl _ _).alloc (Nat.le_refl _) _))).mono ?_; rintro e w2 ⟨b, d, rfl, hb0, hbs, hcs, hb2⟩; obtain ⟨hc2, hf2⟩ := bcell hb2; have hs2 := hb2.size; simp at hs2 hb0)
    have r0 : w2.cell? ⟨w.heap.size, 0, none⟩ = some (.int .i64 0) := (hc2 _ _ (by simp)).trans (by simp [go_sem])
    have r1 : w2.cell? ⟨w.heap.size, 1, none⟩ = some (.int .i64 0) := (hc2 _ _ (by simp)).trans (by simp [go_sem])
    have r2 : w2.cell? ⟨w.heap.size, 2, none⟩ = some (.int .i64 0) := (hc2 _ _ (by simp)).trans (by simp [go_sem])
    have r3 : w2.cell? ⟨w.heap.size, 3, none⟩ = some (.int .i64 0) := (hc2 _ _ (by simp)).trans (by simp [go_sem])
    have hz : ∀ o, w2.frozen? ⟨w.heap.size, o, none⟩ = false := fun o => (hf2 _ _ (by simp)).trans (World.frozen?_alloc_at _ _ _ _ (by simp))
    have hb02 : Below w.heap.size w w2 := ((Below.refl _ _).alloc (Nat.le_refl _) _).trans (hb2.mono (by simp))
    have HB := Lib.hid hb02
    have HCS := Lib.hid hcs
    have HR : Hid (_ ∧ _ ∧ _ ∧ _ ∧ _) := ⟨r0, r1, r2, r3, hz⟩
    clear hc2 hf2 r0 r1 r2 r3 hz hb2 hb02 hcs
    go_loopw [18] (fun i wr => ∃ k : Nat, k ≤ 4 ∧ i = .int .i64 k ∧ Hid ((l.take k).all (fun x => (pCol x).isSome) = true) ∧ Hid (ArrIn wr w2.heap.size l k) ∧ Hid (∀ o, wr.frozen? ⟨w2.heap.size, o, none⟩ = false) ∧ w2.heap.size < wr.heap.size ∧ Below w2.heap.size w2 wr) (fun i _ => 4 - (RowKit.intOf i).toNat)
    case atStart => exact ⟨0, Nat.zero_le _, rfl, by simp [Hid], fun j hj => by rw [World.cell?_alloc_at _ _ _ _ rfl]; simp [arr]; match j, hj with | 0, _ => rfl | 1, _ => rfl | 2, _ => rfl | 3, _ => rfl, fun o => World.frozen?_alloc_at _ _ _ _ rfl, by simp, (Below.refl _ _).alloc (Nat.le_refl _) _⟩
    case round =>
      obtain ⟨k, hk, rfl, hall, harr, hfz, hsr, hbr⟩ := hrel
      have henv : Env wr := (h.keep HB.out).keep (hbr.mono (Nat.le_refl _))
      by_cases hlt : k < 4
      · have hcell := (hbr.cell (p := ⟨b, k, none⟩) hbs).trans (HCS.out k hlt)
        cases hp : (pCol (l.getD k .empty)).isSome
        · have HK : Hid (tileRes s = .tuple #[tv ⟨0, 0, 0, 0⟩, .bool false]) := by
            show _ = _
            refine tileRes_bad s k ?_ ?_
            · rw [← HL.out, ← HN.out]; exact hlt
            · rw [← HL.out]; exact hp
          have hcr := colRes_none hp
          have hq := (parseColour_any _ (Nat.le_trans (hps.out k hlt) (by omega)) wr henv)
          rw [hcr] at hq
          clear hcr hp
          go_wp2_with (go_at_call 74; refine hq.mono ?_; rintro e w3 ⟨rfl, hb3⟩; have hb23 := hbr.trans (hb3.mono (Nat.le_of_lt hsr)); obtain ⟨r0, r1, r2, r3, hz⟩ := HR.out; have q0 := (hb23.cell (p := ⟨w.heap.size, 0, none⟩) hs2).trans r0; have q1 := (hb23.cell (p := ⟨w.heap.size, 1, none⟩) hs2).trans r1; have q2 := (hb23.cell (p := ⟨w.heap.size, 2, none⟩) hs2).trans r2; have q3 := (hb23.cell (p := ⟨w.heap.size, 3, none⟩) hs2).trans r3; have qz : ∀ o, w3.frozen? ⟨w.heap.size, o, none⟩ = false := fun o => (hb23.frozen (p := ⟨w.heap.size, o, none⟩) hs2).trans (hz o); clear r0 r1 r2 r3 hz)
          refine bodyPost_ret (v := .tuple #[tv ⟨0, 0, 0, 0⟩, .bool false]) (by simp [results, Tryz.results57, tv, go_sem, q0, q1, q2, q3]) rfl ?_
          exact ⟨by rw [HK.out], ((((HB.out.trans (hb23.mono (by omega))).setCell (Nat.le_refl _) _).setCell (Nat.le_refl _) _).setCell (Nat.le_refl _) _).setCell (Nat.le_refl _) _⟩
        · have HS : Hid ((l.take (k + 1)).all (fun x => (pCol x).isSome) = true) := all_take _ _ k (by rw [← HN.out]; exact hlt) .empty hall.out hp
          have hcr := colRes_some hp
          have hq := (parseColour_any _ (Nat.le_trans (hps.out k hlt) (by omega)) wr henv)
          rw [hcr] at hq
          obtain ⟨v, hv⟩ : ∃ v, v = pv (l.getD k .empty) := ⟨_, rfl⟩
          rw [← hv] at hq
          have HV := Lib.hid hv
          clear hcr hp hv
          go_wp2_with (go_at_call 74; refine hq.mono ?_; rintro e w3 ⟨rfl, hb3⟩; have a0 := (hb3.cell (p := ⟨w2.heap.size, k, none⟩) hsr).trans (harr.out k hlt); have az := (hb3.frozen (p := ⟨w2.heap.size, k, none⟩) hsr).trans (hfz.out k))
          go_roundw
          case rel =>
            refine ⟨k + 1, by omega, by go_num, HS, ?_, ?_, ?_, ?_⟩
            · rw [HV.out]; exact (harr.out.keep hb3 hsr).step hlt
            · exact fun o => (World.frozen?_setCell _ _ _ _).trans ((hb3.frozen (p := ⟨w2.heap.size, o, none⟩) hsr).trans (hfz.out o))
            · exact Nat.lt_of_lt_of_le hsr (by simpa [World.setCell] using hb3.size)
            · exact (hbr.trans (hb3.mono (Nat.le_of_lt hsr))).setCell (Nat.le_refl _) _
          case measure => simp [RowKit.intOf]; omega
      · have e : k = 4 := by omega
        subst e
        have HK : Hid (tileRes s = .tuple #[tv ⟨pv (l.getD 0 .empty), pv (l.getD 1 .empty), pv (l.getD 2 .empty), pv (l.getD 3 .empty)⟩, .bool true]) := by
          show _ = _
          rw [HL.out]
          exact tileRes_ok s (by rw [← HL.out, ← HN.out]) (by rw [← HL.out]; exact hall.out)
        obtain ⟨v0, hv0⟩ : ∃ v, v = pv (l.getD 0 .empty) := ⟨_, rfl⟩
        obtain ⟨v1, hv1⟩ : ∃ v, v = pv (l.getD 1 .empty) := ⟨_, rfl⟩
        obtain ⟨v2, hv2⟩ : ∃ v, v = pv (l.getD 2 .empty) := ⟨_, rfl⟩
        obtain ⟨v3, hv3⟩ : ∃ v, v = pv (l.getD 3 .empty) := ⟨_, rfl⟩
        have a0 := harr.out 0 (by omega)
        have a1 := harr.out 1 (by omega)
        have a2 := harr.out 2 (by omega)
        have a3 := harr.out 3 (by omega)
        simp only [arr, show (0 : Nat) < 4 from by omega, show (1 : Nat) < 4 from by omega, show (2 : Nat) < 4 from by omega, show (3 : Nat) < 4 from by omega, if_true] at a0 a1 a2 a3
        rw [← hv0] at a0 HK
        rw [← hv1] at a1 HK
        rw [← hv2] at a2 HK
        rw [← hv3] at a3 HK
        obtain ⟨r0, r1, r2, r3, hz⟩ := HR.out
        have q0 := (hbr.cell (p := ⟨w.heap.size, 0, none⟩) hs2).trans r0
        have q1 := (hbr.cell (p := ⟨w.heap.size, 1, none⟩) hs2).trans r1
        have q2 := (hbr.cell (p := ⟨w.heap.size, 2, none⟩) hs2).trans r2
        have q3 := (hbr.cell (p := ⟨w.heap.size, 3, none⟩) hs2).trans r3
        have qz : ∀ o, wr.frozen? ⟨w.heap.size, o, none⟩ = false := fun o => (hbr.frozen (p := ⟨w.heap.size, o, none⟩) hs2).trans (hz o)
        clear r0 r1 r2 r3 hz harr hfz hall hv0 hv1 hv2 hv3
        go_wp2
        refine bodyPost_ret (v := .tuple #[tv ⟨v0, v1, v2, v3⟩, .bool true]) (by simp [results, Tryz.results57, tv, go_sem, q0, q1, q2, q3]) rfl ?_
        exact ⟨by rw [HK.out], ((((HB.out.trans (hbr.mono (by omega))).setCell (Nat.le_refl _) _).setCell (Nat.le_refl _) _).setCell (Nat.le_refl _) _).setCell (Nat.le_refl _) _⟩
  · have HK : Hid (tileRes s = .tuple #[tv ⟨0, 0, 0, 0⟩, .bool false]) := by
      show _ = _
      exact tileRes_long s (by rw [← HL.out, ← HN.out]; exact h4)
    go_enter Tryz.func57, Tryz.ntmps57
    go_wp2_with (go_at_call 56; refine (HC.out _ (h.keep ((Below.refl _ _).alloc (Nat.le_refl _) _))).mono ?_; rintro e w3 ⟨b, d, rfl, hb0, hbs, hcs, hb3⟩; obtain ⟨hc2, hf2⟩ := bcell hb3; have hs2 := hb3.size; simp at hs2 hb0; have q0 : w3.cell? ⟨w.heap.size, 0, none⟩ = some (.int .i64 0) := (hc2 _ _ (by simp)).trans (by simp [go_sem]); have q1 : w3.cell? ⟨w.heap.size, 1, none⟩ = some (.int .i64 0) := (hc2 _ _ (by simp)).trans (by simp [go_sem]); have q2 : w3.cell? ⟨w.heap.size, 2, none⟩ = some (.int .i64 0) := (hc2 _ _ (by simp)).trans (by simp [go_sem]); have q3 : w3.cell? ⟨w.heap.size, 3, none⟩ = some (.int .i64 0) := (hc2 _ _ (by simp)).trans (by simp [go_sem]); have qz : ∀ o, w3.frozen? ⟨w.heap.size, o, none⟩ = false := fun o => (hf2 _ _ (by simp)).trans (World.frozen?_alloc_at _ _ _ _ (by simp)); clear hc2 hf2 hcs)
    refine bodyPost_ret (v := .tuple #[tv ⟨0, 0, 0, 0⟩, .bool false]) (by simp [results, Tryz.results57, tv, go_sem, q0, q1, q2, q3]) rfl ?_
    have hb03 : Below w.heap.size w w3 := ((Below.refl _ _).alloc (Nat.le_refl _) _).trans (hb3.mono (by simp))
    exact ⟨by rw [HK.out], (((hb03.setCell (Nat.le_refl _) _).setCell (Nat.le_refl _) _).setCell (Nat.le_refl _) _).setCell (Nat.le_refl _) _⟩
end Go.Proofs.YtmmpdniafmhjpaaGreatDoor
