/-
  Rows of tiles that the call owns; tile.Parse.
-/
import Derived.Test.YtmmpdniafmhjpaaGreatDoorPt
namespace Go.Proofs.YtmmpdniafmhjpaaGreatDoor
open Go.RowKit Go.Maps Go.Sort
set_option linter.unusedVariables false
set_option maxRecDepth 100000

def tc (t : Tl) : List Value := [.int .i64 t.n, .int .i64 t.e, .int .i64 t.s, .int .i64 t.w]
def tcells (s : List Tl) : List Value := s.flatMap tc
theorem tcells_len (s : List Tl) : (tcells s).length = s.length * 4 := by
  unfold tcells
  induction s with
  | nil => rfl
  | cons t r ih => simp only [List.flatMap_cons, List.length_append, ih, List.length_cons, tc, List.length_nil]; omega
theorem tcells_at (s : List Tl) : ∀ i, i < s.length → ∀ j, j < 4 → (tcells s)[i * 4 + j]? = (tc (s.getD i ⟨0, 0, 0, 0⟩))[j]? := by
  induction s with
  | nil => intro i hi; simp at hi
  | cons t r ih =>
    intro i hi j hj
    have e : tcells (t :: r) = tc t ++ tcells r := by simp [tcells]
    rw [e]
    cases i with
    | zero =>
      rw [Nat.zero_mul, Nat.zero_add, List.getElem?_append_left (by simpa [tc] using hj)]
      rfl
    | succ i =>
      rw [List.getElem?_append_right (by simp [tc]; omega)]
      have e2 : (i + 1) * 4 + j - (tc t).length = i * 4 + j := by simp [tc]; omega
      rw [e2, ih i (by simpa using hi) j hj]
      rfl
theorem tcells_snoc (s : List Tl) (t : Tl) : tcells s ++ tc t = tcells (s ++ [t]) := by simp [tcells]

/-- A row of tiles from block lo on. -/
def SetNew (w : World) (lo : Nat) (A : Option Addr) (s : List Tl) : Prop :=
  s ≠ [] → ∃ b off, A = some ⟨b, off, none⟩ ∧ lo ≤ b ∧ b < w.heap.size ∧ ∀ i, i < s.length →
    w.cell? ⟨b, off + i * 4, none⟩ = some (.int .i64 (s.getD i ⟨0, 0, 0, 0⟩).n) ∧ w.cell? ⟨b, off + i * 4 + 1, none⟩ = some (.int .i64 (s.getD i ⟨0, 0, 0, 0⟩).e) ∧
    w.cell? ⟨b, off + i * 4 + 2, none⟩ = some (.int .i64 (s.getD i ⟨0, 0, 0, 0⟩).s) ∧ w.cell? ⟨b, off + i * 4 + 3, none⟩ = some (.int .i64 (s.getD i ⟨0, 0, 0, 0⟩).w)
theorem SetNew.old {w : World} {lo : Nat} {A : Option Addr} {s : List Tl} (h : SetNew w lo A s) : SetIn w w.heap.size A s := fun hn => by
  obtain ⟨b, off, hA, _, hlt, hc⟩ := h hn
  exact ⟨b, off, hA, hlt, hc⟩
theorem SetNew.mono {w : World} {lo lo' : Nat} {A : Option Addr} {s : List Tl} (h : SetNew w lo A s) (hl : lo' ≤ lo) : SetNew w lo' A s := fun hn => by
  obtain ⟨b, off, hA, hlo, hlt, hc⟩ := h hn
  exact ⟨b, off, hA, by omega, hlt, hc⟩
theorem SetNew.keep {w w' : World} {lo : Nat} {A : Option Addr} {s : List Tl} (h : SetNew w lo A s) (hb : Below w.heap.size w w') : SetNew w' lo A s := fun hn => by
  obtain ⟨b, off, hA, hlo, hlt, hc⟩ := h hn
  refine ⟨b, off, hA, hlo, Nat.lt_of_lt_of_le hlt hb.size, fun i hi => ?_⟩
  obtain ⟨h0, h1, h2, h3⟩ := hc i hi
  exact ⟨(hb.cell (p := ⟨b, _, none⟩) hlt).trans h0, (hb.cell (p := ⟨b, _, none⟩) hlt).trans h1, (hb.cell (p := ⟨b, _, none⟩) hlt).trans h2, (hb.cell (p := ⟨b, _, none⟩) hlt).trans h3⟩
theorem own_set {w : World} {base n : Nat} {e : TypeId} {v : Value} {s : List Tl} (h : w.ownsRow base e 4 v n (tcells s)) : ∃ A c, v = .slice A n c ∧ n = s.length ∧ n ≤ maxLen ∧ SetNew w base A s := by
  have hl : s.length = n := by have := h.1; rw [tcells_len] at this; omega
  rcases h.2 with ⟨rfl, h0⟩ | ⟨g, cap, cur, rfl, hb, hh, hnc, hm, hs, hx⟩
  · subst h0
    have : s = [] := List.eq_nil_of_length_eq_zero hl
    subst this
    exact ⟨none, 0, rfl, rfl, by simp [maxLen], fun hne => absurd rfl hne⟩
  · refine ⟨_, cap, rfl, hl.symm, Nat.le_trans hnc hm, fun _ => ⟨g, 0, rfl, hb, (Array.getElem?_eq_some_iff.1 hh).1, fun i hi => ?_⟩⟩
    have at' : ∀ j, j < 4 → w.cell? ⟨g, 0 + i * 4 + j, none⟩ = (tc (s.getD i ⟨0, 0, 0, 0⟩))[j]? := fun j hj => by
      have := h.cellAt (i * 4 + j) (by omega)
      rw [Nat.zero_add, this, tcells_at s i hi j hj]
    exact ⟨at' 0 (by omega), at' 1 (by omega), at' 2 (by omega), at' 3 (by omega)⟩
theorem own_keep' {w w' : World} {base e size n : Nat} {v : Value} {xs : List Value} (h : w.ownsRow base e size v n xs) (hb : Below w.heap.size w w') : w'.ownsRow base e size v n xs := by
  refine h.kept (grown_of_below hb none) ?_
  by_cases hv : v.ownBlock = none
  · exact .inl hv
  · exact .inr hv
theorem tile_info : (Tryz.prog.info? 62).map (fun i => (i.zero, i.size, i.bytes)) = some (some (.agg #[.int .i64 0, .int .i64 0, .int .i64 0, .int .i64 0]), 4, 32) := by kernel_rfl

/-- What Parse makes of a text. -/
def pt (x : ByteArray) : Tl := (pTile x).getD ⟨0, 0, 0, 0⟩
def pParse (s : ByteArray) : Option (List Tl) :=
  if s.size = 0 then some []
  else if (cutN 32 1001 s).all (fun x => (pTile x).isSome) = true ∧ vld ((cutN 32 1001 s).map pt) = true then some ((cutN 32 1001 s).map pt) else none
def IsParse (s : ByteArray) (W : World) (e : Ending) (w' : World) : Prop :=
  Below W.heap.size W w' ∧ match pParse s with
  | some set => ∃ A c, e = .returned (.tuple #[.slice A set.length c, .int .i64 0]) ∧ SetNew w' W.heap.size A set
  | none => e = .returned (.tuple #[.slice none 0 0, .int .i64 3])

theorem parse_nil (s : ByteArray) (h : s.size = 0) : pParse s = some [] := by unfold pParse; rw [if_pos h]
theorem parse_bad (s : ByteArray) (h : s.size ≠ 0) (k : Nat) (hk : k < (cutN 32 1001 s).length) (hb : (pTile ((cutN 32 1001 s).getD k .empty)).isSome = false) : pParse s = none := by
  unfold pParse
  rw [if_neg h, if_neg (fun e => by have := all_bad (fun x => (pTile x).isSome) _ k hk .empty hb; rw [e.1] at this; cases this)]
theorem parse_end (s : ByteArray) (h : s.size ≠ 0) (ha : (cutN 32 1001 s).all (fun x => (pTile x).isSome) = true) :
    pParse s = if vld ((cutN 32 1001 s).map pt) = true then some ((cutN 32 1001 s).map pt) else none := by
  unfold pParse
  rw [if_neg h]
  simp [ha]
theorem tileRes_some {s : ByteArray} (h : (pTile s).isSome = true) : tileRes s = .tuple #[tv (pt s), .bool true] := by
  obtain ⟨v, hv⟩ := Option.isSome_iff_exists.1 h
  unfold tileRes pt
  rw [hv]; rfl
theorem tileRes_none {s : ByteArray} (h : (pTile s).isSome = false) : tileRes s = .tuple #[tv ⟨0, 0, 0, 0⟩, .bool false] := by
  unfold tileRes
  cases hv : pTile s with
  | none => rfl
  | some v => rw [hv] at h; cases h
theorem map_snoc (l : List ByteArray) (k : Nat) (hk : k < l.length) : (l.map pt).take k ++ [pt (l.getD k .empty)] = (l.map pt).take (k + 1) := by
  rw [← List.map_take, ← List.map_take, take_snoc l k hk .empty, List.map_append]; rfl
theorem cell_four_new (w : World) (n : Nat) (hn : n = w.heap.size) (a b c d : Value) (t : TypeId) : ∀ j u, [a, b, c, d][j]? = some u → (w.alloc (.cells #[a, b, c, d] t)).cell? ((⟨n, 0, none⟩ : Addr).add j) = some u := by
  subst hn
  intro j u hj
  have e : ((⟨w.heap.size, 0, none⟩ : Addr).add j) = ⟨w.heap.size, j, none⟩ := by
    unfold Addr.add
    split
    · rename_i h; subst h; rfl
    · simp
  rw [e, World.cell?_alloc_at _ _ _ _ rfl]
  simpa using hj
theorem four_one (a b c d : Int) : ∀ u ∈ [Value.int .i64 a, .int .i64 b, .int .i64 c, .int .i64 d], u.oneCell' = true := by
  intro u hu
  simp at hu
  rcases hu with rfl | rfl | rfl | rfl <;> rfl
theorem pv_range (s : ByteArray) : (Lit.int .i64 (pv s)).wf = true := by
  have h : -9223372036854775808 ≤ pv s ∧ pv s ≤ 9223372036854775807 := by
    unfold pv pCol
    split
    · rename_i v hv
      split
      · exact parse_range _ _ hv
      · simp
    · simp
  obtain ⟨h1, h2⟩ := h
  unfold Lit.wf
  rw [Bool.and_eq_true]
  exact ⟨decide_eq_true h1, decide_eq_true h2⟩
theorem size_empty {s : ByteArray} {b : Bool} (h : decide (s.size = 0) = b) : s.toList.isEmpty = b := by
  have e : s.size = s.data.toList.length := (Array.length_toList (xs := s.data)).symm
  rw [← h, ByteArray.toList_eq, e]
  cases s.data.toList <;> simp
theorem pt_twf (s : ByteArray) : twf (pt s) := by
  unfold pt pTile
  simp only
  split
  · exact ⟨pv_range _, pv_range _, pv_range _, pv_range _⟩
  · exact ⟨by decide, by decide, by decide, by decide⟩
set_option maxHeartbeats 2000000 in
theorem parse_any (s : ByteArray) (hs : s.size ≤ 4294967280) (w : World) (h : Env w) :
    Calls Tryz.prog 31 #[.string s] w (IsParse s w) := by
  by_cases h0 : s.size = 0
  · have HP := Lib.hid (parse_nil s h0)
    have hq := size_empty (decide_eq_true h0)
    go_enter Tryz.func31, Tryz.ntmps31
    go_wp2
    refine bodyPost_ret (v := .tuple #[.slice none 0 0, .int .i64 0]) (by simp [results, Tryz.results31, go_sem]) rfl ?_
    refine ⟨Below.refl _ _, ?_⟩
    rw [HP.out]
    exact ⟨none, 0, rfl, fun hn => absurd rfl hn⟩
  · have hq := size_empty (decide_eq_false h0)
    obtain ⟨i0, hi, hz0, hz1, hz2⟩ := info_parts tile_info
    obtain ⟨l, hl⟩ : ∃ l, l = cutN 32 1001 s := ⟨_, rfl⟩
    obtain ⟨n, hn⟩ : ∃ n, n = l.length := ⟨_, rfl⟩
    have hn5 : n ≤ 1001 := by rw [hn, hl]; exact cutN_length _ _ _ (by omega)
    have HL := Lib.hid hl
    have HN := Lib.hid hn
    have H0 := Lib.hid h0
    have hcut := fun (W : World) (he : Env W) => split_any s 32 1001 W hs (by omega) (by omega) he
    rw [← hl, ← hn] at hcut
    have HC := Lib.hid hcut
    have hps : Hid (∀ k, k < n → (l.getD k .empty).size ≤ s.size) := fun k hk => by
      rw [hl]; exact cutN_size _ _ _ _ (by rw [← hl, ← hn]; exact hk)
    clear hcut hl hn h0
    have hby : i0.bytes * n ≤ 281474976710656 := by rw [hz2]; omega
    go_enter Tryz.func31, Tryz.ntmps31
    go_wp2_with first | (go_at_call 56; refine (HC.out _ h).mono ?_; rintro e w1 ⟨b, d, rfl, hb0, hbs, hcs, hb1⟩) | (at_make; refine wpList_make_own _ rfl _ _ 37 rfl w1.heap.size 62 i0 (.agg #[.int .i64 0, .int .i64 0, .int .i64 0, .int .i64 0]) 4 Tryz.underlying37 hi hz0 hz1 .i64 .i64 _ n rfl rfl rfl hby (by simp only [maxLen]; omega) (by simp) ?_; intro w2 hown2 hgrow2)
    have hb2 : Below w1.heap.size w1 w2 := ⟨hgrow2.os, hgrow2.tape, hgrow2.output, hgrow2.size, fun k hk => hgrow2.block k hk (by simp)⟩
    have HCS := Lib.hid hcs
    clear hcs hgrow2
    go_loopw [5, 19] (fun v i wr => ∃ k : Nat, k ≤ n ∧ i = .int .i64 k ∧ wr.ownsRow w1.heap.size 62 4 v k (tcells ((l.map pt).take k)) ∧ Hid ((l.take k).all (fun x => (pTile x).isSome) = true) ∧ Below w1.heap.size w1 wr) (fun _ i _ => n - (intOf i).toNat)
    case atStart => exact ⟨0, Nat.zero_le _, rfl, by simpa [tcells] using hown2, by simp [Hid], hb2⟩
    case round =>
      clear hown2 hb2
      obtain ⟨k, hk, rfl, hown, hall, hbr⟩ := hrel
      obtain ⟨wo, rfl⟩ : ∃ wo : World, wo = wr := ⟨_, rfl⟩
      have hbw : Below w.heap.size w wo := hb1.trans (hbr.mono hb1.size)
      by_cases hlt : k < n
      · have hcell := (hbr.cell (p := ⟨b, k, none⟩) hbs).trans (HCS.out k hlt)
        have hq := (parseTile_any _ (Nat.le_trans (hps.out k hlt) hs) wo (h.keep hbw))
        cases hp : (pTile (l.getD k .empty)).isSome
        · have HP : Hid (pParse s = none) := parse_bad s H0.out k (by rw [← HL.out, ← HN.out]; exact hlt) (by rw [← HL.out]; exact hp)
          rw [tileRes_none hp] at hq
          simp only [tv] at hq
          clear hp hown
          go_wp2_with (go_at_call 57; refine hq.mono ?_; rintro e w3 ⟨rfl, hb3⟩)
          refine bodyPost_ret (v := .tuple #[.slice none 0 0, .int .i64 3]) (by simp [results, Tryz.results31, go_sem]) rfl ?_
          refine ⟨(hbw.trans (hb3.mono hbw.size)).alloc (Nat.le_trans hbw.size hb3.size) _, ?_⟩
          rw [HP.out]
        · obtain ⟨t, ht⟩ : ∃ t, t = pt (l.getD k .empty) := ⟨_, rfl⟩
          rw [tileRes_some hp, ← ht] at hq
          simp only [tv] at hq
          have HA : Hid ((l.take (k + 1)).all (fun x => (pTile x).isSome) = true) := all_take _ _ k (by rw [← HN.out]; exact hlt) .empty hall.out hp
          have HST : Hid (tcells ((l.map pt).take k) ++ [.int .i64 t.n, .int .i64 t.e, .int .i64 t.s, .int .i64 t.w] = tcells ((l.map pt).take (k + 1))) := by
            show _ = _
            rw [← map_snoc l k (by rw [← HN.out]; exact hlt), ← tcells_snoc, ← ht]
            rfl
          clear hp ht hall
          go_wp2_with first | (go_at_call 57; refine hq.mono ?_; rintro e w3 ⟨rfl, hb3⟩; have hs3 := hb3.size) | (at_builtin; refine wpList_append_own _ rfl _ _ 37 rfl w1.heap.size 62 i0 (.agg #[.int .i64 0, .int .i64 0, .int .i64 0, .int .i64 0]) 4 32 Tryz.underlying37 hi hz0 hz1 hz2 rfl (by decide) _ _ _ rfl (((own_keep' hown hb3).alloc _).alloc _) ⟨_, 0, none⟩ 1 1 [.int .i64 t.n, .int .i64 t.e, .int .i64 t.s, .int .i64 t.w] rfl rfl (cell_four_new _ _ (by simp) _ _ _ _ _) (four_one _ _ _ _) (by simp only [maxLen]; omega) (by omega) (by have := hbr.size; simp; omega) ?_; intro v' w4 hown4 hgrow4 hnil4)
          have hb4 : Below w1.heap.size w1 w4 := (((hbr.trans (hb3.mono hbr.size)).alloc (Nat.le_trans hbr.size hs3) _).alloc (by have := hbr.size; simp; omega) _).grown hgrow4 (by have := hbr.size; simp; omega) (fun k hk => (hown.lt k hk).1)
          rw [HST.out] at hown4
          clear hnil4 hgrow4
          go_roundw
          case rel => exact ⟨k + 1, by omega, by go_num, hown4, HA, hb4⟩
          case measure => simp [intOf]; omega
      · have e : k = n := by omega
        subst e
        have HA : Hid (l.all (fun x => (pTile x).isSome) = true) := by
          have := hall.out
          rw [List.take_of_length_le (by rw [← HN.out]; omega)] at this
          exact this
        have hpe : pParse s = if vld (l.map pt) = true then some (l.map pt) else none := by rw [HL.out]; exact parse_end s H0.out (by rw [← HL.out]; exact HA.out)
        rw [List.take_of_length_le (by rw [List.length_map, ← HN.out]; omega)] at hown
        obtain ⟨A, c, rfl, hkl, hkm, hnew⟩ := own_set hown
        have hwf : ∀ t ∈ l.map pt, twf t := fun t ht => by
          obtain ⟨x, _, rfl⟩ := List.mem_map.1 ht
          exact pt_twf x
        have hval := valid_any (l.map pt) A c wo hnew.old hwf (by rw [← hkl]; omega)
        rw [← hkl] at hval
        have HKL := Lib.hid hkl
        clear hown hall hkl hkm
        cases hv : vld (l.map pt)
        · rw [hv] at hval
          have HP : Hid (pParse s = none) := by show _ = _; rw [hpe, hv]; simp
          clear hpe hv
          go_wp2_with (go_at_call 42; refine hval.mono ?_; rintro e w3 ⟨rfl, hb3⟩)
          refine bodyPost_ret (v := .tuple #[.slice none 0 0, .int .i64 3]) (by simp [results, Tryz.results31, go_sem]) rfl ?_
          refine ⟨hbw.trans (hb3.mono hbw.size), ?_⟩
          rw [HP.out]
        · rw [hv] at hval
          have HP : Hid (pParse s = some (l.map pt)) := by show _ = _; rw [hpe, hv]; simp
          clear hpe hv
          go_wp2_with (go_at_call 42; refine hval.mono ?_; rintro e w3 ⟨rfl, hb3⟩)
          refine bodyPost_ret (v := .tuple #[.slice A k c, .int .i64 0]) (by simp [results, Tryz.results31, go_sem]) rfl ?_
          refine ⟨hbw.trans (hb3.mono hbw.size), ?_⟩
          rw [HP.out]
          exact ⟨A, c, by rw [← HKL.out], (hnew.keep hb3).mono hb1.size⟩
end Go.Proofs.YtmmpdniafmhjpaaGreatDoor
