/-
  tile.tileText, tile.Text.
-/
import Derived.Test.YtmmpdniafmhjpaaGreatDoorPp
import Derived.Lib.ItoaLen
import Derived.Deep.RegionHeld3
namespace Go.Proofs.YtmmpdniafmhjpaaGreatDoor
open Go.RowKit Go.Maps Go.Sort
set_option linter.unusedVariables false
set_option maxRecDepth 100000

def tList (t : Tl) : List ByteArray := [dec t.n, dec t.e, dec t.s, dec t.w]
def glue (xs : List ByteArray) (c : UInt8) : ByteArray := ⟨(Lib.join (xs.map (·.data.toList)) [c]).toArray⟩
/-- the text of a tile -/
def tText (t : Tl) : ByteArray := glue (tList t) 46
theorem wf_range {n : Int} (h : (Lit.int .i64 n).wf = true) : -9223372036854775808 ≤ n ∧ n ≤ 9223372036854775807 := by
  unfold Lit.wf at h
  rw [Bool.and_eq_true] at h
  exact ⟨of_decide_eq_true h.1, of_decide_eq_true h.2⟩
theorem dec_len {n : Int} (h : (Lit.int .i64 n).wf = true) : (dec n).data.toList.length ≤ 21 := by
  obtain ⟨h0, h1⟩ := wf_range h
  simpa [dec] using Lib.itoa_length_le n h0 h1
theorem lens_le (xs : List (List UInt8)) (m : Nat) (h : ∀ x ∈ xs, x.length ≤ m) : Lib.lens xs ≤ m * xs.length := by
  unfold Lib.lens
  induction xs with
  | nil => simp
  | cons x r ih =>
    have h1 := h x (by simp)
    have h2 := ih (fun y hy => h y (by simp [hy]))
    simp only [List.map_cons, List.sum_cons, List.length_cons, Nat.mul_add, Nat.mul_one]
    omega
theorem glue_len (xs : List ByteArray) (c : UInt8) (m : Nat) (h : ∀ x ∈ xs, x.data.toList.length ≤ m) : (Lib.join (xs.map (·.data.toList)) [c]).length ≤ xs.length + m * xs.length := by
  cases xs with
  | nil => simp [Lib.join_nil]
  | cons x r =>
    rw [List.map_cons, Lib.join_length]
    have := lens_le ((x :: r).map (·.data.toList)) m (by
      intro y hy
      obtain ⟨z, hz, rfl⟩ := List.mem_map.1 hy
      exact h z hz)
    rw [List.map_cons] at this
    simp only [List.length_cons, List.length_map, List.length_nil] at this ⊢
    omega
theorem tList_len {t : Tl} (h : twf t) : ∀ x ∈ tList t, x.data.toList.length ≤ 21 := by
  intro x hx
  simp only [tList, List.mem_cons, List.not_mem_nil, or_false] at hx
  obtain ⟨h1, h2, h3, h4⟩ := h
  rcases hx with rfl | rfl | rfl | rfl
  · exact dec_len h1
  · exact dec_len h2
  · exact dec_len h3
  · exact dec_len h4
theorem tText_len {t : Tl} (h : twf t) : (tText t).data.toList.length ≤ 100 := by
  have := glue_len (tList t) 46 21 (tList_len h)
  have e : (tText t).data.toList = Lib.join ((tList t).map (·.data.toList)) [46] := by simp [tText, glue]
  rw [e]
  have h4 : (tList t).length = 4 := rfl
  rw [h4] at this
  omega

theorem join_any (A : Option Addr) (n c : Nat) (xs : List ByteArray) (sep : UInt8) (m : Nat) (w : World) (hn : n = xs.length) (hnc : n ≤ c) (hm : ∀ x ∈ xs, x.data.toList.length ≤ m) (hb : xs.length + m * xs.length ≤ 140737488355328)
    (hcells : xs ≠ [] → ∃ b o, A = some ⟨b, o, none⟩ ∧ b < w.heap.size ∧ ∀ j, j < xs.length → w.cell? ⟨b, o + j, none⟩ = some (.string (xs.getD j .empty))) :
    Calls Tryz.prog 59 #[.slice A n c, .string ⟨#[sep]⟩] w fun e w' => e = .returned (.string (glue xs sep)) ∧ Below w.heap.size w w' := by
  subst hn
  by_cases he : xs = []
  · subst he
    refine (Tryz.strings_Join_none A c ⟨#[sep]⟩ w).mono ?_
    rintro e w' ⟨rfl, rfl⟩
    exact ⟨rfl, Below.refl _ _⟩
  · obtain ⟨b, o, rfl, hlt, hc⟩ := hcells he
    refine (Tryz.strings_Join b o c xs ⟨#[sep]⟩ w ?_ hlt (by omega) hnc (Nat.le_trans (glue_len xs sep m hm) hb)).mono ?_
    · intro j x hx
      have hj : j < xs.length := (List.getElem?_eq_some_iff.1 hx).1
      rw [hc j hj, List.getD_eq_getElem?_getD, hx]
      rfl
    · rintro e w' ⟨rfl, hb'⟩
      exact ⟨rfl, hb'⟩

set_option maxHeartbeats 2000000 in
theorem tileText_any (t : Tl) (ht : twf t) (w : World) (h : Env w) :
    Calls Tryz.prog 58 #[.agg #[.int .i64 t.n, .int .i64 t.e, .int .i64 t.s, .int .i64 t.w]] w fun e w' => e = .returned (.string (tText t)) ∧ Below w.heap.size w w' := by
  obtain ⟨⟨a0, a1⟩, ⟨b0, b1⟩, ⟨c0, c1⟩, ⟨d0, d1⟩⟩ : (_ ∧ _) ∧ (_ ∧ _) ∧ (_ ∧ _) ∧ (_ ∧ _) := ⟨wf_range ht.1, wf_range ht.2.1, wf_range ht.2.2.1, wf_range ht.2.2.2⟩
  go_enter Tryz.func58, Tryz.ntmps58
  go_wp2_with fail
  obtain ⟨W3, hW3⟩ : ∃ W3, W3 = w.alloc (.cells #[.int .i64 t.n, .int .i64 t.e, .int .i64 t.s, .int .i64 t.w] 62) := ⟨_, rfl⟩
  rw [← hW3]
  have hb3 : Below w.heap.size w W3 := by rw [hW3]; exact (Below.refl _ _).alloc (Nat.le_refl _) _
  have q0 : W3.cell? ⟨w.heap.size, 0, none⟩ = some (.int .i64 t.n) := by rw [hW3]; simp
  have q1 : W3.cell? ⟨w.heap.size, 1, none⟩ = some (.int .i64 t.e) := by rw [hW3]; simp
  have q2 : W3.cell? ⟨w.heap.size, 2, none⟩ = some (.int .i64 t.s) := by rw [hW3]; simp
  have q3 : W3.cell? ⟨w.heap.size, 3, none⟩ = some (.int .i64 t.w) := by rw [hW3]; simp
  have hz : w.heap.size < W3.heap.size := by rw [hW3]; simp
  clear hW3
  have henv : ∀ w', Below W3.heap.size W3 w' → Env w' := fun w' hb => (h.keep hb3).keep hb
  have hk : ∀ {a v}, W3.cell? a = some v → ∀ w', Below W3.heap.size W3 w' → w'.cell? a = some v := fun h w' hb => (hb.cell (World.block_lt_of_cell? W3 _ h)).trans h
  have r0 := hk q0
  have r1 := hk q1
  have r2 := hk q2
  have r3 := hk q3
  clear hk q0 q1 q2 q3
  have i0 := fun W hW => itoa_any t.n a0 a1 W (henv W hW)
  have i1 := fun W hW => itoa_any t.e b0 b1 W (henv W hW)
  have i2 := fun W hW => itoa_any t.s c0 c1 W (henv W hW)
  have i3 := fun W hW => itoa_any t.w d0 d1 W (henv W hW)
  go_region_held3 (fun w' => Below W3.heap.size W3 w') (first | exact (Below.refl _ _).drew | exact Below.alloc (by assumption) (Below.size (by assumption)) _ | exact Below.trans (by assumption) (hn.mono (Below.size (by assumption))))
    (first | (go_at_call 75; (with_reducible refine (i0 _ ?_).mono ?_); (assumption); rintro e wn ⟨rfl, hn⟩) | (go_at_call 75; (with_reducible refine (i1 _ ?_).mono ?_); (assumption); rintro e wn ⟨rfl, hn⟩) | (go_at_call 75; (with_reducible refine (i2 _ ?_).mono ?_); (assumption); rintro e wn ⟨rfl, hn⟩) | (go_at_call 75; (with_reducible refine (i3 _ ?_).mono ?_); (assumption); rintro e wn ⟨rfl, hn⟩))
  rename_i w1 hn1 w2 hn2 w4 hn4 hH
  have hJ := join_any (some ⟨wn.heap.size, 0, none⟩) 4 4 (tList t) 46 21 (wn.alloc (.cells #[.string (dec t.n), .string (dec t.e), .string (dec t.s), .string (dec t.w)] 9)) rfl (Nat.le_refl _) (tList_len ht) (by simp [tList])
    (fun _ => ⟨_, _, rfl, by simp, fun j hj => by
      rw [Nat.zero_add, World.cell?_alloc_at _ _ _ _ rfl]
      match j, hj with
      | 0, _ => rfl
      | 1, _ => rfl
      | 2, _ => rfl
      | 3, _ => rfl⟩)
  clear i0 i1 i2 i3 r0 r1 r2 r3 hn1 hn2 hn4 hn henv
  go_wp2_with (go_at_call 59; refine hJ.mono ?_; rintro e w5 ⟨rfl, hb5⟩)
  go_ret
  exact ⟨rfl, hb3.trans ((Below.trans hH (hb5.mono (Below.size hH))).mono (by omega))⟩

/-- the text of a set -/
def sText (s : List Tl) : ByteArray := glue (s.map tText) 32
def textRes (s : List Tl) : Value := if vld s = true then .tuple #[.string (sText s), .int .i64 0] else .tuple #[.string ⟨#[]⟩, .int .i64 1]
theorem str_info : (Tryz.prog.info? 9).map (fun i => (i.zero, i.size, i.bytes)) = some (some (.string ⟨#[]⟩), 1, 16) := by kernel_rfl
/-- the words while the loop runs -/
def wordAt (s : List Tl) (k j : Nat) : ByteArray := if j < k then tText (s.getD j ⟨0, 0, 0, 0⟩) else ⟨#[]⟩
def WordsIn (w : World) (b : Nat) (s : List Tl) (k : Nat) : Prop := ∀ j, j < s.length → w.cell? ⟨b, j, none⟩ = some (.string (wordAt s k j))
theorem WordsIn.step {w : World} {b : Nat} {s : List Tl} {k : Nat} (h : WordsIn w b s k) (hk : k < s.length) : WordsIn (w.setCell ⟨b, k, none⟩ (.string (tText (s.getD k ⟨0, 0, 0, 0⟩)))) b s (k + 1) := fun j hj => by
  by_cases e : j = k
  · subst e
    rw [World.cell?_setCell_same _ _ _ (h j hj)]
    simp [wordAt]
  · rw [World.cell?_setCell_other _ _ _ _ (fun x => e (by injection x with _ x; exact x.symm)), h j hj]
    have : (j < k + 1) = (j < k) := by apply propext; omega
    simp [wordAt, this]
theorem WordsIn.keep {w w' : World} {b : Nat} {s : List Tl} {k : Nat} (h : WordsIn w b s k) (hb : Below w.heap.size w w') (hlt : b < w.heap.size) : WordsIn w' b s k := fun j hj => (hb.cell (p := ⟨b, j, none⟩) hlt).trans (h j hj)
theorem text_bad {s : List Tl} (h : vld s = false) : textRes s = .tuple #[.string ⟨#[]⟩, .int .i64 1] := by unfold textRes; rw [h]; rfl
theorem text_ok {s : List Tl} (h : vld s = true) : textRes s = .tuple #[.string (sText s), .int .i64 0] := by unfold textRes; rw [h]; rfl

theorem own_words {w : World} {base n b c : Nat} {e : TypeId} {xs : List Value} (h : w.ownsRow base e 1 (.slice (some ⟨b, 0, none⟩) n c) n xs) : b < w.heap.size ∧ (∀ i, i < n → w.cell? ⟨b, i, none⟩ = xs[i]?) ∧ ∀ o, w.frozen? ⟨b, o, none⟩ = false := by
  rcases h.2 with ⟨h0, _⟩ | ⟨g, cap, cur, hv, hb, hh, hnc, hm, hs, hx⟩
  · simp at h0
  · have hg : b = g := by simp at hv; exact hv.1
    subst hg
    refine ⟨(Array.getElem?_eq_some_iff.1 hh).1, fun i hi => h.cellAt i (by omega), fun o => ?_⟩
    simp [World.frozen?, hh]
theorem made_at (z : Value) (n i : Nat) (hi : i < n) : (madeCells #[z] n).toList[i]? = some z := by simp [madeCells, hi, Nat.mod_one]
theorem set_at {w : World} {B : Nat} {A : Option Addr} {s : List Tl} (h : SetIn w B A s) {w' : World} (hb : Below B w w') {k : Nat} (hk : k < s.length) : ∃ bk off, A = some ⟨bk, off, none⟩ ∧ bk < B ∧
    w'.cell? ⟨bk, off + k * 4, none⟩ = some (.int .i64 (s.getD k ⟨0, 0, 0, 0⟩).n) ∧ w'.cell? ⟨bk, off + k * 4 + 1, none⟩ = some (.int .i64 (s.getD k ⟨0, 0, 0, 0⟩).e) ∧
    w'.cell? ⟨bk, off + k * 4 + 2, none⟩ = some (.int .i64 (s.getD k ⟨0, 0, 0, 0⟩).s) ∧ w'.cell? ⟨bk, off + k * 4 + 3, none⟩ = some (.int .i64 (s.getD k ⟨0, 0, 0, 0⟩).w) := by
  obtain ⟨bk, off, hA, hlt, hc⟩ := h (ne_nil_of_lt hk)
  obtain ⟨h0, h1, h2, h3⟩ := hc k hk
  exact ⟨bk, off, hA, hlt, (hb.cell (p := ⟨bk, _, none⟩) hlt).trans h0, (hb.cell (p := ⟨bk, _, none⟩) hlt).trans h1, (hb.cell (p := ⟨bk, _, none⟩) hlt).trans h2, (hb.cell (p := ⟨bk, _, none⟩) hlt).trans h3⟩

set_option maxHeartbeats 2000000 in
theorem text_any (s : List Tl) (A : Option Addr) (c : Nat) (w : World) (hs : SetIn w w.heap.size A s) (hwf : ∀ t ∈ s, twf t) (hl : s.length ≤ 9223372036854775807) (h : Env w) :
    Calls Tryz.prog 32 #[.slice A s.length c] w fun e w' => e = .returned (textRes s) ∧ Below w.heap.size w w' := by
  obtain ⟨n, hn⟩ : ∃ n, n = s.length := ⟨_, rfl⟩
  have hval := valid_any s A c w hs hwf hl
  have hl' : n ≤ 9223372036854775807 := by omega
  rw [← hn] at hval
  rw [← hn]
  have HN := Lib.hid hn
  cases hv : vld s
  · have HT := Lib.hid (text_bad hv)
    rw [hv] at hval
    clear hn hl hv
    go_enter Tryz.func32, Tryz.ntmps32
    go_wp2_with (go_at_call 42; refine hval.mono ?_; rintro e w3 ⟨rfl, hb3⟩)
    refine bodyPost_ret (v := .tuple #[.string ⟨#[]⟩, .int .i64 1]) (by simp [results, Tryz.results32, go_sem]) rfl ?_
    exact ⟨by rw [HT.out], hb3⟩
  · have HT := Lib.hid (text_ok hv)
    have hn1 : n ≤ 1000 := by rw [hn]; exact (vld_iff.1 hv).1
    rw [hv] at hval
    clear hn hl hv
    obtain ⟨i0, hi, hz0, hz1, hz2⟩ := info_parts str_info
    go_enter Tryz.func32, Tryz.ntmps32
    go_wp2_with first | (go_at_call 42; refine hval.mono ?_; rintro e w1 ⟨rfl, hb1⟩) | (at_make; refine wpList_make_full _ rfl _ _ 78 rfl w1.heap.size 9 i0 (.string ⟨#[]⟩) 1 Tryz.underlying78 hi hz0 hz1 .i64 .i64 _ _ n rfl rfl rfl rfl (by rw [hz2]; omega) (by simp only [maxLen]; omega) (by simp) ?_; intro w2 hown2 hgrow2)
    obtain ⟨hlt2, hcw2, hfz2⟩ := own_words hown2
    have hb2 : Below w1.heap.size w1 w2 := ⟨hgrow2.os, hgrow2.tape, hgrow2.output, hgrow2.size, fun k hk => hgrow2.block k hk (by simp)⟩
    have hw0 : Hid (WordsIn w2 w1.heap.size s 0) := fun j hj => by
      rw [hcw2 j (by rw [HN.out]; exact hj)]
      exact made_at (.string ⟨#[]⟩) (n * 1) j (by rw [HN.out, Nat.mul_one]; exact hj)
    clear hown2 hgrow2 hcw2
    go_loopw [15] (fun i wr => ∃ k : Nat, k ≤ n ∧ i = .int .i64 k ∧ Hid (WordsIn wr w1.heap.size s k) ∧ Hid (∀ o, wr.frozen? ⟨w1.heap.size, o, none⟩ = false) ∧ w1.heap.size < wr.heap.size ∧ Below w1.heap.size w1 wr) (fun i _ => n - (intOf i).toNat)
    case atStart => exact ⟨0, Nat.zero_le _, rfl, hw0, hfz2, hlt2, hb2⟩
    case round =>
      clear hw0 hfz2 hlt2 hb2
      obtain ⟨k, hk, rfl, hwd, hfz, hsr, hbr⟩ := hrel
      have hbw : Below w.heap.size w wr := hb1.trans (hbr.mono hb1.size)
      by_cases hlt : k < n
      · have hkc : k < s.length := by rw [← HN.out]; exact hlt
        obtain ⟨bk, off, rfl, hbk, d0, d1, d2, d3⟩ := set_at hs hbw hkc
        have htw := hwf _ (getD_mem s k hkc ⟨0, 0, 0, 0⟩)
        obtain ⟨t, ht⟩ : ∃ t, t = s.getD k ⟨0, 0, 0, 0⟩ := ⟨_, rfl⟩
        have hstep := fun (W : World) (hW : WordsIn W w1.heap.size s k) => hW.step hkc
        rw [← ht] at d0 d1 d2 d3 htw hstep
        have HST := Lib.hid hstep
        have hbs : bk < wr.heap.size := Nat.lt_of_lt_of_le hbk hbw.size
        have henv : Env wr := h.keep hbw
        clear hs hwf hkc ht hstep
        go_wp2_with (go_at_call 58; refine (tileText_any t htw _ (henv.keep ((Below.refl _ _).alloc (Nat.le_refl _) _))).mono ?_; rintro e w3 ⟨rfl, hb3⟩; have hs3 := hb3.size; simp at hs3; have hb4 : Below wr.heap.size wr w3 := ((Below.refl _ _).alloc (Nat.le_refl _) _).trans (hb3.mono (by simp)); have a0 := (hb4.cell (p := ⟨w1.heap.size, k, none⟩) hsr).trans (hwd.out k (by rw [← HN.out]; exact hlt)); have az := (hb4.frozen (p := ⟨w1.heap.size, k, none⟩) hsr).trans (hfz.out k))
        go_roundw
        case rel =>
          refine ⟨k + 1, by omega, by go_num, ?_, ?_, ?_, ?_⟩
          · exact HST.out _ (hwd.out.keep hb4 hsr)
          · exact fun o => (World.frozen?_setCell _ _ _ _).trans ((hb4.frozen (p := ⟨w1.heap.size, o, none⟩) hsr).trans (hfz.out o))
          · exact Nat.lt_of_lt_of_le hsr (by simpa [World.setCell] using hb4.size)
          · exact (hbr.trans (hb4.mono (Nat.le_of_lt hsr))).setCell (Nat.le_refl _) _
        case measure => simp [intOf]; omega
      · have e : k = n := by omega
        subst e
        have hJ := join_any (some ⟨w1.heap.size, 0, none⟩) k k (s.map tText) 32 100 wr (by rw [List.length_map]; exact HN.out) (Nat.le_refl _) (fun x hx => by
          obtain ⟨t, ht, rfl⟩ := List.mem_map.1 hx
          exact tText_len (hwf t ht)) (by rw [List.length_map, ← HN.out]; omega)
          (fun _ => ⟨_, _, rfl, hsr, fun j hj => by
            rw [List.length_map] at hj
            rw [Nat.zero_add, hwd.out j hj]
            unfold wordAt
            rw [if_pos (by rw [HN.out]; exact hj), List.getD_eq_getElem?_getD, List.getD_eq_getElem?_getD, List.getElem?_map, List.getElem?_eq_getElem hj]
            rfl⟩)
        clear hwd hfz hs hwf
        go_wp2_with (go_at_call 59; refine hJ.mono ?_; rintro e w5 ⟨rfl, hb5⟩)
        refine bodyPost_ret (v := .tuple #[.string (sText s), .int .i64 0]) (by simp [results, Tryz.results32, go_sem, sText]) rfl ?_
        exact ⟨by rw [HT.out], hbw.trans (hb5.mono hbw.size)⟩
end Go.Proofs.YtmmpdniafmhjpaaGreatDoor
