/-
  tile.tileText, tile.Text.
-/
import Derived.Test.YtgadfmknjpanpaaDoorTw
import Derived.Deep.RegionHeld3
namespace Go.Proofs.YtgadfmknjpanpaaDoor
open Go.RowKit Go.Maps Go.Sort
set_option linter.unusedVariables false
set_option maxRecDepth 100000

theorem join_any (A : Option Addr) (n c : Nat) (xs : List ByteArray) (sep : UInt8) (m : Nat) (w : World) (hn : n = xs.length) (hnc : n ≤ c) (hm : ∀ x ∈ xs, x.data.toList.length ≤ m) (hb : xs.length + m * xs.length ≤ 140737488355328)
    (hcells : xs ≠ [] → ∃ b o, A = some ⟨b, o, none⟩ ∧ b < w.heap.size ∧ ∀ j, j < xs.length → w.cell? ⟨b, o + j, none⟩ = some (.string (xs.getD j .empty))) :
    Calls Tryd.prog 46 #[.slice A n c, .string ⟨#[sep]⟩] w fun e w' => e = .returned (.string (glue xs sep)) ∧ Below w.heap.size w w' := by
  subst hn
  by_cases he : xs = []
  · subst he
    refine (Tryd.strings_Join_none A c ⟨#[sep]⟩ w).mono ?_
    rintro e w' ⟨rfl, rfl⟩
    exact ⟨rfl, Below.refl _ _⟩
  · obtain ⟨b, o, rfl, hlt, hc⟩ := hcells he
    refine (Tryd.strings_Join b o c xs ⟨#[sep]⟩ w ?_ hlt (by omega) hnc (Nat.le_trans (glue_len xs sep m hm) hb)).mono ?_
    · intro j x hx
      have hj : j < xs.length := (List.getElem?_eq_some_iff.1 hx).1
      rw [hc j hj, List.getD_eq_getElem?_getD, hx]
      rfl
    · rintro e w' ⟨rfl, hb'⟩
      exact ⟨rfl, hb'⟩

set_option maxHeartbeats 2000000 in
theorem tileText_any (t : Tl) (ht : twf t) (w : World) (h : Env w) :
    Calls Tryd.prog 45 #[.agg #[.int .i64 t.n, .int .i64 t.e, .int .i64 t.s, .int .i64 t.w]] w fun e w' => e = .returned (.string (tText t)) ∧ Below w.heap.size w w' := by
  obtain ⟨⟨a0, a1⟩, ⟨b0, b1⟩, ⟨c0, c1⟩, ⟨d0, d1⟩⟩ : (_ ∧ _) ∧ (_ ∧ _) ∧ (_ ∧ _) ∧ (_ ∧ _) := ⟨wf_range ht.1, wf_range ht.2.1, wf_range ht.2.2.1, wf_range ht.2.2.2⟩
  go_enter Tryd.func45, Tryd.ntmps45
  go_wp2_with fail
  obtain ⟨W3, hW3⟩ : ∃ W3, W3 = w.alloc (.cells #[.int .i64 t.n, .int .i64 t.e, .int .i64 t.s, .int .i64 t.w] 53) := ⟨_, rfl⟩
  rw [← hW3]
  have hb3 : Below w.heap.size w W3 := by rw [hW3]; exact (Below.refl _ _).alloc (Nat.le_refl _) _
  have q0 : W3.cell? ⟨w.heap.size, 0, none⟩ = some (.int .i64 t.n) := by rw [hW3]; simp
  have q1 : W3.cell? ⟨w.heap.size, 1, none⟩ = some (.int .i64 t.e) := by rw [hW3]; simp
  have q2 : W3.cell? ⟨w.heap.size, 2, none⟩ = some (.int .i64 t.s) := by rw [hW3]; simp
  have q3 : W3.cell? ⟨w.heap.size, 3, none⟩ = some (.int .i64 t.w) := by rw [hW3]; simp
  have hz : w.heap.size < W3.heap.size := by rw [hW3]; simp
  clear hW3
  have henv : ∀ w', Below W3.heap.size W3 w' → Env w' := fun w' hb => (h.keep hb3).keep hb
  have hk : ∀ {a v}, W3.cell? a = some v → ∀ w', Below W3.heap.size W3 w' → w'.cell? a = some v := fun h w' hb => (hb.cell (World.block_lt_of_cell? W3 _ h)).trans h
  have r0 := hk q0
  have r1 := hk q1
  have r2 := hk q2
  have r3 := hk q3
  clear hk q0 q1 q2 q3
  have i0 := fun W hW => itoa_any t.n a0 a1 W (henv W hW)
  have i1 := fun W hW => itoa_any t.e b0 b1 W (henv W hW)
  have i2 := fun W hW => itoa_any t.s c0 c1 W (henv W hW)
  have i3 := fun W hW => itoa_any t.w d0 d1 W (henv W hW)
  go_region_held3 (fun w' => Below W3.heap.size W3 w') (first | exact (Below.refl _ _).drew | exact Below.alloc (by assumption) (Below.size (by assumption)) _ | exact Below.trans (by assumption) (hn.mono (Below.size (by assumption))))
    (first | (go_at_call 56; (with_reducible refine (i0 _ ?_).mono ?_); (assumption); rintro e wn ⟨rfl, hn⟩) | (go_at_call 56; (with_reducible refine (i1 _ ?_).mono ?_); (assumption); rintro e wn ⟨rfl, hn⟩) | (go_at_call 56; (with_reducible refine (i2 _ ?_).mono ?_); (assumption); rintro e wn ⟨rfl, hn⟩) | (go_at_call 56; (with_reducible refine (i3 _ ?_).mono ?_); (assumption); rintro e wn ⟨rfl, hn⟩))
  rename_i w1 hn1 w2 hn2 w4 hn4 hH
  have hJ := join_any (some ⟨wn.heap.size, 0, none⟩) 4 4 (tList t) 46 21 (wn.alloc (.cells #[.string (dec t.n), .string (dec t.e), .string (dec t.s), .string (dec t.w)] 9)) rfl (Nat.le_refl _) (tList_len ht) (by simp [tList])
    (fun _ => ⟨_, _, rfl, by simp, fun j hj => by
      rw [Nat.zero_add, World.cell?_alloc_at _ _ _ _ rfl]
      match j, hj with
      | 0, _ => rfl
      | 1, _ => rfl
      | 2, _ => rfl
      | 3, _ => rfl⟩)
  clear i0 i1 i2 i3 r0 r1 r2 r3 hn1 hn2 hn4 hn henv
  go_wp2_with (go_at_call 46; refine hJ.mono ?_; rintro e w5 ⟨rfl, hb5⟩)
  go_ret
  exact ⟨rfl, hb3.trans ((Below.trans hH (hb5.mono (Below.size hH))).mono (by omega))⟩

set_option maxHeartbeats 2000000 in
theorem text_any (s : List Tl) (A : Option Addr) (c : Nat) (w : World) (hs : SetIn w w.heap.size A s) (hwf : ∀ t ∈ s, twf t) (hl : s.length ≤ 9223372036854775807) (h : Env w) :
    Calls Tryd.prog 26 #[.slice A s.length c] w fun e w' => e = .returned (textRes s) ∧ Below w.heap.size w w' := by
  obtain ⟨n, hn⟩ : ∃ n, n = s.length := ⟨_, rfl⟩
  have hval := valid_any s A c w hs hwf hl
  have hl' : n ≤ 9223372036854775807 := by omega
  rw [← hn] at hval
  rw [← hn]
  have HN := Lib.hid hn
  cases hv : vld s
  · have HT := Lib.hid (text_bad hv)
    rw [hv] at hval
    clear hn hl hv
    go_enter Tryd.func26, Tryd.ntmps26
    go_wp2_with (go_at_call 27; refine hval.mono ?_; rintro e w3 ⟨rfl, hb3⟩)
    refine bodyPost_ret (v := .tuple #[.string ⟨#[]⟩, .int .i64 1]) (by simp [results, Tryd.results26, go_sem]) rfl ?_
    exact ⟨by rw [HT.out], hb3⟩
  · have HT := Lib.hid (text_ok hv)
    have hn1 : n ≤ 1000 := by rw [hn]; exact (vld_iff.1 hv).1
    rw [hv] at hval
    clear hn hl hv
    obtain ⟨i0, hi, hz0, hz1, hz2⟩ := info_parts str_info
    go_enter Tryd.func26, Tryd.ntmps26
    go_wp2_with first | (go_at_call 27; refine hval.mono ?_; rintro e w1 ⟨rfl, hb1⟩) | (at_make; refine wpList_make_full _ rfl _ _ 86 rfl w1.heap.size 9 i0 (.string ⟨#[]⟩) 1 Tryd.underlying86 hi hz0 hz1 .i64 .i64 _ _ n rfl rfl rfl rfl (by rw [hz2]; omega) (by simp only [maxLen]; omega) (by simp) ?_; intro w2 hown2 hgrow2)
    obtain ⟨hlt2, hcw2, hfz2⟩ := own_words hown2
    have hb2 : Below w1.heap.size w1 w2 := ⟨hgrow2.os, hgrow2.tape, hgrow2.output, hgrow2.size, fun k hk => hgrow2.block k hk (by simp)⟩
    have hw0 : Hid (WordsIn w2 w1.heap.size s 0) := fun j hj => by
      rw [hcw2 j (by rw [HN.out]; exact hj)]
      exact made_at (.string ⟨#[]⟩) (n * 1) j (by rw [HN.out, Nat.mul_one]; exact hj)
    clear hown2 hgrow2 hcw2
    go_loopw [15] (fun i wr => ∃ k : Nat, k ≤ n ∧ i = .int .i64 k ∧ Hid (WordsIn wr w1.heap.size s k) ∧ Hid (∀ o, wr.frozen? ⟨w1.heap.size, o, none⟩ = false) ∧ w1.heap.size < wr.heap.size ∧ Below w1.heap.size w1 wr) (fun i _ => n - (intOf i).toNat)
    case atStart => exact ⟨0, Nat.zero_le _, rfl, hw0, hfz2, hlt2, hb2⟩
    case round =>
      clear hw0 hfz2 hlt2 hb2
      obtain ⟨k, hk, rfl, hwd, hfz, hsr, hbr⟩ := hrel
      have hbw : Below w.heap.size w wr := hb1.trans (hbr.mono hb1.size)
      by_cases hlt : k < n
      · have hkc : k < s.length := by rw [← HN.out]; exact hlt
        obtain ⟨bk, off, rfl, hbk, d0, d1, d2, d3⟩ := set_at hs hbw hkc
        have htw := hwf _ (getD_mem s k hkc ⟨0, 0, 0, 0⟩)
        obtain ⟨t, ht⟩ : ∃ t, t = s.getD k ⟨0, 0, 0, 0⟩ := ⟨_, rfl⟩
        have hstep := fun (W : World) (hW : WordsIn W w1.heap.size s k) => hW.step hkc
        rw [← ht] at d0 d1 d2 d3 htw hstep
        have HST := Lib.hid hstep
        have hbs : bk < wr.heap.size := Nat.lt_of_lt_of_le hbk hbw.size
        have henv : Env wr := h.keep hbw
        clear hs hwf hkc ht hstep
        go_wp2_with (go_at_call 45; refine (tileText_any t htw _ (henv.keep ((Below.refl _ _).alloc (Nat.le_refl _) _))).mono ?_; rintro e w3 ⟨rfl, hb3⟩; have hs3 := hb3.size; simp at hs3; have hb4 : Below wr.heap.size wr w3 := ((Below.refl _ _).alloc (Nat.le_refl _) _).trans (hb3.mono (by simp)); have a0 := (hb4.cell (p := ⟨w1.heap.size, k, none⟩) hsr).trans (hwd.out k (by rw [← HN.out]; exact hlt)); have az := (hb4.frozen (p := ⟨w1.heap.size, k, none⟩) hsr).trans (hfz.out k))
        go_roundw
        case rel =>
          refine ⟨k + 1, by omega, by go_num, ?_, ?_, ?_, ?_⟩
          · exact HST.out _ (hwd.out.keep hb4 hsr)
          · exact fun o => (World.frozen?_setCell _ _ _ _).trans ((hb4.frozen (p := ⟨w1.heap.size, o, none⟩) hsr).trans (hfz.out o))
          · exact Nat.lt_of_lt_of_le hsr (by simpa [World.setCell] using hb4.size)
          · exact (hbr.trans (hb4.mono (Nat.le_of_lt hsr))).setCell (Nat.le_refl _) _
        case measure => simp [intOf]; omega
      · have e : k = n := by omega
        subst e
        have hJ := join_any (some ⟨w1.heap.size, 0, none⟩) k k (s.map tText) 32 100 wr (by rw [List.length_map]; exact HN.out) (Nat.le_refl _) (fun x hx => by
          obtain ⟨t, ht, rfl⟩ := List.mem_map.1 hx
          exact tText_len (hwf t ht)) (by rw [List.length_map, ← HN.out]; omega)
          (fun _ => ⟨_, _, rfl, hsr, fun j hj => by
            rw [List.length_map] at hj
            rw [Nat.zero_add, hwd.out j hj]
            unfold wordAt
            rw [if_pos (by rw [HN.out]; exact hj), List.getD_eq_getElem?_getD, List.getD_eq_getElem?_getD, List.getElem?_map, List.getElem?_eq_getElem hj]
            rfl⟩)
        clear hwd hfz hs hwf
        go_wp2_with (go_at_call 46; refine hJ.mono ?_; rintro e w5 ⟨rfl, hb5⟩)
        refine bodyPost_ret (v := .tuple #[.string (sText s), .int .i64 0]) (by simp [results, Tryd.results26, go_sem, sText]) rfl ?_
        exact ⟨by rw [HT.out], hbw.trans (hb5.mono hbw.size)⟩
end Go.Proofs.YtgadfmknjpanpaaDoor
