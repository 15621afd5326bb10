/-
  tile.Valid: which sets are valid.
-/
import Derived.Test.YtnmigjohomdbnaaDoorC
namespace Go.Proofs.YtnmigjohomdbnaaDoor
open Go.RowKit Go.Maps
set_option linter.unusedVariables false

/-- the first k tiles are coloured, and no two of them are equal -/
def preOk (s : List Tl) (k : Nat) : Prop := (s.take k).all okt = true ∧ (s.take k).Nodup ∧ s.length ≤ 1000
theorem preOk_zero (s : List Tl) (h : s.length ≤ 1000) : preOk s 0 := ⟨by simp, by simp, h⟩
theorem take_snoc {α : Type} (l : List α) (k : Nat) (hk : k < l.length) (d : α) : l.take (k + 1) = l.take k ++ [l.getD k d] := by
  rw [List.take_succ_eq_append_getElem hk, List.getD_eq_getElem?_getD, List.getElem?_eq_getElem hk]; rfl
theorem preOk_succ (s : List Tl) (k : Nat) (hk : k < s.length) (t : Tl) (ht : t = s.getD k ⟨0, 0, 0, 0⟩) (h : preOk s k) (hc : okt t = true) (hn : t ∉ s.take k) : preOk s (k + 1) := by
  obtain ⟨h1, h2, h3⟩ := h
  refine ⟨?_, ?_, h3⟩
  · rw [take_snoc s k hk ⟨0, 0, 0, 0⟩, List.all_append, h1, ← ht]; simpa using hc
  · rw [take_snoc s k hk ⟨0, 0, 0, 0⟩, ← ht, List.nodup_append]
    refine ⟨h2, by simp, fun a ha b hb => ?_⟩
    rw [List.mem_singleton] at hb
    subst hb
    exact fun e => hn (e ▸ ha)
theorem getD_mem {α : Type} (l : List α) (k : Nat) (hk : k < l.length) (d : α) : l.getD k d ∈ l := by
  rw [List.getD_eq_getElem?_getD, List.getElem?_eq_getElem hk]; exact List.getElem_mem hk
theorem vld_twice (s : List Tl) (k : Nat) (hk : k < s.length) (t : Tl) (ht : t = s.getD k ⟨0, 0, 0, 0⟩) (h : t ∈ s.take k) : vld s = false := by
  rw [Bool.eq_false_iff]
  intro hv
  have hn := (vld_iff.1 hv).2.2
  have : (s.take (k + 1)).Nodup := hn.sublist (List.take_sublist _ _)
  rw [take_snoc s k hk ⟨0, 0, 0, 0⟩, ← ht, List.nodup_append] at this
  exact this.2.2 t h t (by simp) rfl
theorem vld_bad (s : List Tl) (k : Nat) (hk : k < s.length) (t : Tl) (ht : t = s.getD k ⟨0, 0, 0, 0⟩) (h : okt t = false) : vld s = false := by
  rw [Bool.eq_false_iff]
  intro hv
  have := (vld_iff.1 hv).2.1 t (ht ▸ getD_mem s k hk _)
  rw [h] at this
  cases this
theorem vld_long (s : List Tl) (h : 1000 < s.length) : vld s = false := by
  rw [Bool.eq_false_iff]
  intro hv
  have := (vld_iff.1 hv).1
  omega
theorem vld_all (s : List Tl) (k : Nat) (hk : s.length ≤ k) (h : preOk s k) : vld s = true := by
  obtain ⟨h1, h2, h3⟩ := h
  rw [List.take_of_length_le hk] at h1 h2
  exact vld_iff.2 ⟨h3, fun t ht => List.all_eq_true.1 h1 t ht, h2⟩
theorem seen_step (s : List Tl) (k : Nat) (hk : k < s.length) (t : Tl) (ht : t = s.getD k ⟨0, 0, 0, 0⟩) : (seen (s.take k)).put (kl t) (.lit (.bool true)) = seen (s.take (k + 1)) := by
  rw [take_snoc s k hk ⟨0, 0, 0, 0⟩, seen_snoc, ← ht]

set_option maxHeartbeats 1000000 in
theorem valid_any (s : List Tl) (A : Option Addr) (c : Nat) (w : World) (hs : SetIn w w.heap.size A s) (hwf : ∀ t ∈ s, twf t) (hl : s.length ≤ 9223372036854775807) :
    Calls Tryd.prog 36 #[.slice A s.length c] w fun e w' => e = .returned (.bool (vld s)) ∧ Below w.heap.size w w' := by
  obtain ⟨n, hn⟩ : ∃ n, n = s.length := ⟨_, rfl⟩
  have hl' : n ≤ 9223372036854775807 := by omega
  rw [← hn]
  by_cases hlong : n ≤ 1000
  · have HP : Hid (preOk s 0) := preOk_zero s (by omega)
    have HN := Lib.hid hn
    clear hn hl
    have hmm := fun (W : World) => run_makeMap_hint (P := Tryd.prog) 90 65 4 .i64 (n : Int) Tryd.underlying90 W
    go_enter Tryd.func36, Tryd.ntmps36
    go_wp2
    clear hmm
    go_loopw [5, 14] (fun _ i wr => ∃ k : Nat, k ≤ n ∧ i = .int .i64 k ∧ wr.ownsMap Tryd.prog 65 (plainElem Tryd.prog 4) w.heap.size k (seen (s.take k)) ∧ Hid (preOk s k) ∧ Below w.heap.size w wr) (fun _ i _ => n - (intOf i).toNat)
    case atStart => exact ⟨0, Nat.zero_le _, rfl, World.ownsMap_made _ _ _ _, HP, (Below.refl _ _).alloc (Nat.le_refl _) _⟩
    case round =>
      clear HP
      obtain ⟨k, hk, rfl, hown, hpre, hb⟩ := hrel
      by_cases hlt : k < n
      · have hkc : k < s.length := by rw [← HN.out]; exact hlt
        obtain ⟨bk, off, rfl, hbk, hc⟩ := hs (ne_nil_of_lt hkc)
        obtain ⟨t, ht⟩ : ∃ t, t = s.getD k ⟨0, 0, 0, 0⟩ := ⟨_, rfl⟩
        have htwf : twf t := hwf t (ht ▸ getD_mem s k hkc _)
        have hwk : ∀ u ∈ s.take k, twf u := fun u hu => hwf u (List.mem_of_mem_take hu)
        obtain ⟨c0, c1, c2, c3⟩ := hc k hkc
        rw [← ht] at c0 c1 c2 c3
        have d0 := (hb.cell (p := ⟨bk, off + k * 4, none⟩) hbk).trans c0
        have d1 := (hb.cell (p := ⟨bk, off + k * 4 + 1, none⟩) hbk).trans c1
        have d2 := (hb.cell (p := ⟨bk, off + k * 4 + 2, none⟩) hbk).trans c2
        have d3 := (hb.cell (p := ⟨bk, off + k * 4 + 3, none⟩) hbk).trans c3
        clear c0 c1 c2 c3 hc hs hwf
        have hbs : bk < wr.heap.size := Nat.lt_of_lt_of_le hbk hb.size
        have HKEY : Hid (keyOf Tryd.prog 65 (.agg #[.int .i64 t.n, .int .i64 t.e, .int .i64 t.s, .int .i64 t.w]) = some (kl t)) := keyOf_tile t htwf
        by_cases hin : t ∈ s.take k
        · have HV : Hid (vld s = false) := vld_twice s k hkc t ht hin
          have HAT : Hid ((seen (s.take k)).atKey (kl t) (.lit (.bool false)) = .lit (.bool true)) := by
            show _ = _
            rw [seen_at (s.take k) t hwk htwf, decide_eq_true hin]
          clear hin ht hwk hkc hpre
          go_wp2_with (at_lookup; refine wpList_lookup_own_bool _ rfl _ _ 90 rfl 65 4 tile_law Tryd.underlying90 Tryd.underlying4 (zero_bool _) w.heap.size k _ rfl (hown.alloc _) _ _ rfl HKEY.out true HAT.out ?_)
          go_ret
          exact ⟨ret_bool HV.out.symm, hb.alloc hb.size _⟩
        · have HAT : Hid ((seen (s.take k)).atKey (kl t) (.lit (.bool false)) = .lit (.bool false)) := by
            show _ = _
            rw [seen_at (s.take k) t hwk htwf, decide_eq_false hin]
          cases hok : okt t
          · have HV : Hid (vld s = false) := vld_bad s k hkc t ht hok
            clear hin ht hwk hkc hpre
            go_wp2_with (first | (at_lookup; refine wpList_lookup_own_bool _ rfl _ _ 90 rfl 65 4 tile_law Tryd.underlying90 Tryd.underlying4 (zero_bool _) w.heap.size k _ rfl (hown.alloc _) _ _ rfl HKEY.out false HAT.out ?_) | (go_at_call 49; refine (coloured_any t _).mono ?_; rintro e w2 ⟨rfl, hb2⟩))
            go_ret
            exact ⟨ret_bool HV.out.symm, (hb.alloc hb.size _).trans (hb2.mono (by simp; have := hb.size; omega))⟩
          · have HPK : Hid (preOk s (k + 1)) := preOk_succ s k hkc t ht hpre.out hok hin
            have HST : Hid ((seen (s.take k)).put (kl t) (.lit (.bool true)) = seen (s.take (k + 1))) := seen_step s k hkc t ht
            clear hin ht hwk hkc hpre
            go_wp2_with (first | (at_lookup; refine wpList_lookup_own_bool _ rfl _ _ 90 rfl 65 4 tile_law Tryd.underlying90 Tryd.underlying4 (zero_bool _) w.heap.size k _ rfl (hown.alloc _) _ _ rfl HKEY.out false HAT.out ?_) | (go_at_call 49; refine (coloured_any t _).mono ?_; rintro e w2 ⟨rfl, hb2⟩; obtain ⟨hc2, hf2⟩ := bcell hb2) | (at_mapUpdate; refine wpList_mapUpdate_own _ rfl _ _ _ 90 rfl 65 4 tile_law Tryd.underlying90 _ w.heap.size k _ rfl ((hown.alloc _).kept (grown_of_below hb2 none) (by simp)) (by unfold maxLen; omega) _ _ _ rfl rfl HKEY.out _ [] (plainElem_bool Tryd.underlying4 true) ?_; intro w3 hown3 hgrow3))
            have hbl : Below w.heap.size w w3 := ((hb.alloc hb.size _).trans (hb2.mono (by simp; have := hb.size; omega))).grown hgrow3 (by have := hb2.size; simp at this; have := hb.size; omega) (fun j hj => by cases hj; exact Nat.le_refl _)
            rw [HST.out] at hown3
            clear hc2 hf2
            go_roundw
            case rel => exact ⟨k + 1, by omega, by go_num, hown3, HPK, hbl⟩
            case measure => simp [intOf]; omega
      · have HV : Hid (vld s = true) := vld_all s k (by rw [← HN.out]; omega) hpre.out
        clear hpre
        go_wp2
        go_ret
        exact ⟨ret_bool HV.out.symm, hb⟩
  · have HV : Hid (vld s = false) := vld_long s (by omega)
    clear hn hl
    go_enter Tryd.func36, Tryd.ntmps36
    go_wp2
    go_ret
    exact ⟨ret_bool HV.out.symm, Below.refl _ _⟩
end Go.Proofs.YtnmigjohomdbnaaDoor
