/-
  torus.band.ringsAt: the rings with these indices.
-/
import Derived.Test.YthjponagoahdhaaDoorTcl
namespace Go.Proofs.YthjponagoahdhaaDoor
open Go.RowKit Go.Maps Go.BigFrame Go.Sort
set_option linter.unusedVariables false
set_option linter.unusedSimpArgs false
set_option maxRecDepth 100000

theorem there_sub {w : World} {b n o k : Nat} (h : w.there b 0 n) (hk : o + k ≤ n) : w.there b o k := fun j hj => by
  have := h (o + j) (by omega)
  rwa [Nat.zero_add] at this
theorem own_there {w : World} {base n b c size : Nat} {e : TypeId} {xs : List Value} (h : w.ownsRow base e size (.slice (some ⟨b, 0, none⟩) n c) n xs) : w.there b 0 (n * size) := by
  rcases h.2 with ⟨h0, _⟩ | ⟨g, cap, cur, hv, hb, hh, hnc, hm, hs, hx⟩
  · simp at h0
  · have hg : b = g := by simp at hv; exact hv.1
    subst hg
    have hc : c = cap := by simpa using hv
    subst hc
    have ht := there_block hh
    rw [hs] at ht
    exact there_sub ht (by have := Nat.mul_le_mul_right size hnc; omega)
theorem there_keep {w w' : World} {b o n : Nat} (h : w.there b o n) (hb : w'.heap[b]? = w.heap[b]?) : w'.there b o n := fun j hj => by
  obtain ⟨h1, h2⟩ := h j hj
  exact ⟨by rw [World.cell?_of_block (a := ⟨b, o + j, none⟩) hb]; exact h1, (World.frozen?_of_block (a := ⟨b, o + j, none⟩) hb).trans h2⟩
/-- what ringsAt returns: the rings of the list rs -/
def IsRingsAt (s : List Tl) (x n : Nat) (rs : List (List Nat)) (W : World) (e : Ending) (w' : World) : Prop :=
  ∃ g, e = .returned (.slice (some ⟨g, 0, none⟩) n n) ∧ Below W.heap.size W w' ∧ W.heap.size ≤ g ∧ g < w'.heap.size ∧ ∀ y r, rs[y]? = some r → w'.rangeAt g (y * 8) (ringV s x r)
set_option maxHeartbeats 4000000 in
theorem ringsAt_any (s : List Tl) (x rb rn rc O nl oc n c : Nat) (A : Option Addr) (u : List Nat) (w : World) (hx : x ≤ 6) (hrn : rn = (ringsE s x).length) (hrn9 : rn ≤ 100000000)
    (hR : ∀ W, Below w.heap.size w W → ∀ i r, (ringsE s x)[i]? = some r → W.rangeAt rb (i * 8) (ringV s x r)) (hu : n = u.length) (hn : n ≤ 6) (hI : IntsIn w w.heap.size A (idxI u)) (hul : ∀ i ∈ u, i < rn) :
    Calls Tryd.prog 47 #[.agg #[.slice (some ⟨rb, 0, none⟩) rn rc, .slice (some ⟨O, 0, none⟩) nl oc], .slice A n c] w (IsRingsAt s x n (u.map fun i => (ringsE s x).getD i []) w) := by
  obtain ⟨i0, hi, hz0, hz1, hz2⟩ := info_parts ring_info
  have hby : i0.bytes * n ≤ 281474976710656 := by rw [hz2]; omega
  have HR := Lib.hid hR
  have HU := Lib.hid hu
  have HI := Lib.hid hI
  have HUL := Lib.hid hul
  have HRN := Lib.hid hrn
  clear hR hu hI hul hrn
  go_enter Tryd.func47, Tryd.ntmps47
  go_wp2_with (first
    | (at_make; refine wpList_make_full _ rfl _ _ 52 rfl (w.heap.size + 1) 82 i0 (.agg #[.int .i64 0, .int .i64 0, .int .i64 0, .int .i64 0, .int .i64 0, .int .i64 0, .int .i64 0, .int .i64 0]) 8 Tryd.underlying52 hi hz0 hz1 .i64 .i64 _ _ n rfl rfl rfl rfl hby (by simp only [maxLen]; omega) (by simp) ?_; intro w3 hown3 hgrow3)
    | fail)
  have hb3 : Below w.heap.size w w3 := ((Below.refl _ _).alloc (Nat.le_refl _) _).grown hgrow3 (by simp) (fun j hj => by cases hj)
  have hth3 : w3.there (w.heap.size + 1) 0 (n * 8) := by simpa using own_there hown3
  have hlt3 : w.heap.size + 1 < w3.heap.size := by
    have := (hown3.lt _ rfl).2
    simpa using this
  have hbox3 : w3.heap[w.heap.size]? = some (.cells #[.slice (some ⟨rb, 0, none⟩) rn rc, .slice (some ⟨O, 0, none⟩) nl oc] 55 (0, 0)) := (hgrow3.block _ (by simp) (by simp)).trans (heap_at w _ _ rfl)
  clear hown3 hgrow3
  go_loopw [13] (fun i wr => ∃ y : Nat, y ≤ n ∧ i = .int .i64 y ∧ Hid (wr.there (w.heap.size + 1) 0 (n * 8)) ∧ Hid (wr.heap[w.heap.size]? = some (.cells #[.slice (some ⟨rb, 0, none⟩) rn rc, .slice (some ⟨O, 0, none⟩) nl oc] 55 (0, 0))) ∧ Below w.heap.size w wr ∧ w.heap.size + 1 < wr.heap.size ∧
    Hid (∀ y' r, y' < y → (u.map fun i => (ringsE s x).getD i [])[y']? = some r → wr.rangeAt (w.heap.size + 1) (y' * 8) (ringV s x r))) (fun i _ => n - (intOf i).toNat)
  case atStart => exact ⟨0, Nat.zero_le _, rfl, hth3, hbox3, hb3, hlt3, fun y' r h _ => by omega⟩
  case round =>
    clear hth3 hbox3 hb3 hlt3
    obtain ⟨y, hy, rfl, hth, hbox, hbw, hlt, hdone⟩ := hrel
    obtain ⟨wo, rfl⟩ : ∃ wo : World, wo = wr := ⟨_, rfl⟩
    by_cases hyn : y < n
    · have hyu : y < u.length := by rw [← HU.out]; exact hyn
      obtain ⟨ab, ao, rfl, hab, hcl⟩ := HI.out (fun e => by have := congrArg List.length e; simp [idxI] at this; subst this; simp at hyu)
      obtain ⟨r, hr⟩ : ∃ r, r = u[y] := ⟨_, rfl⟩
      have hcell := (hbw.cell (p := ⟨ab, ao + y, none⟩) hab).trans (hcl y (by simpa [idxI] using hyu))
      have hgd : (idxI u).getD y 0 = (r : Int) := by rw [hr]; simp [idxI, hyu]
      rw [hgd] at hcell
      have hrr : r < rn := HUL.out r (by rw [hr]; exact List.getElem_mem _)
      have hr0 : (0 : Int) ≤ (r : Int) := by omega
      have hr1 : (r : Int) < (rn : Int) := by omega
      have hy0 : (0 : Int) ≤ (y : Int) := by omega
      have hy1 : (y : Int) < (n : Int) := by omega
      obtain ⟨ρ, hρ⟩ : ∃ ρ, (ringsE s x)[r]? = some ρ := ⟨_, List.getElem?_eq_getElem (by rw [← HRN.out]; exact hrr)⟩
      have hrange := HR.out wo hbw r ρ hρ
      have hρ6 : ρ.length ≤ 6 := by rw [(rings_row (List.mem_of_getElem? hρ)).1]; exact hx
      have hmap : (u.map fun i => (ringsE s x).getD i [])[y]? = some ρ := by
        rw [List.getElem?_map, List.getElem?_eq_getElem hyu, ← hr]
        simp [List.getD_eq_getElem?_getD, hρ]
      obtain ⟨q0, q1⟩ := cells2 hbox.out
      have hthy : wo.there (w.heap.size + 1) (y * 8) (ringA s x ρ).size := by
        rw [ringA_size s x ρ hρ6]
        exact there_sub hth.out (by have : (y + 1) * 8 ≤ n * 8 := Nat.mul_le_mul_right 8 hyn; omega)
      have HMAP := Lib.hid hmap
      have HTHY := Lib.hid hthy
      clear hr hcl hgd hρ hmap hyu hthy
      go_wp2_with (first
        | (refine wpList_load_mid rfl _ _ rfl rb (r * 8) rfl (ringV s x ρ) _ hrange Tryd.underlying82 rfl (by rw [ring_size]; simp [ringV_len s x ρ hρ6]) ?_)
        | (refine wpList_store_mid rfl _ _ _ rfl (w.heap.size + 1) (y * 8) (ringA s x ρ) rfl rfl HTHY.out (by rw [ring_size, ringA_size s x ρ hρ6]) (ringA_one s x ρ) ?_))
      obtain ⟨W5, hW5⟩ : ∃ W5, W5 = wo.setCells (w.heap.size + 1) (y * 8) (ringA s x ρ).toList := ⟨_, rfl⟩
      rw [← hW5]
      have hset := setCells_grown (w.heap.size + 1) (ringA s x ρ).toList (y * 8) wo
      rw [← hW5] at hset
      have hth5 : Hid (W5.there (w.heap.size + 1) 0 (n * 8)) := by rw [hW5]; exact World.there_setCells hth.out _ _ _
      have hbox5 : Hid (W5.heap[w.heap.size]? = some (.cells #[.slice (some ⟨rb, 0, none⟩) rn rc, .slice (some ⟨O, 0, none⟩) nl oc] 55 (0, 0))) := (hset.1.block _ (by omega) (by simp)).trans hbox.out
      have hb5 : Below w.heap.size w W5 := hbw.grown hset.1 (by omega) (fun j e => by cases e; omega)
      have hlt5 : w.heap.size + 1 < W5.heap.size := by rw [hset.2]; exact hlt
      have hdone5 : Hid (∀ y' r, y' < y + 1 → (u.map fun i => (ringsE s x).getD i [])[y']? = some r → W5.rangeAt (w.heap.size + 1) (y' * 8) (ringV s x r)) := fun y' r' h1 h2 => by
        rw [hW5]
        by_cases e : y' = y
        · subst e
          rw [HMAP.out] at h2
          cases h2
          exact World.rangeAt_setCells_same _ _ _ _ (by have := HTHY.out; rwa [← Array.length_toList] at this)
        · have h3 := hdone.out y' r' (by omega) h2
          refine World.rangeAt_setCells_apart h3 _ _ _ (Or.inr (Or.inl ?_))
          have h4 : r'.length ≤ 6 := by
            rw [List.getElem?_map] at h2
            cases hq : u[y']? with
            | none => rw [hq] at h2; cases h2
            | some i =>
              rw [hq] at h2
              cases h2
              have hi' : i < (ringsE s x).length := by rw [← HRN.out]; exact HUL.out i (List.mem_of_getElem? hq)
              rw [(rings_row (getD_mem' hi')).1]
              exact hx
          rw [ringV_len s x r' h4]
          omega
      clear hset hW5 hth hbox hdone q0 q1 hrange
      go_roundw
      case rel => exact ⟨y + 1, by omega, by go_num, hth5, hbox5, hb5, hlt5, hdone5⟩
      case measure => simp [intOf]; omega
    · have e : y = n := by omega
      subst e
      have HD := Lib.hid hdone.out
      clear hdone hth hbox
      go_wp2_with fail
      go_ret
      refine ⟨w.heap.size + 1, rfl, hbw, by omega, hlt, fun y' r hr => HD.out y' r ?_ hr⟩
      have := (List.getElem?_eq_some_iff.1 hr).1
      rw [List.length_map] at this
      rw [HU.out]
      exact this
end Go.Proofs.YthjponagoahdhaaDoor
