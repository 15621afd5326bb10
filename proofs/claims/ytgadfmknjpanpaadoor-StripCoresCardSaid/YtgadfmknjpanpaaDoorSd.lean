/-
  strip.Core and strip.Rows.
-/
import Derived.Test.YtgadfmknjpanpaaDoorSc
namespace Go.Proofs.YtgadfmknjpanpaaDoor
open Go.RowKit Go.Maps Go.BigFrame
set_option linter.unusedVariables false
set_option linter.unusedSimpArgs false
set_option maxRecDepth 100000

/-- the core -/
def coreE (s : List Tl) : List Nat := rounds (enclP s) s.length (List.range s.length)
theorem core_of (s : List Tl) {j : Nat} (h : keep1 (enclP s) (rounds (enclP s) j (List.range s.length)) = rounds (enclP s) j (List.range s.length)) (hj : j ≤ s.length) : rounds (enclP s) j (List.range s.length) = coreE s := by
  have := rounds_stay (enclP s) (List.range s.length) j h (s.length - j)
  rw [show j + (s.length - j) = s.length by omega] at this
  exact this.symm
/-- the number of tiles of the longest row, if there is one -/
def rowsL (s : List Tl) : Option Nat := (List.range (s.length + 1)).find? fun j => (rounds (leadP s) j (List.range s.length)).isEmpty
theorem range_find {n j : Nat} {p : Nat → Bool} (hj : j < n) (hp : p j = true) (hno : ∀ i, i < j → p i = false) : (List.range n).find? p = some j := by
  rw [List.find?_eq_some_iff_getElem]
  refine ⟨hp, j, by simpa using hj, by simp, fun i hi => ?_⟩
  simp [hno i hi]
theorem rows_some (s : List Tl) {j : Nat} (he : rounds (leadP s) j (List.range s.length) = []) (hno : ∀ i, i < j → rounds (leadP s) i (List.range s.length) ≠ []) (hj : j ≤ s.length) : rowsL s = some j := by
  refine range_find (by omega) (by simp [he]) fun i hi => ?_
  have := hno i hi
  cases h : rounds (leadP s) i (List.range s.length) with
  | nil => exact absurd h this
  | cons a l => rfl
theorem rounds_nil {α : Type} (P : List α → α → Bool) : ∀ n, rounds P n [] = []
  | 0 => rfl
  | n + 1 => by show rounds P n (keep1 P []) = []; exact rounds_nil P n
theorem rounds_add {α : Type} (P : List α → α → Bool) (l : List α) : ∀ n m, rounds P (n + m) l = rounds P m (rounds P n l)
  | 0, m => by rw [Nat.zero_add]; rfl
  | n + 1, m => by
    rw [show n + 1 + m = n + m + 1 by omega]
    show rounds P (n + m) (keep1 P l) = rounds P m (rounds P n (keep1 P l))
    exact rounds_add P (keep1 P l) n m
theorem rows_none (s : List Tl) {j : Nat} (h : keep1 (leadP s) (rounds (leadP s) j (List.range s.length)) = rounds (leadP s) j (List.range s.length)) (hne : rounds (leadP s) j (List.range s.length) ≠ []) : rowsL s = none := by
  unfold rowsL
  rw [List.find?_eq_none]
  intro i _ hi
  rw [List.isEmpty_iff] at hi
  have h1 := rounds_stay (leadP s) (List.range s.length) j h i
  rw [Nat.add_comm, rounds_add, hi, rounds_nil] at h1
  exact hne h1.symm
/-- what Core returns -/
def IsCoreS (s : List Tl) (W : World) (e : Ending) (w' : World) : Prop :=
  Below W.heap.size W w' ∧ if vld s = false then e = .returned (.tuple #[.slice none 0 0, .int .i64 1]) else ∃ A c, e = .returned (.tuple #[.slice A (coreE s).length c, .int .i64 0]) ∧ IntsIn w' w'.heap.size A (idxI (coreE s))
/-- what Rows returns -/
def IsRowsS (s : List Tl) (W : World) (e : Ending) (w' : World) : Prop :=
  Below W.heap.size W w' ∧ if vld s = false then e = .returned (.tuple #[.int .i64 0, .int .i64 1]) else match rowsL s with
    | none => e = .returned (.tuple #[.int .i64 0, .int .i64 6])
    | some n => e = .returned (.tuple #[.int .i64 (n : Int), .int .i64 0])
set_option maxHeartbeats 2000000 in
theorem core_any (s : List Tl) (S : Option Addr) (m d : Nat) (w : World) (hm : m = s.length) (hS : SetIn w w.heap.size S s) (hwf : ∀ t ∈ s, twf t) (hml : m ≤ 9223372036854775807) :
    Calls Tryd.prog 9 #[.slice S m d] w (IsCoreS s w) := by
  cases hv : vld s
  · have hva := valid_pat s false S m d w hm hv hS hwf hml
    have HVA := Lib.hid hva
    have HK : Hid (∀ e w', e = .returned (.tuple #[.slice none 0 0, .int .i64 1]) → Below w.heap.size w w' → IsCoreS s w e w') := fun e w' h1 h2 => ⟨h2, by rw [if_pos hv]; exact h1⟩
    clear hva hm hS hwf hv
    go_enter Tryd.func9, Tryd.ntmps9
    go_wp2_with (go_at_call 27; refine HVA.out.mono ?_; rintro e w2 ⟨rfl, hb2⟩)
    go_ret2
    exact HK.out _ _ rfl hb2
  · have hva := valid_pat s true S m d w hm hv hS hwf hml
    have hm1 : m ≤ 1000 := by rw [hm]; exact (vld_iff.1 hv).1
    have HVA := Lib.hid hva
    have HK : Hid (∀ e w' A c, e = .returned (.tuple #[.slice A (coreE s).length c, .int .i64 0]) → IntsIn w' w'.heap.size A (idxI (coreE s)) → Below w.heap.size w w' → IsCoreS s w e w') := fun e w' A c h1 h3 h2 => ⟨h2, by rw [if_neg (by rw [hv]; decide)]; exact ⟨A, c, h1, h3⟩⟩
    have hset := fun (W : World) (hb : Below w.heap.size w W) (A : Option Addr) (c : Nat) (hA : IntsIn W W.heap.size A (idxI (List.range m))) => settled_enclosed s S m d (List.range m) A m c W hm hv (hS.keep hb hb.size) (by simp) hm1 (fun i hi => by rw [← hm]; exact List.mem_range.1 hi) hA
    have HSET := Lib.hid hset
    have HM := Lib.hid hm
    clear hva hm hS hwf hv hset
    go_enter Tryd.func9, Tryd.ntmps9
    go_wp2_with (first
      | (go_at_call 27; refine HVA.out.mono ?_; rintro e w2 ⟨rfl, hb2⟩)
      | (go_at_call 29; refine (indices_any S m d w2 hm1).mono ?_; rintro e w3 ⟨A3, c3, rfl, hI3, hb3⟩; have hb03 := hb2.trans (hb3.mono hb2.size))
      | (go_at_call 28; refine (HSET.out w3 hb03 A3 c3 hI3).mono ?_; rintro e w4 ⟨j, A4, c4, rfl, hsame, hdec, hI4, hb4⟩; have hjl := rounds_len hdec; have HS4 := Lib.hid hsame; have HD4 := Lib.hid hdec; have HI4 := Lib.hid hI4; have HJL := Lib.hid hjl; clear hsame hdec hI4 hI3 hjl)
      | fail)
    go_ret2
    have hj : j ≤ s.length := by have h := HJL.out; rw [List.length_range] at h; have := HM.out; omega
    have hs := HS4.out
    have hi := HI4.out
    rw [HM.out] at hs hi
    rw [core_of s hs hj] at hi
    exact HK.out _ _ A4 c4 (by rw [← core_of s hs hj, ← HM.out]; rfl) hi (hb03.trans (hb4.mono hb03.size))
set_option maxHeartbeats 2000000 in
theorem rows_anyS (s : List Tl) (S : Option Addr) (m d : Nat) (w : World) (hm : m = s.length) (hS : SetIn w w.heap.size S s) (hwf : ∀ t ∈ s, twf t) (hml : m ≤ 9223372036854775807) :
    Calls Tryd.prog 10 #[.slice S m d] w (IsRowsS s w) := by
  cases hv : vld s
  · have hva := valid_pat s false S m d w hm hv hS hwf hml
    have HVA := Lib.hid hva
    have HK : Hid (∀ e w', e = .returned (.tuple #[.int .i64 0, .int .i64 1]) → Below w.heap.size w w' → IsRowsS s w e w') := fun e w' h1 h2 => ⟨h2, by rw [if_pos hv]; exact h1⟩
    clear hva hm hS hwf hv
    go_enter Tryd.func10, Tryd.ntmps10
    go_wp2_with (go_at_call 27; refine HVA.out.mono ?_; rintro e w2 ⟨rfl, hb2⟩)
    go_ret2
    exact HK.out _ _ rfl hb2
  · have hva := valid_pat s true S m d w hm hv hS hwf hml
    have hm1 : m ≤ 1000 := by rw [hm]; exact (vld_iff.1 hv).1
    have HVA := Lib.hid hva
    have HK : Hid (∀ e w', (match rowsL s with | none => e = .returned (.tuple #[.int .i64 0, .int .i64 6]) | some n => e = .returned (.tuple #[.int .i64 (n : Int), .int .i64 0])) → Below w.heap.size w w' → IsRowsS s w e w') := fun e w' h1 h2 => ⟨h2, by rw [if_neg (by rw [hv]; decide)]; exact h1⟩
    have hset := fun (W : World) (hb : Below w.heap.size w W) (A : Option Addr) (c : Nat) (hA : IntsIn W W.heap.size A (idxI (List.range m))) => settled_leading s S m d (List.range m) A m c W hm hv (hS.keep hb hb.size) (by simp) hm1 (fun i hi => by rw [← hm]; exact List.mem_range.1 hi) hA
    have HSET := Lib.hid hset
    have HM := Lib.hid hm
    clear hva hm hS hwf hv hset
    go_enter Tryd.func10, Tryd.ntmps10
    go_upto_region 4 with (first
      | (go_at_call 27; refine HVA.out.mono ?_; rintro e w2 ⟨rfl, hb2⟩)
      | (go_at_call 29; refine (indices_any S m d w2 hm1).mono ?_; rintro e w3 ⟨A3, c3, rfl, hI3, hb3⟩; have hb03 := hb2.trans (hb3.mono hb2.size))
      | (go_at_call 28; refine (HSET.out w3 hb03 A3 c3 hI3).mono ?_; rintro e w4 ⟨j, A4, c4, rfl, hsame, hdec, hI4, hb4⟩; have hjl := rounds_len hdec; obtain ⟨q, hq⟩ : ∃ q, q = (rounds (leadP s) j (List.range m)).length := ⟨_, rfl⟩; rw [← hq]; have HS4 := Lib.hid hsame; have HD4 := Lib.hid hdec; have HJL := Lib.hid hjl; have HQ := Lib.hid hq; clear hsame hdec hI4 hI3 hjl hq)
      | fail)
    have hb04 := hb03.trans (hb4.mono hb03.size)
    by_cases hq0 : 0 < q
    · have hnone : rowsL s = none := by
        have hs := HS4.out
        rw [HM.out] at hs
        refine rows_none s hs fun e => ?_
        have := HQ.out
        rw [HM.out, e] at this
        simp at this
        omega
      have HNO := Lib.hid hnone
      clear hnone
      go_wp2_with fail
      go_ret2
      exact HK.out _ _ (by rw [HNO.out]; rfl) hb04
    · have hsome : rowsL s = some j := by
        have hq1 : q = 0 := by omega
        have he : rounds (leadP s) j (List.range s.length) = [] := by
          have := HQ.out
          rw [HM.out, hq1] at this
          exact List.eq_nil_of_length_eq_zero this.symm
        refine rows_some s he (fun i hi e => ?_) (by have h := HJL.out; rw [List.length_range] at h; have := HM.out; omega)
        have h := HD4.out i hi
        rw [HM.out, e] at h
        simp at h
      have HNO := Lib.hid hsome
      clear hsome
      go_wp2_with fail
      go_ret2
      exact HK.out _ _ (by rw [HNO.out]; rfl) hb04
end Go.Proofs.YtgadfmknjpanpaaDoor
