/-
  groutworklaw04.some: whether a row of some tiles leads from some colour to some other one.
-/
import Derived.Test.YtgadfmknjpanpaaGreatDoorSrw
import Derived.Test.YtgadfmknjpanpaaGreatDoorSz
namespace Go.Proofs.YtgadfmknjpanpaaGreatDoor
open Go.RowKit Go.Maps
set_option linter.unusedVariables false
set_option linter.unusedSimpArgs false
set_option maxRecDepth 100000

/-- whether a path leads between two tiles -/
def onePath (s : List Tl) (n i k : Nat) : Bool := (pathE s (ti s i).w (ti s k).e n).isSome
theorem someE_true {s : List Tl} {n i k : Nat} (hi : i < s.length) (hk : k < s.length) (h : onePath s n i k = true) : someE s n = true := by
  unfold someE
  exact List.any_eq_true.2 ⟨i, List.mem_range.2 hi, List.any_eq_true.2 ⟨k, List.mem_range.2 hk, h⟩⟩
theorem someE_false {s : List Tl} {n : Nat} (h : ∀ i k, i < s.length → k < s.length → onePath s n i k = false) : someE s n = false := by
  unfold someE
  rw [List.any_eq_false]
  intro i hi
  rw [Bool.not_eq_true, List.any_eq_false]
  intro k hk
  rw [Bool.not_eq_true]
  exact h i k (List.mem_range.1 hi) (List.mem_range.1 hk)
theorem onePath_any (s : List Tl) (S : Option Addr) (m d n i k : Nat) (w W : World) (hm : m = s.length) (hv : vld s = true) (hS : SetIn w w.heap.size S s) (hwf : ∀ t ∈ s, twf t) (hn1 : 1 ≤ n) (hn : n ≤ 40000) (hb : Below w.heap.size w W) :
    Calls Tryz.prog 16 #[.slice S m d, .int .i64 (ti s i).w, .int .i64 (ti s k).e, .int .i64 (n : Int)] W fun e w' => ∃ A l c, e = .returned (.tuple #[.slice A l c, .int .i64 (if onePath s n i k then 0 else 6)]) ∧ Below W.heap.size W w' := by
  refine (path_any s S m d _ _ _ W hm (hS.keep hb hb.size) hwf (by have := (vld_iff.1 hv).1; omega)).mono ?_
  rintro e w' ⟨h1, h2⟩
  rw [if_neg (by rw [hv]; decide), if_neg (by omega), Int.toNat_natCast] at h2
  unfold onePath
  cases hp : pathE s (ti s i).w (ti s k).e n with
  | none => rw [hp] at h2; exact ⟨_, _, _, h2, h1⟩
  | some l => rw [hp] at h2; obtain ⟨A, c, he, -⟩ := h2; exact ⟨_, _, _, he, h1⟩
set_option maxHeartbeats 2000000 in
theorem some_any (s : List Tl) (S : Option Addr) (m d n : Nat) (w : World) (hm : m = s.length) (hv : vld s = true) (hS : SetIn w w.heap.size S s) (hwf : ∀ t ∈ s, twf t) (hn1 : 1 ≤ n) (hn : n ≤ 40000) :
    Calls Tryz.prog 7 #[.slice S m d, .int .i64 (n : Int)] w fun e w' => e = .returned (.bool (someE s n)) ∧ Below w.heap.size w w' := by
  have HK : Hid (∀ (b : Bool) (e : Ending) (w' : World), e = .returned (.bool b) → someE s n = b → Below w.heap.size w w' → (e = .returned (.bool (someE s n)) ∧ Below w.heap.size w w')) := fun b e w' h1 h2 h3 => ⟨by rw [h2]; exact h1, h3⟩
  have HP := Lib.hid (fun i k W (hb : Below w.heap.size w W) => onePath_any s S m d n i k w W hm hv hS hwf hn1 hn hb)
  have hm1 : m ≤ 1000 := by rw [hm]; exact (vld_iff.1 hv).1
  have HM := Lib.hid hm
  have HS := Lib.hid hS
  clear hm hS hwf hv hn1 hn
  go_enter Tryz.func7, Tryz.ntmps7
  go_wp2_with fail
  go_loopw [5] (fun iv wr => ∃ i : Nat, i ≤ m ∧ iv = .int .i64 (i : Int) ∧ Hid (∀ i', i' < i → ∀ k, k < m → onePath s n i' k = false) ∧ Hid (Below w.heap.size w wr)) (fun iv _ => m - (intOf iv).toNat)
  case atStart => exact ⟨0, Nat.zero_le _, rfl, Lib.hid (fun i' h => absurd h (Nat.not_lt_zero _)), Lib.hid (Below.refl _ _)⟩
  case round =>
    obtain ⟨i, hi, rfl, hno, hbr⟩ := hrel
    obtain ⟨wo, rfl⟩ : ∃ wo : World, wo = wr := ⟨_, rfl⟩
    by_cases him : i < m
    · go_wp2_with fail
      go_loopw [6] (fun kv wr => ∃ k : Nat, k ≤ m ∧ kv = .int .i64 (k : Int) ∧ Hid (∀ k', k' < k → onePath s n i k' = false) ∧ Hid (Below w.heap.size w wr)) (fun kv _ => m - (intOf kv).toNat)
      case atStart => exact ⟨0, Nat.zero_le _, rfl, Lib.hid (fun i' h => absurd h (Nat.not_lt_zero _)), hbr⟩
      case round =>
        clear hbr
        obtain ⟨k, hk, rfl, hnk, hbr⟩ := hrel
        obtain ⟨wi, rfl⟩ : ∃ wi : World, wi = wr := ⟨_, rfl⟩
        by_cases hkm : k < m
        · have his : i < s.length := by rw [← HM.out]; exact him
          have hks : k < s.length := by rw [← HM.out]; exact hkm
          obtain ⟨xa, xo, rfl, hxa, -, -, -, t3⟩ := set_at HS.out hbr.out his
          obtain ⟨xa', xo', hxe, hxa', -, t1, -, -⟩ := set_at HS.out hbr.out hks
          obtain ⟨rfl, rfl⟩ : xa' = xa ∧ xo' = xo := by simp only [Option.some.injEq, Addr.mk.injEq, and_true] at hxe; exact ⟨hxe.1.symm, hxe.2.symm⟩
          have hp := HP.out i k
          obtain ⟨x, hx⟩ : ∃ x, x = (ti s i).w := ⟨_, rfl⟩
          obtain ⟨y, hy⟩ : ∃ y, y = (ti s k).e := ⟨_, rfl⟩
          have r3 : ∀ w', Below wi.heap.size wi w' → w'.cell? ⟨xa', xo' + i * 4 + 3, none⟩ = some (.int .i64 x) := fun w' hb => by rw [hb.cell (p := ⟨xa', _, none⟩) (Nat.lt_of_lt_of_le hxa hbr.out.size), t3, hx]; rfl
          have r1 : ∀ w', Below wi.heap.size wi w' → w'.cell? ⟨xa', xo' + k * 4 + 1, none⟩ = some (.int .i64 y) := fun w' hb => by rw [hb.cell (p := ⟨xa', _, none⟩) (Nat.lt_of_lt_of_le hxa hbr.out.size), t1, hy]; rfl
          have hp' : ∀ W, Below wi.heap.size wi W → Calls Tryz.prog 16 #[.slice (some ⟨xa', xo', none⟩) m d, .int .i64 x, .int .i64 y, .int .i64 (n : Int)] W fun e w' => ∃ A l c, e = .returned (.tuple #[.slice A l c, .int .i64 (if onePath s n i k then 0 else 6)]) ∧ Below W.heap.size W w' := fun W hb => by rw [hx, hy]; exact hp W (hbr.out.trans (hb.mono hbr.out.size))
          have HD0 := Lib.hid (Below.refl wi.heap.size wi).drew
          obtain ⟨b, hb1⟩ : ∃ b, b = onePath s n i k := ⟨_, rfl⟩
          rw [← hb1] at hp'
          have HB1 := Lib.hid hb1
          have hk0 : (0 : Int) ≤ (k : Int) := by omega
          have hi0 : (0 : Int) ≤ (i : Int) := by omega
          clear hx hy t1 t3 hp hxe hxa hxa' his hks hb1
          have HW2 : ∀ wn, Below wi.heap.size wi wn → Below w.heap.size w wn := fun wn hb => hbr.out.trans (hb.mono hbr.out.size)
          have HW := Lib.hid HW2
          clear HW2
          cases b
          · rw [if_neg Bool.false_ne_true] at hp'
            go_wp2_with fail
            go_region_held3 (fun w' => Below wi.heap.size wi w') (first | (with_reducible assumption) | (with_reducible exact (Below.refl _ _).drew) | exact Below.trans (by assumption) (hn.mono (Below.size (by assumption))))
              ((go_at_call 16; (with_reducible refine (hp' _ ?_).mono ?_); (assumption); rintro e wn ⟨A, l, c, rfl, hn⟩))
            rename_i hH
            clear hp' r1 r3
            go_wp2_with fail
            go_roundw
            case rel => exact ⟨k + 1, by omega, by go_num, Lib.hid (fun k' hk' => by
              by_cases e : k' = k
              · subst e; exact HB1.out.symm
              · exact hnk.out k' (by omega)), Lib.hid (HW.out _ hH)⟩
            case measure => simp [intOf]; omega
          · rw [if_pos rfl] at hp'
            go_wp2_with fail
            go_region_held3 (fun w' => Below wi.heap.size wi w') (first | (with_reducible assumption) | (with_reducible exact (Below.refl _ _).drew) | exact Below.trans (by assumption) (hn.mono (Below.size (by assumption))))
              ((go_at_call 16; (with_reducible refine (hp' _ ?_).mono ?_); (assumption); rintro e wn ⟨A, l, c, rfl, hn⟩))
            rename_i hH
            clear hp' r1 r3
            go_wp2_with fail
            go_ret
            exact HK.out _ _ _ rfl (someE_true (by rw [← HM.out]; exact him) (by rw [← HM.out]; exact hkm) HB1.out.symm) (HW.out _ hH)
        · obtain rfl : k = m := by omega
          go_wp2_with fail
          go_roundw
          case rel => exact ⟨i + 1, by omega, by go_num, Lib.hid (fun i' hi' k' hk' => by
            by_cases e : i' = i
            · subst e; exact hnk.out k' hk'
            · exact hno.out i' (by omega) k' hk'), hbr⟩
          case measure => simp [intOf]; omega
    · obtain rfl : i = m := by omega
      go_wp2_with fail
      go_ret
      exact HK.out _ _ _ rfl (someE_false fun i' k' hi' hk' => hno.out i' (by rw [HM.out]; exact hi') k' (by rw [HM.out]; exact hk')) hbr.out
end Go.Proofs.YtgadfmknjpanpaaGreatDoor
