/-
  groutworklaw03.TorusRows returns true, for every set, width and height.
-/
import Derived.Test.YthjponagoahdhaaDoorTaw
import Derived.Test.YthjponagoahdhaaDoorFb
import Derived.Test.YthjponagoahdhaaDoorFc
namespace Go.Proofs.YthjponagoahdhaaDoor
open Go.RowKit Go.Maps Go.BigFrame Go.Sort
set_option linter.unusedVariables false
set_option linter.unusedSimpArgs false
set_option maxRecDepth 100000

def souK (s : List Tl) (k : Nat) : List Int := souS (s.take k)
theorem souK_succ (s : List Tl) (k : Nat) (h : k < s.length) : souK s (k + 1) = addIf (souK s k) (ti s k).s := by
  unfold souK souS
  rw [List.take_succ_eq_append_getElem h, List.foldl_append]
  unfold ti
  rw [getD_of_lt s k _ h]
  rfl
theorem souK_len (s : List Tl) : ∀ k, k ≤ s.length → (souK s k).length ≤ k
  | 0, _ => by simp [souK, souS]
  | k + 1, h => by
    have ih := souK_len s k (by omega)
    rw [souK_succ s k (by omega)]
    unfold addIf
    split
    · omega
    · rw [List.length_append, List.length_singleton]; omega
/-- a set of at most six tiles and a width of at most four are not too many -/
theorem few_tiles {m x : Nat} (hm : m ≤ 6) (hx : x ≤ 4) : tooM m x = false := by
  unfold tooM
  rw [decide_eq_false_iff_not]
  have h1 : m ^ x ≤ 6 ^ x := Nat.pow_le_pow_left hm x
  have h2 : 6 ^ x ≤ 6 ^ 4 := Nat.pow_le_pow_right (by omega) hx
  omega
theorem tcheck_few {s : List Tl} {x k : Nat} (hv : vld s = true) (hx1 : 1 ≤ x) (hx6 : x ≤ 6) (hk1 : 1 ≤ k) (hk6 : k ≤ 6) (ht : tooM s.length x = false) : tcheckE s (x : Int) (k : Int) = 0 := by
  unfold tcheckE perB
  have e1 : decide ((1 : Int) ≤ (x : Int)) = true := decide_eq_true (by omega)
  have e2 : decide ((x : Int) ≤ 6) = true := decide_eq_true (by omega)
  have e3 : decide ((1 : Int) ≤ (k : Int)) = true := decide_eq_true (by omega)
  have e4 : decide ((k : Int) ≤ 6) = true := decide_eq_true (by omega)
  rw [hv, e1, e2, e3, e4, Int.toNat_natCast, ht]
  simp
/-- Find, where nothing is due: the error alone -/
def IsFindE (s : List Tl) (x k : Nat) (W : World) (e : Ending) (w' : World) : Prop :=
  Below W.heap.size W w' ∧ ∃ p0 p1 A n c, e = .returned (.tuple #[.agg #[.int .i64 p0, .int .i64 p1, .slice A n c], .int .i64 (if torsE s x k = [] then 6 else 0)])
theorem findE_any (s : List Tl) (S : Option Addr) (m d x k : Nat) (w : World) (hm : m = s.length) (hS : SetIn w w.heap.size S s) (hwf : ∀ t ∈ s, twf t) (hml : m ≤ 1000) (hc : tcheckE s (x : Int) (k : Int) = 0) :
    Calls Tryd.prog 9 #[.slice S m d, .int .i64 (x : Int), .int .i64 (k : Int)] w (IsFindE s x k w) := by
  refine (find_anyT s S m d x k w hm hS hwf (by omega)).mono ?_
  rintro e w' ⟨hb, hr⟩
  rw [if_neg (fun hne => hne hc), Int.toNat_natCast, Int.toNat_natCast] at hr
  refine ⟨hb, ?_⟩
  cases ht : torsE s x k with
  | nil =>
    rw [ht] at hr
    exact ⟨0, 0, none, 0, 0, hr⟩
  | cons t l =>
    rw [ht] at hr
    obtain ⟨A, c, he, -⟩ := hr
    exact ⟨x, k, A, _, c, he⟩
set_option maxHeartbeats 8000000 in
theorem torows_any (s : List Tl) (S : Option Addr) (m cp a b : Nat) (w : World) (hEnv : Env w) (hm : m = s.length) (hmd : m ≤ cp) (hdl : cp ≤ 9223372036854775807) (hS : SetIn w w.heap.size S s) (hwf : ∀ t ∈ s, twf t) (hml : m ≤ 9223372036854775807) (ha : a ≤ 255) (hb : b ≤ 255) :
    Calls Tryd.prog 6 #[.slice S m cp, .int .u8 a, .int .u8 b] w fun e w' => e = .returned (.bool true) ∧ Below w.heap.size w w' := by
  have HAW : Hid (∀ W, Below w.heap.size w W → Calls Tryd.prog 7 #[] W fun e w' => e = .returned (.bool true) ∧ Below W.heap.size W w') := fun W hb => awake3_any W (hEnv.keep hb)
  obtain ⟨x, hx⟩ : ∃ x, x = 1 + a % 4 := ⟨_, rfl⟩
  obtain ⟨h, hh⟩ : ∃ h, h = 1 + b % 6 := ⟨_, rfl⟩
  have hx1 : 1 ≤ x := by omega
  have hx4 : x ≤ 4 := by omega
  have hh1 : 1 ≤ h := by omega
  have hh6 : h ≤ 6 := by omega
  have ex : IntKind.i64.wrap ((1 : Int) + (a : Int) % 4) = (x : Int) := by rw [IntWalk.i64_in _ (by omega)]; omega
  have eh : IntKind.i64.wrap ((1 : Int) + (b : Int) % 6) = (h : Int) := by rw [IntWalk.i64_in _ (by omega)]; omega
  clear hx hh
  have hvA := fun (W : World) (hb : Below w.heap.size w W) => rvalid_any s S m cp W hm hmd hdl (hS.keep hb hb.size)
  by_cases c1 : m ≤ 6
  rotate_left
  · clear hm hS hwf hEnv hvA
    go_enter Tryd.func6, Tryd.ntmps6
    go_upto_region 2 with fail
    go_wp2_with (go_at_call 7; refine (HAW.out _ (Below.refl _ _)).mono ?_; rintro e w2 ⟨rfl, hb2⟩)
    go_ret
    exact ⟨rfl, hb2⟩
  cases hV : vld s
  · rw [hV] at hvA
    have HVA := Lib.hid hvA
    clear hm hS hwf hEnv hvA hV
    go_enter Tryd.func6, Tryd.ntmps6
    go_upto_region 2 with fail
    go_wp2_with (first
      | (go_at_call 8; refine (HVA.out _ (Below.refl _ _)).mono ?_; rintro e w1 ⟨rfl, hb1⟩)
      | (go_at_call 7; refine (HAW.out _ hb1).mono ?_; rintro e w2 ⟨rfl, hb2⟩))
    go_ret
    exact ⟨rfl, hb1.trans (hb2.mono hb1.size)⟩
  rw [hV] at hvA
  have HVA := Lib.hid hvA
  have htm : tooM s.length x = false := by rw [← hm]; exact few_tiles c1 hx4
  have hfi := fun (W : World) (k : Nat) (hb : Below w.heap.size w W) (h1 : 1 ≤ k) (h6 : k ≤ 6) => findE_any s S m cp x k W hm (hS.keep hb hb.size) hwf (by omega) (tcheck_few hV hx1 (by omega) h1 h6 htm)
  have HFI := Lib.hid hfi
  have HS := Lib.hid hS
  have HM := Lib.hid hm
  clear hfi hS hm hwf hEnv hvA hV htm
  by_cases ht : torsE s x h = []
  · have he : (if torsE s x h = [] then (6 : Int) else 0) = 6 := if_pos ht
    have HE := Lib.hid he
    clear ht he
    go_enter Tryd.func6, Tryd.ntmps6
    go_upto_region 2 with fail
    go_wp2_with (first
      | (go_at_call 8; refine (HVA.out _ (Below.refl _ _)).mono ?_; rintro e w1 ⟨rfl, hb1⟩)
      | (go_at_call 9; refine (HFI.out _ h hb1 hh1 hh6).mono ?_; rintro e w2 ⟨hb2, p0, p1, A, n, c, rfl⟩; rw [HE.out]; have hb02 := (hb1.trans (hb2.mono hb1.size)).alloc (hb1.trans (hb2.mono hb1.size)).size (.cells #[.int .i64 p0, .int .i64 p1, .slice A n c] 27))
      | (go_at_call 7; refine (HAW.out _ hb02).mono ?_; rintro e w3 ⟨rfl, hb3⟩))
    go_ret
    exact ⟨rfl, hb02.trans (hb3.mono hb02.size)⟩
  · have he : (if torsE s x h = [] then (6 : Int) else 0) = 0 := if_neg ht
    obtain ⟨k0, hk1, hkh, hks, hkt⟩ := tors_rows hx1 hh1 ht
    have HE := Lib.hid he
    have HKS := Lib.hid hks
    have HKT := Lib.hid hkt
    clear ht he hks hkt
    obtain ⟨i0, hi, hz0, hz1, hz2⟩ := info_parts int_info
    go_enter Tryd.func6, Tryd.ntmps6
    go_upto_region 2 with fail
    go_wp2_with (first
      | (go_at_call 8; refine (HVA.out _ (Below.refl _ _)).mono ?_; rintro e w1 ⟨rfl, hb1⟩)
      | (go_at_call 9; refine (HFI.out _ h hb1 hh1 hh6).mono ?_; rintro e w2 ⟨hb2, p0, p1, A, n, c, rfl⟩; rw [HE.out]; have hb02 := (hb1.trans (hb2.mono hb1.size)).alloc (hb1.trans (hb2.mono hb1.size)).size (.cells #[.int .i64 p0, .int .i64 p1, .slice A n c] 27))
      | fail)
    obtain ⟨W4, hW4⟩ : ∃ W4, W4 = w2.alloc (.cells #[.int .i64 p0, .int .i64 p1, .slice A n c] 27) := ⟨_, rfl⟩
    rw [← hW4] at hb02 ⊢
    clear hW4 hb1 hb2
    go_loopw [11, 12] (fun v iv wr => ∃ (i : Nat) (l : List Int), i ≤ m ∧ iv = .int .i64 i ∧ Hid (l = souK s i) ∧ wr.ownsRow W4.heap.size 3 1 v l.length (vals l) ∧ Below W4.heap.size W4 wr) (fun _ iv _ => m - (intOf iv).toNat)
    case atStart => exact ⟨0, [], Nat.zero_le _, rfl, rfl, World.ownsRow_nil _ _ _ _, Below.refl _ _⟩
    case round =>
      obtain ⟨i, l, hi', rfl, hl, hown, hb4⟩ := hrel
      obtain ⟨wi, rfl⟩ : ∃ wi : World, wi = wr := ⟨_, rfl⟩
      obtain ⟨L, hL⟩ : ∃ L, L = l.length := ⟨_, rfl⟩
      rw [← hL] at hown
      have hLm : L ≤ m := by rw [hL, hl.out]; exact Nat.le_trans (souK_len s i (by rw [← HM.out]; exact hi')) hi'
      obtain ⟨Al, cl, rfl, -, hnc, hnm, hI, hAl⟩ := own_ints hown
      have HLL := Lib.hid hL
      have HI := Lib.hid hI
      have HOWN := Lib.hid hown
      clear hL hI hown
      have hbwi : Below w.heap.size w wi := hb02.trans (hb4.mono hb02.size)
      by_cases him : i < m
      · have hil : i < s.length := by rw [← HM.out]; exact him
        obtain ⟨sb, so, rfl, hsb, -, -, cs2, -⟩ := set_at HS.out hbwi hil
        have ht' : s.getD i ⟨0, 0, 0, 0⟩ = ti s i := rfl
        rw [ht'] at cs2
        obtain ⟨vv, hvv⟩ : ∃ vv, vv = (ti s i).s := ⟨_, rfl⟩
        rw [← hvv] at cs2
        have hi0 : (0 : Int) ≤ (i : Int) := by omega
        have hi1 : (i : Int) < (m : Int) := by omega
        have hsbi : sb < wi.heap.size := Nat.lt_of_lt_of_le hsb hbwi.size
        have hstep : Hid (souK s (i + 1) = addIf l vv) := by show _ = _; rw [souK_succ s i hil, hl.out, hvv]
        clear hil ht' hvv hbwi
        go_wp2_with fail
        go_loopw [13, 14] (fun tb jv wr => ∃ (j : Nat) (fb : Bool), j ≤ L ∧ tb = .bool fb ∧ Hid (fb = decide (vv ∈ l.take j)) ∧ jv = .int .i64 j ∧ Below wi.heap.size wi wr) (fun _ jv _ => L - (intOf jv).toNat)
        case atStart => exact ⟨0, false, Nat.zero_le _, rfl, by simp [Hid], rfl, Below.refl _ _⟩
        case round =>
          obtain ⟨j, fb, hj, rfl, hfb, rfl, hbj⟩ := hrel
          obtain ⟨wj, rfl⟩ : ∃ wj : World, wj = wr := ⟨_, rfl⟩
          by_cases hjL : j < L
          · have hjl : j < l.length := by rw [← HLL.out]; exact hjL
            obtain ⟨lb, lo, rfl, hlb, hcl⟩ := HI.out (ne_nil_of_lt hjl)
            have qj := (hbj.cell (p := ⟨lb, lo + j, none⟩) hlb).trans (hcl j hjl)
            obtain ⟨u, hu⟩ : ∃ u, u = l.getD j 0 := ⟨_, rfl⟩
            rw [← hu] at qj
            have qs := (hbj.cell (p := ⟨sb, so + i * 4 + 2, none⟩) hsbi).trans cs2
            have hj0 : (0 : Int) ≤ (j : Int) := by omega
            have hj1 : (j : Int) < (L : Int) := by omega
            have hlj : l[j]? = some u := by rw [hu, List.getD_eq_getElem?_getD, List.getElem?_eq_getElem hjl]; rfl
            have htk : l.take (j + 1) = l.take j ++ [u] := by
              rw [List.take_succ_eq_append_getElem hjl]
              congr 1
              rw [List.getElem?_eq_getElem hjl] at hlj
              rw [Option.some.inj hlj]
            have HTK := Lib.hid htk
            clear hcl hu hjl hlj htk
            cases fb with
            | true =>
              have hfb2 : Hid (true = decide (vv ∈ l.take (j + 1))) := by
                show _ = _
                rw [HTK.out]
                have := of_decide_eq_true hfb.out.symm
                exact (decide_eq_true (List.mem_append_left _ this)).symm
              go_wp2_with fail
              go_region
              go_wp2_with fail
              go_roundw
              case rel => exact ⟨j + 1, true, by omega, rfl, hfb2, by go_num, hbj.drew⟩
              case measure => simp [intOf]; omega
            | false =>
              have hnot : vv ∉ l.take j := of_decide_eq_false hfb.out.symm
              by_cases e : u = vv
              · have d1 : (u == vv) = true := beq_iff_eq.2 e
                have hfb2 : Hid (true = decide (vv ∈ l.take (j + 1))) := by
                  show _ = _
                  rw [HTK.out]
                  exact (decide_eq_true (List.mem_append_right _ (by rw [e]; simp))).symm
                clear e hnot
                go_wp2_with fail
                go_region
                go_wp2_with fail
                go_roundw
                case rel => exact ⟨j + 1, true, by omega, rfl, hfb2, by go_num, hbj.drew⟩
                case measure => simp [intOf]; omega
              · have d1 : (u == vv) = false := beq_eq_false_iff_ne.2 e
                have hfb2 : Hid (false = decide (vv ∈ l.take (j + 1))) := by
                  show _ = _
                  rw [HTK.out]
                  refine (decide_eq_false ?_).symm
                  intro h1
                  rcases List.mem_append.1 h1 with h2 | h2
                  · exact hnot h2
                  · rw [List.mem_singleton] at h2; exact e h2.symm
                clear e hnot
                go_wp2_with fail
                go_region
                go_wp2_with fail
                go_roundw
                case rel => exact ⟨j + 1, false, by omega, rfl, hfb2, by go_num, hbj.drew⟩
                case measure => simp [intOf]; omega
          · have e : j = L := by omega
            have hfe : fb = decide (vv ∈ l) := by
              rw [hfb.out, List.take_of_length_le (by rw [← HLL.out]; omega)]
            have hownj := own_keep' HOWN.out hbj
            have hb4j : Below W4.heap.size W4 wj := hb4.trans (hbj.mono hb4.size)
            have qs := (hbj.cell (p := ⟨sb, so + i * 4 + 2, none⟩) hsbi).trans cs2
            clear hfb
            cases fb with
            | true =>
              have hin : vv ∈ l := of_decide_eq_true hfe.symm
              have hl2 : Hid (l = souK s (i + 1)) := by show _ = _; rw [hstep.out]; unfold addIf; rw [if_pos hin]
              have HO2 : Hid (wj.ownsRow W4.heap.size 3 1 (.slice Al L cl) l.length (vals l)) := by show World.ownsRow _ _ _ _ _ _ _; rw [← HLL.out]; exact hownj
              clear hfe hin hownj e
              go_wp2_with fail
              go_roundw
              case rel => exact ⟨i + 1, l, by omega, by go_num, hl2, HO2.out, hb4j⟩
              case measure => simp [intOf]; omega
            | false =>
              have hin : vv ∉ l := of_decide_eq_false hfe.symm
              have hl2 : Hid (l ++ [vv] = souK s (i + 1)) := by show _ = _; rw [hstep.out]; unfold addIf; rw [if_neg hin]
              have HOJ := Lib.hid hownj
              clear hfe hin hownj e
              go_wp2_with (first
                | (at_builtin; refine wpList_append_own_at _ rfl _ _ 25 rfl W4.heap.size 3 i0 _ 1 8 Tryd.underlying25 hi hz0 hz1 hz2 rfl (by decide) _ L _ rfl (HOJ.out.alloc _) ⟨wj.heap.size, 0, none⟩ 1 1 [.int .i64 vv] rfl rfl (cell_one_new _ _ _) (one_int vv) (by simp only [maxLen]; omega) (by omega) (by have := hb4j.size; simp; omega) ?_; intro v7 w7 hown7 hgrow7 hnil7 hat7)
                | fail)
              have hg7 := grown_to (r := (Value.slice Al L cl).ownBlock) hgrow7 rfl
              have hb7 : Below W4.heap.size W4 w7 := (hb4j.alloc hb4j.size _).grown hg7 (by have := hb4j.size; simp; omega) (fun j e => (HOJ.out.lt j e).1)
              have HO7 : Hid (w7.ownsRow W4.heap.size 3 1 v7 (l ++ [vv]).length (vals (l ++ [vv]))) := by
                show World.ownsRow _ _ _ _ _ _ _
                have e1 : vals (l ++ [vv]) = vals l ++ [.int .i64 vv] := by simp [vals]
                rw [List.length_append, ← HLL.out, e1]
                exact hown7
              clear hown7 hgrow7 hg7 hnil7 hat7
              go_roundw
              case rel => exact ⟨i + 1, l ++ [vv], by omega, by go_num, hl2, HO7.out, hb7⟩
              case measure => simp [intOf]; omega
      · have e : i = m := by omega
        have hLs : L = (souS s).length := by
          rw [HLL.out, hl.out, e]
          unfold souK
          rw [List.take_of_length_le (by rw [← HM.out]; exact Nat.le_refl _)]
        have hp := fun (W : World) => rpower_any L x W (by omega) (by omega)
        have hpw : pw L x ≤ 1000000 := by unfold pw; omega
        have hkp : k0 ≤ pw L x := by
          have h1 := HKS.out
          rw [← hLs] at h1
          unfold pw
          omega
        obtain ⟨mo, hmo⟩ : ∃ mo, mo = pw L x := ⟨_, rfl⟩
        rw [← hmo] at hp hpw hkp
        have hirr : ¬ ((i : Int) < (m : Int)) := by omega
        clear hLs hmo HOWN HI e
        go_wp2_with (first
          | (go_at_call 20; refine (hp _).mono ?_; rintro e w5 ⟨rfl, rfl⟩)
          | fail)
        go_loopw [16] (fun kv wr => ∃ k : Nat, 1 ≤ k ∧ k ≤ k0 ∧ kv = .int .i64 k ∧ Below w.heap.size w wr) (fun kv _ => k0 - (intOf kv).toNat)
        case atStart => exact ⟨1, Nat.le_refl _, hk1, rfl, hbwi⟩
        case round =>
          clear hbwi hb4
          obtain ⟨k, hk1', hkk, rfl, hbk⟩ := hrel
          obtain ⟨wk, rfl⟩ : ∃ wk : World, wk = wr := ⟨_, rfl⟩
          have g1 : (k : Int) ≤ (mo : Int) := by omega
          have g2 : (k : Int) ≤ (h : Int) := by omega
          by_cases hte : torsE s x k = []
          · have hE6 : Hid ((if torsE s x k = [] then (6 : Int) else 0) = 6) := if_pos hte
            have hlt : k < k0 := by
              rcases Nat.lt_or_ge k k0 with h | h
              · exact h
              · have : k = k0 := by omega
                rw [this] at hte
                exact absurd hte HKT.out
            clear hte
            go_wp2_with (first
              | (go_at_call 9; refine (HFI.out _ k hbk hk1' (by omega)).mono ?_; rintro e w6 ⟨hb6, q0, q1, A6, n6, c6, rfl⟩; rw [hE6.out])
              | fail)
            have hb9 := (hbk.trans (hb6.mono hbk.size)).alloc (hbk.trans (hb6.mono hbk.size)).size (.cells #[.int .i64 q0, .int .i64 q1, .slice A6 n6 c6] 27)
            go_roundw
            case rel => exact ⟨k + 1, by omega, by omega, by go_num, hb9⟩
            case measure => simp [intOf]; omega
          · have hE0 : Hid ((if torsE s x k = [] then (6 : Int) else 0) = 0) := if_neg hte
            clear hte
            go_wp2_with (first
              | (go_at_call 9; refine (HFI.out _ k hbk hk1' (by omega)).mono ?_; rintro e w6 ⟨hb6, q0, q1, A6, n6, c6, rfl⟩; rw [hE0.out]; have hb9 := (hbk.trans (hb6.mono hbk.size)).alloc (hbk.trans (hb6.mono hbk.size)).size (.cells #[.int .i64 q0, .int .i64 q1, .slice A6 n6 c6] 27))
              | (go_at_call 7; refine (HAW.out _ hb9).mono ?_; rintro e w8 ⟨rfl, hb8⟩))
            go_ret
            exact ⟨rfl, hb9.trans (hb8.mono hb9.size)⟩
end Go.Proofs.YthjponagoahdhaaDoor
