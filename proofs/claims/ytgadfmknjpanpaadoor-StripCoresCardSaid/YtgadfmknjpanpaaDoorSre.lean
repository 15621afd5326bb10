/-
  groutworkref04.endless: which tiles paths of any length begin (or end) with, within a part: walked.
-/
import Derived.Test.YtgadfmknjpanpaaDoorSld
import Derived.Test.YtgadfmknjpanpaaDoorSrq
import Derived.Maps.AppendAt
namespace Go.Proofs.YtgadfmknjpanpaaDoor
open Go.RowKit Go.Maps Go.BigFrame Go.Sort
set_option linter.unusedVariables false
set_option linter.unusedSimpArgs false
set_option maxRecDepth 100000

/-- one step of a path -/
def stp (s : List Tl) (north back : Bool) (i k : Nat) : Bool := if back then leadsB (ti s k) (ti s i) north else leadsB (ti s i) (ti s k) north
/-- a path of n steps within the part begins (or ends) with tile i -/
def endF (s : List Tl) (inn : Nat → Bool) (north back : Bool) : Nat → Nat → Bool
  | 0, i => inn i
  | n + 1, i => inn i && (List.range s.length).any fun k => endF s inn north back n k && stp s north back i k
def endG (s : List Tl) (inn : Nat → Bool) (north back : Bool) (n i k : Nat) : Bool := inn i && (List.range k).any fun k => endF s inn north back n k && stp s north back i k
section
variable (s : List Tl) (inn : Nat → Bool) (north back : Bool)
theorem endG_zero (n i : Nat) : endG s inn north back n i 0 = false := by unfold endG; simp
theorem endG_all (n i : Nat) : endG s inn north back n i s.length = endF s inn north back (n + 1) i := rfl
theorem endG_succ (n i k : Nat) (h : endG s inn north back n i k = false) (hi : inn i = true) : endG s inn north back n i (k + 1) = (endF s inn north back n k && stp s north back i k) := by
  unfold endG at h ⊢
  rw [hi, Bool.true_and] at h ⊢
  rw [List.range_succ, List.any_append, h]
  simp
theorem endG_true (n i k : Nat) (hk : k ≤ s.length) (h : endG s inn north back n i k = true) : endF s inn north back (n + 1) i = true := by
  unfold endG at h
  rw [Bool.and_eq_true] at h
  obtain ⟨j, hj, hp⟩ := List.any_eq_true.1 h.2
  rw [endF, h.1, Bool.true_and]
  exact List.any_eq_true.2 ⟨j, List.mem_range.2 (by have := List.mem_range.1 hj; omega), hp⟩
theorem endG_out (n i k : Nat) (hi : inn i = false) : endG s inn north back n i k = endF s inn north back (n + 1) i := by
  unfold endG
  rw [endF, hi]
  rfl
def endT (n : Nat) (L : Int) : Bool := endF s inn north back n L.toNat
def rowN (n i : Nat) (g : Bool) (L : Int) : Bool := if L.toNat < i then endF s inn north back (n + 1) L.toNat else if L.toNat = i then g else false
theorem rowN_zero (n : Nat) (L : Int) : rowN s inn north back n 0 false L = false := by
  unfold rowN
  rw [if_neg (by omega)]
  split <;> rfl
theorem rowN_at (n i : Nat) (g : Bool) : rowN s inn north back n i g (i : Int) = g := by
  unfold rowN
  rw [Int.toNat_natCast, if_neg (by omega), if_pos rfl]
theorem rowN_off (n i : Nat) (g g' : Bool) (L : Nat) (h : L ≠ i) : rowN s inn north back n i g (L : Int) = rowN s inn north back n i g' (L : Int) := by
  unfold rowN
  rw [Int.toNat_natCast]
  by_cases h1 : L < i
  · rw [if_pos h1, if_pos h1]
  · rw [if_neg h1, if_neg h1, if_neg h, if_neg h]
theorem rowN_next (n i : Nat) (L : Nat) : rowN s inn north back n i (endF s inn north back (n + 1) i) (L : Int) = rowN s inn north back n (i + 1) false (L : Int) := by
  unfold rowN
  rw [Int.toNat_natCast]
  by_cases h1 : L < i
  · rw [if_pos h1, if_pos (by omega)]
  · rw [if_neg h1]
    by_cases h2 : L = i
    · subst h2
      rw [if_pos rfl, if_pos (by omega)]
    · rw [if_neg h2, if_neg (by omega)]
      split <;> rfl
theorem rowN_all (n : Nat) (L : Nat) (hL : L < s.length) : rowN s inn north back n s.length false (L : Int) = endT s inn north back (n + 1) (L : Int) := by
  unfold rowN endT
  rw [Int.toNat_natCast, if_pos hL]
end
/-- a slice of bools -/
def BSl (w : World) (lo : Nat) (A : Option Addr) (m : Nat) (f : Int → Bool) : Prop := 0 < m → ∃ q, A = some ⟨q, 0, none⟩ ∧ lo ≤ q ∧ BTab w q m f
theorem BSl.keep {w w' : World} {lo : Nat} {A : Option Addr} {m : Nat} {f : Int → Bool} (h : BSl w lo A m f) (hb : Below w.heap.size w w') : BSl w' lo A m f := fun hm => by
  obtain ⟨q, e, hl, ht⟩ := h hm
  exact ⟨q, e, hl, ht.keep hb⟩
/-- the bools of a part -/
def innL (inn : Nat → Bool) (m : Nat) : List Value := (List.range m).map fun L => .bool (inn L)
theorem innL_len (inn : Nat → Bool) (m : Nat) : (innL inn m).length = m := by unfold innL; simp
theorem innL_at (inn : Nat → Bool) (m j : Nat) (u : Value) (h : (innL inn m)[j]? = some u) : j < m ∧ u = .bool (inn j) := by
  unfold innL at h
  rw [List.getElem?_map] at h
  by_cases hj : j < m
  · rw [List.getElem?_range hj] at h
    exact ⟨hj, by simpa using h.symm⟩
  · rw [List.getElem?_eq_none (by simpa using hj)] at h
    simp at h
theorem innL_one (inn : Nat → Bool) (m : Nat) : ∀ u ∈ innL inn m, u.oneCell' = true := fun u hu => by
  unfold innL at hu
  obtain ⟨L, -, rfl⟩ := List.mem_map.1 hu
  rfl
theorem own_bools {w : World} {base m : Nat} {v : Value} {inn : Nat → Bool} (h : w.ownsRow base 4 1 v m (innL inn m)) : ∃ A c, v = .slice A m c ∧ BSl w base A m (fun L => inn L.toNat) := by
  by_cases h0 : 0 < m
  · obtain ⟨g, c, e, h1, h2, h3⟩ := own_row h h0
    subst e
    have hw := own_words h
    refine ⟨_, _, rfl, fun _ => ⟨g, rfl, h1, h2, fun L hL => ?_, hw.2.2⟩⟩
    rw [hw.2.1 L hL]
    unfold innL
    rw [List.getElem?_map, List.getElem?_range hL]
    show some (Value.bool (inn L)) = some (Value.bool (inn (L : Int).toNat))
    rw [Int.toNat_natCast]
  · rcases h.2 with ⟨rfl, h0⟩ | ⟨g, cap, cur, rfl, _⟩
    · subst h0; exact ⟨none, 0, rfl, fun hm => by omega⟩
    · exact ⟨_, _, rfl, fun hm => by omega⟩
set_option maxHeartbeats 16000000 in
theorem rendless_any (s : List Tl) (S : Option Addr) (m d qi ci : Nat) (inn : Nat → Bool) (north back : Bool) (w : World) (hm : m = s.length) (hml : m ≤ 1000) (hS : SetIn w w.heap.size S s) (hin : BTab w qi m (fun L => inn L.toNat)) :
    Calls Tryd.prog 32 #[.slice S m d, .slice (some ⟨qi, 0, none⟩) m ci, .bool north, .bool back] w fun e w' => ∃ A c, e = .returned (.slice A m c) ∧ BSl w' w.heap.size A m (endT s inn north back m) ∧ Below w.heap.size w w' := by
  obtain ⟨i0, hi, hz0, hz1, hz2⟩ := info_parts bool_infoP
  have hby : i0.bytes * m ≤ 281474976710656 := by rw [hz2]; omega
  have HM := Lib.hid hm
  have HS := Lib.hid hS
  have HI := Lib.hid hin
  clear hm hS hin
  have hmx : 0 + m ≤ maxLen := by simp only [maxLen]; omega
  have hab : (0 + m) * 1 ≤ 140737488355328 := by omega
  have HIL : Hid ((innL inn m).length = m * 1) := by show _ = _; rw [innL_len, Nat.mul_one]
  go_enter Tryd.func32, Tryd.ntmps32
  go_upto_region 2 with (at_builtin; refine wpList_append_own_at _ rfl _ _ 65 rfl w.heap.size 4 i0 _ 1 1 Tryd.underlying65 hi hz0 hz1 hz2 rfl (by decide) (.slice (some ⟨w.heap.size, 0, none⟩) 0 0) 0 [] rfl (own_empty_at _ _ _ _ (heap_at _ _ _ rfl) (Nat.le_refl _)) ⟨qi, 0, none⟩ m ci (innL inn m) rfl HIL.out (fun jj u hu => by obtain ⟨h1, rfl⟩ := innL_at inn m jj u hu; rw [Addr.add_mid, Nat.zero_add]; exact (HI.out.keep ((Below.refl _ _).alloc (Nat.le_refl _) _)).2.1 jj h1) (innL_one inn m) hmx hab (by simp) ?_; intro v7 w7 hown7 hgrow7 hnil7 hat7; simp only [Nat.zero_add, List.nil_append] at hown7)
  obtain ⟨A7, c7, rfl, hB7⟩ := own_bools hown7
  have hb7 : Below w.heap.size w w7 := ((Below.refl _ _).alloc (Nat.le_refl _) _).grown hgrow7 (by simp) (fun j e => by simp [Value.ownBlock] at e; omega)
  have HB7 : Hid (BSl w7 w.heap.size A7 m (endT s inn north back 0)) := hB7
  have HBE7 := Lib.hid hb7
  clear hown7 hgrow7 hnil7 hat7 hB7 hb7 hmx hab
  go_wp2_with fail
  go_loopw [9, 10] (fun cv nv wr => ∃ (n : Nat) (A : Option Addr) (c : Nat), n ≤ m ∧ nv = .int .i64 (n : Int) ∧ cv = .slice A m c ∧ Hid (BSl wr w.heap.size A m (endT s inn north back n)) ∧ Hid (Below w.heap.size w wr)) (fun cv nv _ => m - (intOf nv).toNat)
  case atStart => exact ⟨0, A7, c7, Nat.zero_le _, rfl, rfl, HB7, HBE7⟩
  case round =>
    clear HB7 HBE7
    obtain ⟨n, A, c, hn, rfl, rfl, hT, hbr⟩ := hrel
    obtain ⟨wi, rfl⟩ : ∃ wi : World, wi = wr := ⟨_, rfl⟩
    by_cases hnm : n < m
    · have hnm' : (n : Int) < (m : Int) := by omega
      obtain ⟨q, rfl, hqlo, hTq⟩ := hT.out (by omega)
      clear hqlo
      obtain ⟨q2, hq2⟩ : ∃ q2, q2 = wi.heap.size := ⟨_, rfl⟩
      have HTQ := Lib.hid hTq
      clear hTq hT
      go_upto_region 6 with (at_make; refine wpList_make_full _ rfl _ _ 65 rfl wi.heap.size 4 i0 (.bool false) 1 Tryd.underlying65 hi hz0 hz1 .i64 .i64 _ _ m rfl rfl rfl rfl hby (by simp only [maxLen]; omega) (by omega) ?_; intro w6 hown6 hgrow6)
      have hb6 : Below wi.heap.size wi w6 := ⟨hgrow6.os, hgrow6.tape, hgrow6.output, hgrow6.size, fun k hk => hgrow6.block k hk (by simp)⟩
      rw [← hq2]
      have hT6 : BTab w6 q2 m (rowN s inn north back n 0 false) := by
        rw [hq2]
        refine ⟨(hown6.lt _ rfl).2, fun L hL => ?_, fun o => hown6.frozenAt o⟩
        rw [hown6.cellAt L (by omega), Nat.mul_one, show (madeCells (Value.bool false).cells m).toList[L]? = some (.bool false) from made_at _ _ _ hL, rowN_zero]
      have hT16 := HTQ.out.keep hb6
      have hb16 : Below w.heap.size w w6 := hbr.out.trans (hb6.mono hbr.out.size)
      have hI6 := HI.out.keep hb16
      have hqq : q ≠ q2 := by have := HTQ.out.1; omega
      have hqi : qi ≠ q2 := by have := HI.out.1; have := hbr.out.size; omega
      have hq2lo : w.heap.size ≤ q2 := by have := hbr.out.size; omega
      have HGA : Hid (∀ W, w6.grownBy W (some q2) → BTab W q m (endT s inn north back n) ∧ BTab W qi m (fun L => inn L.toNat) ∧ Below w.heap.size w W) := fun W hg =>
        ⟨hT16.grown hg (by simpa using hqq), hI6.grown hg (by simpa using hqi), hb16.trans ⟨hg.os, hg.tape, hg.output, hg.size, fun j hj => hg.block j (Nat.lt_of_lt_of_le hj hb16.size) (by simp; omega)⟩⟩
      have HT6 := Lib.hid hT6
      clear hown6 hgrow6 hb6 hT6 hT16 hb16 hqq hq2 hqi hI6 hbr HTQ
      go_wp2_with fail
      go_loopw [12] (fun iv wr => ∃ i : Nat, i ≤ m ∧ iv = .int .i64 (i : Int) ∧ Hid (BTab wr q2 m (rowN s inn north back n i false)) ∧ Hid (w6.grownBy wr (some q2))) (fun iv _ => m - (intOf iv).toNat)
      case atStart => exact ⟨0, Nat.zero_le _, rfl, HT6, World.grownBy.refl _ _⟩
      case round =>
        clear HT6
        obtain ⟨i, hi', rfl, hT, hg⟩ := hrel
        obtain ⟨wo, rfl⟩ : ∃ wo : World, wo = wr := ⟨_, rfl⟩
        by_cases him : i < m
        · have hi0 : (0 : Int) ≤ (i : Int) := by omega
          have him' : (i : Int) < (m : Int) := by omega
          have HT0 : Hid (BTab wo q2 m (rowN s inn north back n i (endG s inn north back n i 0))) := by rw [endG_zero]; exact hT
          clear hT
          go_wp2_with fail
          go_loopw [13] (fun kv wr => ∃ k : Nat, k ≤ m ∧ kv = .int .i64 (k : Int) ∧ Hid (BTab wr q2 m (rowN s inn north back n i (endG s inn north back n i k))) ∧ Hid (w6.grownBy wr (some q2))) (fun kv _ => m - (intOf kv).toNat)
          case atStart => exact ⟨0, Nat.zero_le _, rfl, HT0, hg⟩
          case round =>
            clear HT0 hg
            obtain ⟨k, hk, rfl, hT, hg⟩ := hrel
            obtain ⟨wl, rfl⟩ : ∃ wl : World, wl = wr := ⟨_, rfl⟩
            obtain ⟨hTn, hIn, hbw⟩ := HGA.out wl hg.out
            have cK := hT.out.2.1 i him
            have zK := hT.out.2.2 i
            obtain ⟨g, hg0⟩ : ∃ g, g = endG s inn north back n i k := ⟨_, rfl⟩
            obtain ⟨y, hy⟩ : ∃ y, y = inn i := ⟨_, rfl⟩
            rw [rowN_at, ← hg0] at cK
            have cI : wl.cell? ⟨qi, i, none⟩ = some (.bool y) := by
              rw [hIn.2.1 i him, hy]
              rfl
            have HGJ := Lib.hid hg0
            have HY := Lib.hid hy
            have HEX : Hid (endG s inn north back n i k = endF s inn north back (n + 1) i → BTab wl q2 m (rowN s inn north back n (i + 1) false)) := fun e => hT.out.congr fun L hL => by rw [e, rowN_next]
            by_cases hkm : k < m
            · cases y
              · have hTn' : Hid (BTab wl q2 m (rowN s inn north back n (i + 1) false)) := HEX.out (endG_out s inn north back n i k HY.out.symm)
                clear hT hTn hIn hbw hg0 hy
                go_wp2_with fail
                go_roundw
                case rel => exact ⟨i + 1, by omega, by go_num, hTn', hg⟩
                case measure => simp [intOf]; omega
              · cases g
                · have his : i < s.length := by rw [← HM.out]; exact him
                  have hks : k < s.length := by rw [← HM.out]; exact hkm
                  obtain ⟨xa, xo, rfl, hxa, t0, t1, t2, t3⟩ := set_at HS.out hbw his
                  obtain ⟨xa', xo', hxe, hxa', u0, u1, u2, u3⟩ := set_at HS.out hbw hks
                  obtain ⟨rfl, rfl⟩ : xa' = xa ∧ xo' = xo := by simp only [Option.some.injEq, Addr.mk.injEq, and_true] at hxe; exact ⟨hxe.1.symm, hxe.2.symm⟩
                  obtain ⟨t, ht⟩ : ∃ t, t = ti s i := ⟨_, rfl⟩
                  obtain ⟨u, hu⟩ : ∃ u, u = ti s k := ⟨_, rfl⟩
                  have t0' : wl.cell? ⟨xa', xo' + i * 4, none⟩ = some (.int .i64 t.n) := by rw [t0, ht]; rfl
                  have t1' : wl.cell? ⟨xa', xo' + i * 4 + 1, none⟩ = some (.int .i64 t.e) := by rw [t1, ht]; rfl
                  have t2' : wl.cell? ⟨xa', xo' + i * 4 + 2, none⟩ = some (.int .i64 t.s) := by rw [t2, ht]; rfl
                  have t3' : wl.cell? ⟨xa', xo' + i * 4 + 3, none⟩ = some (.int .i64 t.w) := by rw [t3, ht]; rfl
                  have u0' : wl.cell? ⟨xa', xo' + k * 4, none⟩ = some (.int .i64 u.n) := by rw [u0, hu]; rfl
                  have u1' : wl.cell? ⟨xa', xo' + k * 4 + 1, none⟩ = some (.int .i64 u.e) := by rw [u1, hu]; rfl
                  have u2' : wl.cell? ⟨xa', xo' + k * 4 + 2, none⟩ = some (.int .i64 u.s) := by rw [u2, hu]; rfl
                  have u3' : wl.cell? ⟨xa', xo' + k * 4 + 3, none⟩ = some (.int .i64 u.w) := by rw [u3, hu]; rfl
                  obtain ⟨mv, hmv⟩ : ∃ mv, mv = endF s inn north back n k := ⟨_, rfl⟩
                  have c1' : wl.cell? ⟨q, k, none⟩ = some (.bool mv) := by
                    rw [hTn.2.1 k hkm, hmv]
                    rfl
                  obtain ⟨r, hr⟩ : ∃ r, r = stp s north back i k := ⟨_, rfl⟩
                  have HSU : Hid (endG s inn north back n i (k + 1) = (mv && r)) := by
                    show _ = _
                    rw [endG_succ s inn north back n i k HGJ.out.symm HY.out.symm, ← hmv, ← hr]
                  have HTS2 : Hid (∀ (g : Bool) W6, Below wl.heap.size wl W6 → ∀ W, W = W6.setCell ⟨q2, i, none⟩ (.bool g) → BTab W q2 m (rowN s inn north back n i g) ∧ w6.grownBy W (some q2)) := fun g W6 hb6 W e => by
                    rw [e]
                    exact ⟨(hT.out.keep hb6).set i him g (rowN_at s inn north back n i g).symm fun L hL hne => rowN_off s inn north back n i _ g L hne, grown_setB (grown_belowB hg.out hb6) i _⟩
                  have hk0 : (0 : Int) ≤ (k : Int) := by omega
                  have hkm' : (k : Int) < (m : Int) := by omega
                  have HR : Hid (r = if back then leadsB u t north else leadsB t u north) := by
                    show _ = _
                    rw [hr, ht, hu]
                    rfl
                  clear his hks t0 t1 t2 t3 u0 u1 u2 u3 hxe hxa hxa' ht hu hmv hr hT hg hTn hIn hbw hg0 hy HEX HGA
                  cases mv
                  · go_wp2_with fail
                    have f0 := ext_cell c1'
                    refine wp_region_ext_tail 38 (by kernel_rfl) (by kernel_rfl) ?_
                    simp only [List.take_succ_cons, List.take_zero, List.drop_succ_cons, List.drop_zero]
                    repeat (go_big_quiet_step (fail))
                    refine wpQuiet_nil ?_
                    intro _ hw'
                    obtain ⟨xq, rfl⟩ := hw'
                    obtain ⟨W8, hb8, he8⟩ : ∃ W8, Below wl.heap.size wl W8 ∧ ext wl xq = W8 := ⟨_, ext_below _, rfl⟩
                    rw [he8]
                    obtain ⟨cK8, zK8⟩ := later_cellO hb8 cK zK
                    have HB8 := Lib.hid hb8
                    clear he8 xq f0 hb8
                    go_wp2_with fail
                    go_roundw
                    case rel =>
                      obtain ⟨h1, h2⟩ := HTS2.out _ W8 HB8.out _ rfl
                      exact ⟨k + 1, by omega, by go_num, Lib.hid (by rw [HSU.out]; exact h1), h2⟩
                    case measure => simp [intOf]; omega
                  cases back
                  · have HLE : Hid (∀ W : World, Calls Tryd.prog 21 #[.agg #[.int .i64 t.n, .int .i64 t.e, .int .i64 t.s, .int .i64 t.w], .agg #[.int .i64 u.n, .int .i64 u.e, .int .i64 u.s, .int .i64 u.w], .bool north] W fun e w' => e = .returned (.bool r) ∧ Below W.heap.size W w') := fun W => (leads_any t u north W).mono fun e w' ⟨h1, h2⟩ => ⟨by rw [h1, HR.out]; rfl, h2⟩
                    cases r
                    all_goals
                      go_wp2_with fail
                      have f0 := ext_cell c1'
                      have f1 := ext_cell t0'
                      have f2 := ext_cell t1'
                      have f3 := ext_cell t2'
                      have f4 := ext_cell t3'
                      have f5 := ext_cell u0'
                      have f6 := ext_cell u1'
                      have f7 := ext_cell u2'
                      have f8 := ext_cell u3'
                      refine wp_region_ext_tail 38 (by kernel_rfl) (by kernel_rfl) ?_
                      simp only [List.take_succ_cons, List.take_zero, List.drop_succ_cons, List.drop_zero]
                      repeat (go_big_quiet_step ((go_at_call 21; exact ext_call (HLE.out _))))
                      refine wpQuiet_nil ?_
                      intro _ hw'
                      obtain ⟨xq, rfl⟩ := hw'
                      obtain ⟨W8, hb8, he8⟩ : ∃ W8, Below wl.heap.size wl W8 ∧ ext wl xq = W8 := ⟨_, ext_below _, rfl⟩
                      rw [he8]
                      obtain ⟨cK8, zK8⟩ := later_cellO hb8 cK zK
                      have HB8 := Lib.hid hb8
                      clear he8 xq f0 f1 f2 f3 f4 f5 f6 f7 f8 hb8
                      go_wp2_with fail
                      go_roundw
                      case rel =>
                        obtain ⟨h1, h2⟩ := HTS2.out _ W8 HB8.out _ rfl
                        exact ⟨k + 1, by omega, by go_num, Lib.hid (by rw [HSU.out]; exact h1), h2⟩
                      case measure => simp [intOf]; omega
                  · have HLE : Hid (∀ W : World, Calls Tryd.prog 21 #[.agg #[.int .i64 u.n, .int .i64 u.e, .int .i64 u.s, .int .i64 u.w], .agg #[.int .i64 t.n, .int .i64 t.e, .int .i64 t.s, .int .i64 t.w], .bool north] W fun e w' => e = .returned (.bool r) ∧ Below W.heap.size W w') := fun W => (leads_any u t north W).mono fun e w' ⟨h1, h2⟩ => ⟨by rw [h1, HR.out]; rfl, h2⟩
                    cases r
                    all_goals
                      go_wp2_with fail
                      have f0 := ext_cell c1'
                      have f1 := ext_cell t0'
                      have f2 := ext_cell t1'
                      have f3 := ext_cell t2'
                      have f4 := ext_cell t3'
                      have f5 := ext_cell u0'
                      have f6 := ext_cell u1'
                      have f7 := ext_cell u2'
                      have f8 := ext_cell u3'
                      refine wp_region_ext_tail 38 (by kernel_rfl) (by kernel_rfl) ?_
                      simp only [List.take_succ_cons, List.take_zero, List.drop_succ_cons, List.drop_zero]
                      repeat (go_big_quiet_step ((go_at_call 21; exact ext_call (HLE.out _))))
                      refine wpQuiet_nil ?_
                      intro _ hw'
                      obtain ⟨xq, rfl⟩ := hw'
                      obtain ⟨W8, hb8, he8⟩ : ∃ W8, Below wl.heap.size wl W8 ∧ ext wl xq = W8 := ⟨_, ext_below _, rfl⟩
                      rw [he8]
                      obtain ⟨cK8, zK8⟩ := later_cellO hb8 cK zK
                      have HB8 := Lib.hid hb8
                      clear he8 xq f0 f1 f2 f3 f4 f5 f6 f7 f8 hb8
                      go_wp2_with fail
                      go_roundw
                      case rel =>
                        obtain ⟨h1, h2⟩ := HTS2.out _ W8 HB8.out _ rfl
                        exact ⟨k + 1, by omega, by go_num, Lib.hid (by rw [HSU.out]; exact h1), h2⟩
                      case measure => simp [intOf]; omega
                · have hTn' : Hid (BTab wl q2 m (rowN s inn north back n (i + 1) false)) := HEX.out (by rw [endG_true s inn north back n i k (by rw [← HM.out]; omega) HGJ.out.symm]; exact HGJ.out.symm)
                  clear hT hTn hIn hbw hg0 hy
                  go_wp2_with fail
                  go_roundw
                  case rel => exact ⟨i + 1, by omega, by go_num, hTn', hg⟩
                  case measure => simp [intOf]; omega
            · have hTn' : Hid (BTab wl q2 m (rowN s inn north back n (i + 1) false)) := HEX.out (by
                obtain rfl : k = m := by omega
                rw [HM.out, endG_all])
              clear hT hTn hIn hbw hg0 hy
              go_wp2_with fail
              go_roundw
              case rel => exact ⟨i + 1, by omega, by go_num, hTn', hg⟩
              case measure => simp [intOf]; omega
        · obtain ⟨-, -, hbw⟩ := HGA.out wo hg.out
          have hTn1 : BTab wo q2 m (endT s inn north back (n + 1)) := hT.out.congr fun L hL => by
            obtain rfl : i = m := by omega
            rw [HM.out, rowN_all s inn north back n L (by rw [← HM.out]; exact hL)]
          have HTN : Hid (BSl wo w.heap.size (some ⟨q2, 0, none⟩) m (endT s inn north back (n + 1))) := fun _ => ⟨q2, rfl, hq2lo, hTn1⟩
          have HBW := Lib.hid hbw
          clear hT hg hbw hTn1
          go_wp2_with fail
          go_roundw
          case rel => exact ⟨n + 1, some ⟨q2, 0, none⟩, m, by omega, by go_num, rfl, HTN, HBW⟩
          case measure => simp [intOf]; omega
    · obtain rfl : n = m := by omega
      go_wp2_with fail
      go_ret
      exact ⟨A, c, rfl, hT.out, hbr.out⟩
end Go.Proofs.YtgadfmknjpanpaaDoor
