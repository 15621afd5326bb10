/-
  groutworklaw02: back, FillTurned.
-/
import Derived.Test.YtloodijkfoinnaaGreatDoorAx
import Derived.Test.YtloodijkfoinnaaGreatDoorSl
import Derived.Test.YtloodijkfoinnaaGreatDoorCs
import Derived.Deep.RegionHeld3
import Derived.Deep.Cut
import Derived.Deep.CutRange
import Derived.Test.YtloodijkfoinnaaGreatDoorSo
namespace Go.Proofs.YtloodijkfoinnaaGreatDoor
open Go.RowKit Go.Maps Go.BigFrame
set_option linter.unusedVariables false
set_option linter.unusedSimpArgs false
set_option maxRecDepth 100000

theorem zc4 {w : World} {q : Nat} {a b c d : Value} {t : TypeId} (h : w.heap[q]? = some (.cells #[a, b, c, d] t (0, 0))) : w.cell? ⟨q, 0, none⟩ = some a ∧ w.cell? ⟨q, 1, none⟩ = some b ∧ w.cell? ⟨q, 2, none⟩ = some c ∧ w.cell? ⟨q, 3, none⟩ = some d ∧ ∀ o, w.frozen? ⟨q, o, none⟩ = false := by
  refine ⟨?_, ?_, ?_, ?_, fun o => ?_⟩ <;> simp [World.cell?, World.frozen?, h]
theorem rev_take (l : List Int) (k : Nat) (h : k < l.length) : (l.reverse.take (k + 1)) = l.reverse.take k ++ [l.getD (l.length - 1 - k) 0] := by
  rw [List.take_succ_eq_append_getElem (by simpa using h), List.getElem_reverse, getD_of_lt l _ 0 (by omega)]
set_option maxHeartbeats 2000000 in
theorem back_any (l : List Int) (A : Option Addr) (n c : Nat) (w : World) (hn : n = l.length) (hl : n ≤ 1000000) (hI : IntsIn w w.heap.size A l) :
    Calls Tryz.prog 10 #[.slice A n c] w fun e w' => ∃ B e', e = .returned (.slice B n e') ∧ IntsIn w' w'.heap.size B l.reverse ∧ Below w.heap.size w w' ∧ ∀ p, B = some p → w.heap.size ≤ p.block := by
  obtain ⟨i0, hi, hz0, hz1, hz2⟩ := info_parts int_info
  have HN := Lib.hid hn
  have HI := Lib.hid hI
  clear hn hI
  go_enter Tryz.func10, Tryz.ntmps10
  go_wp2_with fail
  go_loopw [3, 4] (fun v i wr => ∃ k : Nat, k ≤ n ∧ i = .int .i64 ((n : Int) - 1 - (k : Int)) ∧ wr.ownsRow w.heap.size 3 1 v k ((l.reverse.take k).map (Value.int .i64)) ∧ Hid (Below w.heap.size w wr)) (fun _ i _ => (intOf i + 1).toNat)
  case atStart => exact ⟨0, Nat.zero_le _, by go_num, World.ownsRow_nil _ _ _ _, Below.refl _ _⟩
  case round =>
    obtain ⟨k, hk, rfl, hown, hbw⟩ := hrel
    obtain ⟨wi, rfl⟩ : ∃ wi : World, wi = wr := ⟨_, rfl⟩
    by_cases hlt : k < n
    · have hkl : k < l.length := by rw [← HN.out]; exact hlt
      obtain ⟨q, hq⟩ : ∃ q, q = n - 1 - k := ⟨_, rfl⟩
      have hqi : (n : Int) - 1 - (k : Int) = (q : Int) := by omega
      have hql : q < l.length := by rw [← HN.out]; omega
      obtain ⟨b, off, rfl, hb, hc⟩ := HI.out (ne_nil_of_lt hql)
      obtain ⟨u, hu⟩ : ∃ u, u = l.getD q 0 := ⟨_, rfl⟩
      have hcell : wi.cell? ⟨b, off + q, none⟩ = some (.int .i64 u) := by rw [hu]; exact (hbw.out.cell (p := ⟨b, off + q, none⟩) hb).trans (hc q hql)
      have hst : Hid (l.reverse.take (k + 1) = l.reverse.take k ++ [u]) := by show _ = _; rw [rev_take l k hkl, hu, hq, HN.out]
      have hqn : q < n := by omega
      have HOWN := Lib.hid hown
      have hbs := hbw.out.size
      rw [hqi]
      have hqk : Hid ((q : Int) - 1 = (n : Int) - 1 - ((k + 1 : Nat) : Int)) := by show _ = _; omega
      clear hu hc hq hown hkl hql hqi
      go_wp2_with (at_builtin; refine wpList_append_own_at _ rfl _ _ 23 rfl w.heap.size 3 i0 _ 1 8 Tryz.underlying23 hi hz0 hz1 hz2 rfl (by decide) _ _ _ rfl (HOWN.out.alloc _) ⟨wi.heap.size, 0, none⟩ 1 1 [.int .i64 u] rfl rfl (cell_one_new _ _ _) (by simp [Value.oneCell']) (by simp only [maxLen]; omega) (by omega) (by simp; omega) ?_; intro v' w4 hown4 hgrow4 hnil4 hat4)
      have hown5 : w4.ownsRow w.heap.size 3 1 v' (k + 1) ((l.reverse.take (k + 1)).map (Value.int .i64)) := by rw [hst.out, List.map_append]; exact hown4
      have hb5 : Hid (Below w.heap.size w w4) := (be_alloc hbw.out _).grown hgrow4 (by simp; omega) (fun k hk => (HOWN.out.lt k hk).1)
      clear hown4 hgrow4 hnil4 hat4
      go_wp2_with fail
      go_roundw
      case rel => exact ⟨k + 1, by omega, by rw [← hqk.out], hown5, hb5⟩
      case measure => first | (simp [intOf]; done) | (simp [intOf]; omega)
    · have hkn : k = n := by omega
      subst hkn
      rw [show l.reverse.take k = l.reverse from (by rw [List.take_of_length_le]; rw [List.length_reverse, HN.out]; exact Nat.le_refl _)] at hown
      obtain ⟨B, e', rfl, -, -, -, hI', hpl⟩ := own_ints hown
      clear hown
      go_wp2_with fail
      go_ret
      exact ⟨B, e', rfl, hI', hbw.out, hpl⟩
theorem vld_map {s : List Tl} {f g : Tl → Tl} (hf : ∀ t, okt (f t) = okt t) (hg : ∀ t, g (f t) = t) (h : vld s = true) : vld (s.map f) = true := by
  obtain ⟨h1, h2, h3⟩ := vld_iff.1 h
  refine vld_iff.2 ⟨by rw [List.length_map]; exact h1, fun t ht => ?_, ?_⟩
  · obtain ⟨u, hu, rfl⟩ := List.mem_map.1 ht
    rw [hf]; exact h2 u hu
  · unfold List.Nodup at h3 ⊢
    rw [List.pairwise_map]
    exact h3.imp fun hne e => hne (by have h := congrArg g e; rwa [hg, hg] at h)
theorem okt_mir (t : Tl) : okt (mirT t) = okt t := by simp only [okt, mirT]; cases okc t.n <;> cases okc t.e <;> cases okc t.s <;> cases okc t.w <;> rfl
theorem okt_up (t : Tl) : okt (upT t) = okt t := by simp only [okt, upT]; cases okc t.n <;> cases okc t.e <;> cases okc t.s <;> cases okc t.w <;> rfl
theorem okt_tur (t : Tl) : okt (turT t) = okt t := by simp only [okt, turT]; cases okc t.n <;> cases okc t.e <;> cases okc t.s <;> cases okc t.w <;> rfl
theorem twf_mir {s : List Tl} (h : ∀ t ∈ s, twf t) : ∀ t ∈ s.map mirT, twf t := fun t ht => by obtain ⟨u, hu, rfl⟩ := List.mem_map.1 ht; obtain ⟨a, b, c, d⟩ := h u hu; exact ⟨a, d, c, b⟩
theorem twf_up {s : List Tl} (h : ∀ t ∈ s, twf t) : ∀ t ∈ s.map upT, twf t := fun t ht => by obtain ⟨u, hu, rfl⟩ := List.mem_map.1 ht; obtain ⟨a, b, c, d⟩ := h u hu; exact ⟨c, b, a, d⟩
theorem twf_tur {s : List Tl} (h : ∀ t ∈ s, twf t) : ∀ t ∈ s.map turT, twf t := fun t ht => by obtain ⟨u, hu, rfl⟩ := List.mem_map.1 ht; obtain ⟨a, b, c, d⟩ := h u hu; exact ⟨d, a, b, c⟩
theorem four_sets {w : World} {q : Nat} {z0 z1 z2 z3 a b c d : Value} {t : TypeId} (h : w.heap[q]? = some (.cells #[z0, z1, z2, z3] t (0, 0))) :
    ((((w.setCell ⟨q, 0, none⟩ a).setCell ⟨q, 1, none⟩ b).setCell ⟨q, 2, none⟩ c).setCell ⟨q, 3, none⟩ d).heap[q]? = some (.cells #[a, b, c, d] t (0, 0)) := by
  rw [heap_setCell_same _ q 3 _ t d (heap_setCell_same _ q 2 _ t c (heap_setCell_same _ q 1 _ t b (heap_setCell_same w q 0 _ t a h)))]
  rfl
theorem below_set4 {w0 w : World} {B q : Nat} {a b c d : Value} (h : Below B w0 w) (hq : B ≤ q) : Below B w0 ((((w.setCell ⟨q, 0, none⟩ a).setCell ⟨q, 1, none⟩ b).setCell ⟨q, 2, none⟩ c).setCell ⟨q, 3, none⟩ d) :=
  (((h.setCell hq _).setCell hq _).setCell hq _).setCell hq _
theorem IntsIn.setOff {w : World} {A : Option Addr} {l : List Int} (h : IntsIn w w.heap.size A l) (q o : Nat) (v : Value) (hne : l ≠ [] → ∀ b, A = some b → b.block ≠ q) : IntsIn (w.setCell ⟨q, o, none⟩ v) (w.setCell ⟨q, o, none⟩ v).heap.size A l := fun hn => by
  obtain ⟨b, off, hA, hb, hc⟩ := h hn
  refine ⟨b, off, hA, by simpa using hb, fun i hi => ?_⟩
  rw [World.cell?_of_block (a := ⟨b, off + i, none⟩) (Below.heap_setCell _ _ _ _ (hne hn _ hA))]
  exact hc i hi
theorem IntsIn.set4 {w : World} {A : Option Addr} {l : List Int} (h : IntsIn w w.heap.size A l) {q : Nat} (a b c d : Value) (hne : l ≠ [] → ∀ b, A = some b → b.block ≠ q) :
    IntsIn ((((w.setCell ⟨q, 0, none⟩ a).setCell ⟨q, 1, none⟩ b).setCell ⟨q, 2, none⟩ c).setCell ⟨q, 3, none⟩ d) ((((w.setCell ⟨q, 0, none⟩ a).setCell ⟨q, 1, none⟩ b).setCell ⟨q, 2, none⟩ c).setCell ⟨q, 3, none⟩ d).heap.size A l :=
  (((h.setOff q 0 a hne).setOff q 1 b hne).setOff q 2 c hne).setOff q 3 d hne
theorem rev_len (l : List Int) : l.reverse.length = l.length := List.length_reverse
set_option maxHeartbeats 8000000 in
theorem fturned_any (s : List Tl) (d : Ed) (S : Option Addr) (m cp : Nat) (wd hg : Int) (N E U V : Option Addr) (nc ec uc vc : Nat) (w : World) (hEnv : Env w) (hm : m = s.length) (hmd : m ≤ cp) (hdl : cp ≤ 9223372036854775807) (hS : SetIn w w.heap.size S s) (hwf : ∀ t ∈ s, twf t) (hml : m ≤ 9223372036854775807)
    (hn : d.n.length ≤ 9223372036854775807) (he : d.e.length ≤ 9223372036854775807) (hu : d.s.length ≤ 9223372036854775807) (hv : d.w.length ≤ 9223372036854775807) (hE : EdIn w w.heap.size N E U V d) :
    Calls Tryz.prog 3 #[.slice S m cp, .int .i64 wd, .int .i64 hg, .agg #[.slice N d.n.length nc, .slice E d.e.length ec, .slice U d.s.length uc, .slice V d.w.length vc]] w fun e' w' => e' = .returned (.bool true) ∧ Below w.heap.size w w' := by
  obtain ⟨en, hen⟩ : ∃ en, en = d.e.length := ⟨_, rfl⟩
  obtain ⟨un, hun⟩ : ∃ un, un = d.s.length := ⟨_, rfl⟩
  obtain ⟨vn, hvn⟩ : ∃ vn, vn = d.w.length := ⟨_, rfl⟩
  obtain ⟨nn, hnn⟩ : ∃ nn, nn = d.n.length := ⟨_, rfl⟩
  obtain ⟨W1, hW1⟩ : ∃ W1, W1 = w.alloc (.cells #[.slice N nn nc, .slice E en ec, .slice U un uc, .slice V vn vc] 25) := ⟨_, rfl⟩
  have hblk1 : W1.heap[w.heap.size]? = some (.cells #[.slice N nn nc, .slice E en ec, .slice U un uc, .slice V vn vc] 25 (0, 0)) := by rw [hW1]; exact heap_alloc_new w _
  have hb1 : Below w.heap.size w W1 := by rw [hW1]; exact (Below.refl _ _).alloc (Nat.le_refl _) _
  have hz1 : w.heap.size < W1.heap.size := (Array.getElem?_eq_some_iff.1 hblk1).1
  rw [← hen, ← hun, ← hvn, ← hnn]
  have cAw : ∀ W, Below w.heap.size w W → Calls Tryz.prog 5 #[] W fun e w' => e = .returned (.bool true) ∧ Below W.heap.size W w' := fun W hb => awake2_any W (hEnv.keep hb)
  obtain ⟨sb, hsb⟩ : ∃ sb, sb = smallB s wd hg nn en un vn := ⟨_, rfl⟩
  have cSm : ∀ W, Below w.heap.size w W → Calls Tryz.prog 4 #[.slice S m cp, .int .i64 wd, .int .i64 hg, .agg #[.slice N nn nc, .slice E en ec, .slice U un uc, .slice V vn vc]] W fun e w' => e = .returned (.bool sb) ∧ Below W.heap.size W w' := fun W hb => by
    have hh := small_any s S m cp wd hg N E U V nn en un vn nc ec uc vc W hm hmd hdl (hS.keep hb hb.size) hwf hml (by omega) (by omega) (by omega) (by omega)
    rw [← hsb] at hh
    exact hh
  have HW1 := Lib.hid hW1
  have HB1 := Lib.hid hb1
  have HBK := Lib.hid hblk1
  cases sb
  · clear hm hS hwf hE hEnv hblk1 hb1 hW1 hsb hen hun hvn hnn
    go_enter Tryz.func3, Tryz.ntmps3
    go_wp2_with fail
    rw [← HW1.out]
    refine (cSm _ HB1.out).mono ?_
    rintro e2 w2 ⟨rfl, hb2⟩
    have hb02 : Below w.heap.size w w2 := HB1.out.trans (hb2.mono HB1.out.size)
    go_wp2_with fail
    refine (cAw _ hb02).mono ?_
    rintro e3 w3 ⟨rfl, hb3⟩
    go_wp2_with fail
    go_ret
    exact ⟨rfl, hb02.trans (hb3.mono hb02.size)⟩
  obtain ⟨hwide, hf, htm, hhv⟩ := smallB_iff.1 hsb.symm
  obtain ⟨hvl, hrng, hsn, hsu, hsv, hse⟩ := faultE_iff.1 hf
  obtain ⟨a, rfl⟩ := Int.eq_ofNat_of_zero_le (show 0 ≤ wd by omega)
  obtain ⟨b, rfl⟩ := Int.eq_ofNat_of_zero_le (show 0 ≤ hg by omega)
  have ha1 : 1 ≤ a := by omega
  have hb1' : 1 ≤ b := by omega
  have hm60 : m ≤ 60 := by
    unfold heavyB at hhv
    simp at hhv
    omega
  have hnn9 : nn ≤ 1000 ∧ en ≤ 1000 ∧ un ≤ 1000 ∧ vn ≤ 1000 := by omega
  have hf0 : faultE s (a : Int) (b : Int) d.n.length d.e.length d.s.length d.w.length = 0 := by rw [← hf, hen, hun, hvn, hnn]
  have hok := edOk_of hf0
  obtain ⟨n, hn'⟩ : ∃ n, n = countE s a b d := ⟨_, rfl⟩
  obtain ⟨v, f, hcr⟩ : ∃ v f : Int, (if 1152921504606846976 < n then (.tuple #[.int .i64 0, .int .i64 4] : Value) else .tuple #[.int .i64 (n : Nat), .int .i64 0]) = .tuple #[.int .i64 v, .int .i64 f] := by
    by_cases hb : 1152921504606846976 < n
    · exact ⟨0, 4, by rw [if_pos hb]⟩
    · exact ⟨n, 0, by rw [if_neg hb]⟩
  have hres : ∀ (s' : List Tl) (x y : Nat) (d' : Ed), faultE s' (x : Int) (y : Int) d'.n.length d'.e.length d'.s.length d'.w.length = 0 → tooM s'.length x = false → countE s' x y d' = n → countRes s' (x : Int) (y : Int) d' = .tuple #[.int .i64 v, .int .i64 f] := fun s' x y d' h1 h2 h3 => by
    rw [countRes_ok h1 (by simpa using h2)]
    simp only [Int.toNat_natCast]
    rw [h3]
    exact hcr
  have htm' : tooM s.length a = false := by simpa using htm
  have cCt : ∀ W, Below w.heap.size w W → Calls Tryz.prog 6 #[.slice S m cp, .int .i64 (a : Int), .int .i64 (b : Int), .agg #[.slice N nn nc, .slice E en ec, .slice U un uc, .slice V vn vc]] W fun e w' => e = .returned (.tuple #[.int .i64 v, .int .i64 f]) ∧ Below W.heap.size W w' := fun W hb => by
    have hh := count_any s d S m cp (a : Int) (b : Int) N E U V nc ec uc vc W hm (hS.keep hb hb.size) hwf (by omega) hn he hu hv (hE.keep hb hb.size)
    rw [hres s a b d hf0 htm' hn'.symm] at hh
    rw [hen, hun, hvn, hnn]
    exact hh
  have cMi : ∀ W, Below w.heap.size w W → Calls Tryz.prog 7 #[.slice S m cp] W fun e w' => ∃ A c, e = .returned (.tuple #[.slice A m c, .int .i64 0]) ∧ SetIn w' w'.heap.size A (s.map mirT) ∧ Below W.heap.size W w' := fun W hb => (mirS_ok s S m cp W hm (hS.keep hb hb.size) hwf hvl).mono fun e w' ⟨h1, A, c, h2, _, _, h3⟩ => ⟨A, c, by rw [h2, List.length_map, hm], h3.old, h1⟩
  have cUp : ∀ W, Below w.heap.size w W → Calls Tryz.prog 8 #[.slice S m cp] W fun e w' => ∃ A c, e = .returned (.tuple #[.slice A m c, .int .i64 0]) ∧ SetIn w' w'.heap.size A (s.map upT) ∧ Below W.heap.size W w' := fun W hb => (upS_ok s S m cp W hm (hS.keep hb hb.size) hwf hvl).mono fun e w' ⟨h1, A, c, h2, _, _, h3⟩ => ⟨A, c, by rw [h2, List.length_map, hm], h3.old, h1⟩
  have cTu : ∀ W, Below w.heap.size w W → Calls Tryz.prog 9 #[.slice S m cp] W fun e w' => ∃ A c, e = .returned (.tuple #[.slice A m c, .int .i64 0]) ∧ m ≤ c ∧ c ≤ 9223372036854775807 ∧ SetIn w' w'.heap.size A (s.map turT) ∧ Below W.heap.size W w' := fun W hb => (turS_ok s S m cp W hm (hS.keep hb hb.size) hwf hvl).mono fun e w' ⟨h1, A, c, h2, h4, h5, h3⟩ => ⟨A, c, by rw [h2, List.length_map, hm], by rw [List.length_map] at h4; omega, by simpa [maxLen] using h5, h3.old, h1⟩
  have cB : ∀ W (l : List Int) A k c, Below w.heap.size w W → k = l.length → k ≤ 1000 → IntsIn w w.heap.size A l → Calls Tryz.prog 10 #[.slice A k c] W fun e w' => ∃ B e', e = .returned (.slice B k e') ∧ IntsIn w' w'.heap.size B l.reverse ∧ Below W.heap.size W w' ∧ ∀ p, B = some p → W.heap.size ≤ p.block := fun W l A k c hb h1 h2 h3 => back_any l A k c W h1 (by omega) (h3.keep hb hb.size)
  have cBn : ∀ W, Below w.heap.size w W → Calls Tryz.prog 10 #[.slice N nn nc] W fun e w' => ∃ B e', e = .returned (.slice B nn e') ∧ IntsIn w' w'.heap.size B d.n.reverse ∧ Below W.heap.size W w' ∧ ∀ p, B = some p → W.heap.size ≤ p.block := fun W hb => cB W d.n N nn nc hb hnn hnn9.1 hE.n
  have cBe : ∀ W, Below w.heap.size w W → Calls Tryz.prog 10 #[.slice E en ec] W fun e w' => ∃ B e', e = .returned (.slice B en e') ∧ IntsIn w' w'.heap.size B d.e.reverse ∧ Below W.heap.size W w' ∧ ∀ p, B = some p → W.heap.size ≤ p.block := fun W hb => cB W d.e E en ec hb hen hnn9.2.1 hE.e
  have cBs : ∀ W, Below w.heap.size w W → Calls Tryz.prog 10 #[.slice U un uc] W fun e w' => ∃ B e', e = .returned (.slice B un e') ∧ IntsIn w' w'.heap.size B d.s.reverse ∧ Below W.heap.size W w' ∧ ∀ p, B = some p → W.heap.size ≤ p.block := fun W hb => cB W d.s U un uc hb hun hnn9.2.2.1 hE.s
  have cBw : ∀ W, Below w.heap.size w W → Calls Tryz.prog 10 #[.slice V vn vc] W fun e w' => ∃ B e', e = .returned (.slice B vn e') ∧ IntsIn w' w'.heap.size B d.w.reverse ∧ Below W.heap.size W w' ∧ ∀ p, B = some p → W.heap.size ≤ p.block := fun W hb => cB W d.w V vn vc hb hvn hnn9.2.2.2 hE.w
  have cCm : ∀ W M mc A c A' c', Below w.heap.size w W → SetIn W W.heap.size M (s.map mirT) → IntsIn W W.heap.size A d.n.reverse → IntsIn W W.heap.size A' d.s.reverse → Calls Tryz.prog 6 #[.slice M m mc, .int .i64 (a : Int), .int .i64 (b : Int), .agg #[.slice A nn c, .slice V vn vc, .slice A' un c', .slice E en ec]] W fun e w' => e = .returned (.tuple #[.int .i64 v, .int .i64 f]) ∧ Below W.heap.size W w' := fun W M mc A c A' c' hb hM hA hA' => by
    have hh := count_any (s.map mirT) (mirD d) M m mc (a : Int) (b : Int) A V A' E c vc c' ec W (by rw [List.length_map]; exact hm) hM (twf_mir hwf) (by omega) (by simp only [mirD, rev_len]; exact hn) hv (by simp only [mirD, rev_len]; exact hu) he ⟨hA, hE.w.keep hb hb.size, hA', hE.e.keep hb hb.size⟩
    rw [hres (s.map mirT) a b (mirD d) (by rw [faultE_iff]; simp only [mirD, rev_len]; exact ⟨vld_map (g := mirT) okt_mir (fun _ => rfl) hvl, by omega, by omega, by omega, by omega, by omega⟩) (by rw [List.length_map]; exact htm') (by rw [countE_mirror s a b d ha1 hb1' hok]; exact hn'.symm)] at hh
    simp only [mirD, rev_len] at hh
    rw [hen, hun, hvn, hnn]
    exact hh
  have cCu : ∀ W M mc A c A' c', Below w.heap.size w W → SetIn W W.heap.size M (s.map upT) → IntsIn W W.heap.size A d.e.reverse → IntsIn W W.heap.size A' d.w.reverse → Calls Tryz.prog 6 #[.slice M m mc, .int .i64 (a : Int), .int .i64 (b : Int), .agg #[.slice U un uc, .slice A en c, .slice N nn nc, .slice A' vn c']] W fun e w' => e = .returned (.tuple #[.int .i64 v, .int .i64 f]) ∧ Below W.heap.size W w' := fun W M mc A c A' c' hb hM hA hA' => by
    have hh := count_any (s.map upT) (upD d) M m mc (a : Int) (b : Int) U A N A' uc c nc c' W (by rw [List.length_map]; exact hm) hM (twf_up hwf) (by omega) hu (by simp only [upD, rev_len]; exact he) hn (by simp only [upD, rev_len]; exact hv) ⟨hE.s.keep hb hb.size, hA, hE.n.keep hb hb.size, hA'⟩
    rw [hres (s.map upT) a b (upD d) (by rw [faultE_iff]; simp only [upD, rev_len]; exact ⟨vld_map (g := upT) okt_up (fun _ => rfl) hvl, by omega, by omega, by omega, by omega, by omega⟩) (by rw [List.length_map]; exact htm') (by rw [countE_up s a b d ha1 hb1' hok]; exact hn'.symm)] at hh
    simp only [upD, rev_len] at hh
    rw [hen, hun, hvn, hnn]
    exact hh
  obtain ⟨sc, hsc⟩ : ∃ sc, sc = smallB (s.map turT) (b : Int) (a : Int) vn nn en un := ⟨_, rfl⟩
  have cSt : ∀ W M mc A c A' c', Below w.heap.size w W → m ≤ mc → mc ≤ 9223372036854775807 → SetIn W W.heap.size M (s.map turT) → Calls Tryz.prog 4 #[.slice M m mc, .int .i64 (b : Int), .int .i64 (a : Int), .agg #[.slice V vn vc, .slice A nn c, .slice E en ec, .slice A' un c']] W fun e w' => e = .returned (.bool sc) ∧ Below W.heap.size W w' := fun W M mc A c A' c' hb h1 h2 hM => by
    have hh := small_any (s.map turT) M m mc (b : Int) (a : Int) V A E A' vn nn en un vc c ec c' W (by rw [List.length_map]; exact hm) h1 h2 hM (twf_tur hwf) (by omega) (by omega) (by omega) (by omega) (by omega)
    rw [← hsc] at hh
    exact hh
  have cC3 : sc = true → ∀ W M mc A c A' c', Below w.heap.size w W → SetIn W W.heap.size M (s.map turT) → IntsIn W W.heap.size A d.n.reverse → IntsIn W W.heap.size A' d.s.reverse → Calls Tryz.prog 6 #[.slice M m mc, .int .i64 (b : Int), .int .i64 (a : Int), .agg #[.slice V vn vc, .slice A nn c, .slice E en ec, .slice A' un c']] W fun e w' => e = .returned (.tuple #[.int .i64 v, .int .i64 f]) ∧ Below W.heap.size W w' := fun h0 W M mc A c A' c' hb hM hA hA' => by
    obtain ⟨-, hf2, htm2, -⟩ := smallB_iff.1 (hsc.symm.trans h0)
    have hh := count_any (s.map turT) (turD d) M m mc (b : Int) (a : Int) V A E A' vc c ec c' W (by rw [List.length_map]; exact hm) hM (twf_tur hwf) (by omega) hv (by simp only [turD, rev_len]; exact hn) he (by simp only [turD, rev_len]; exact hu) ⟨hE.w.keep hb hb.size, hA, hE.e.keep hb hb.size, hA'⟩
    rw [hres (s.map turT) b a (turD d) (by simp only [turD, rev_len]; rw [← hnn, ← hen, ← hun, ← hvn]; exact hf2) (by simpa using htm2) (by rw [countE_turn s a b d ha1 hb1' hok]; exact hn'.symm)] at hh
    simp only [turD, rev_len] at hh
    rw [hen, hun, hvn, hnn]
    exact hh
  have CSM := Lib.hid cSm
  clear hm hS hwf hE hEnv hblk1 hb1 hW1 hsb hen hun hvn hnn hwide hf htm hhv hvl hrng hsn hsu hsv hse hf0 hok hn' hcr hres htm' cB hsc hn he hu hv cSm
  go_enter Tryz.func3, Tryz.ntmps3
  go_wp2_with fail
  rw [← HW1.out]
  refine (CSM.out _ HB1.out).mono ?_
  rintro e2 w2 ⟨rfl, hb2⟩
  have hb02 : Below w.heap.size w w2 := HB1.out.trans (hb2.mono HB1.out.size)
  have r2 := (hb2.block w.heap.size hz1).trans HBK.out
  obtain ⟨r20, r21, r22, r23, -⟩ := zc4 r2
  have R2 := Lib.hid r2
  clear r2
  go_wp2_with fail
  refine (cCt _ hb02).mono ?_
  rintro e4 w4 ⟨rfl, hb4⟩
  clear r20 r21 r22 r23
  have hb04 : Below w.heap.size w w4 := hb02.trans (hb4.mono hb02.size)
  go_wp2_with fail
  refine (cMi _ hb04).mono ?_
  rintro e5 w5 ⟨MA, mc, rfl, hMA, hb5⟩
  have hb05 : Below w.heap.size w w5 := hb04.trans (hb5.mono hb04.size)
  go_wp2_with fail
  refine (cUp _ hb05).mono ?_
  rintro e6 w6 ⟨UA, uc', rfl, hUA, hb6⟩
  have hb06 : Below w.heap.size w w6 := hb05.trans (hb6.mono hb05.size)
  go_wp2_with fail
  refine (cTu _ hb06).mono ?_
  rintro e7 w7 ⟨TA, tc, rfl, htc, htc9, hTA, hb7⟩
  have hb07 : Below w.heap.size w w7 := hb06.trans (hb7.mono hb06.size)
  have hz2 : w.heap.size < w2.heap.size := (Array.getElem?_eq_some_iff.1 R2.out).1
  have h4s := hb4.size
  have h5s := hb5.size
  have h6s := hb6.size
  have h7s := hb7.size
  have r7 : w7.heap[w.heap.size]? = _ := (hb7.block w.heap.size (by omega)).trans ((hb6.block w.heap.size (by omega)).trans ((hb5.block w.heap.size (by omega)).trans ((hb4.block w.heap.size (by omega)).trans R2.out)))
  have HMA := Lib.hid ((hMA.keep hb6 hb6.size).keep hb7 hb7.size)
  have HUA := Lib.hid (hUA.keep hb7 hb7.size)
  have HTA := Lib.hid hTA
  have HB07 := Lib.hid hb07
  have R7 := Lib.hid r7
  have hz7 : w.heap.size < w7.heap.size := by omega
  clear r7 hMA hUA hTA hb2 hb4 hb5 hb6 hb7 hb02 hb04 hb05 hb06 hb07 h4s h5s h6s h7s hz2 R2
  have k0 : ∀ w', Below w7.heap.size w7 w' → w'.cell? ⟨w.heap.size, 0, none⟩ = some (.slice N nn nc) := fun w' h => (h.cell (p := ⟨w.heap.size, 0, none⟩) hz7).trans (zc4 R7.out).1
  have k1 : ∀ w', Below w7.heap.size w7 w' → w'.cell? ⟨w.heap.size, 1, none⟩ = some (.slice E en ec) := fun w' h => (h.cell (p := ⟨w.heap.size, 1, none⟩) hz7).trans (zc4 R7.out).2.1
  have k2 : ∀ w', Below w7.heap.size w7 w' → w'.cell? ⟨w.heap.size, 2, none⟩ = some (.slice U un uc) := fun w' h => (h.cell (p := ⟨w.heap.size, 2, none⟩) hz7).trans (zc4 R7.out).2.2.1
  have k3 : ∀ w', Below w7.heap.size w7 w' → w'.cell? ⟨w.heap.size, 3, none⟩ = some (.slice V vn vc) := fun w' h => (h.cell (p := ⟨w.heap.size, 3, none⟩) hz7).trans (zc4 R7.out).2.2.2.1
  have hS0 : Below w7.heap.size w7 w7 := Below.refl _ _
  have hd0 : Below w7.heap.size w7 w7.drew := hS0.drew
  go_wp2_with fail
  go_region_held3 (fun w' => Below w7.heap.size w7 w') (first | (with_reducible assumption) | (with_reducible exact hd0))
    (first
    | ((go_at_call 10); (with_reducible refine (cBn _ ?_).mono ?_); (focus (refine HB07.out.trans (Below.mono ?_ HB07.out.size); (first | with_reducible assumption | with_reducible exact hd0 | (with_reducible refine be_alloc ?_ _; first | with_reducible assumption | with_reducible exact hd0)))); rintro e x1 ⟨Bx1, cx1, rfl, hIx1, hbx1, hax1⟩; (refine have_then (P := Below w7.heap.size w7 x1) ?_ ?_; (focus (refine Below.trans ?_ (Below.mono hbx1 (Below.size (B := w7.heap.size) ?_)) <;> (first | with_reducible assumption | with_reducible exact hd0 | (with_reducible refine be_alloc ?_ _; first | with_reducible assumption | with_reducible exact hd0)))); intro hsx1))
    | ((go_at_call 10); (with_reducible refine (cBs _ ?_).mono ?_); (focus (refine HB07.out.trans (Below.mono ?_ HB07.out.size); (first | with_reducible assumption | with_reducible exact hd0 | (with_reducible refine be_alloc ?_ _; first | with_reducible assumption | with_reducible exact hd0)))); rintro e x2 ⟨Bx2, cx2, rfl, hIx2, hbx2, hax2⟩; (refine have_then (P := Below w7.heap.size w7 x2) ?_ ?_; (focus (refine Below.trans ?_ (Below.mono hbx2 (Below.size (B := w7.heap.size) ?_)) <;> (first | with_reducible assumption | with_reducible exact hd0 | (with_reducible refine be_alloc ?_ _; first | with_reducible assumption | with_reducible exact hd0)))); intro hsx2); (refine have_then (P := IntsIn x2 x2.heap.size Bx1 d.n.reverse) ?_ ?_; (focus (first | exact hIx1.keep hbx2 hbx2.size | exact (hIx1.keep (be_alloc (Below.refl _ _) _) (be_alloc (Below.refl _ _) _).size).keep hbx2 hbx2.size)); intro hI12))
    | ((go_at_call 6); (with_reducible refine (cCm _ MA _ _ _ _ _ (HB07.out.trans (Below.mono hsx2 HB07.out.size)) (HMA.out.keep hsx2 hsx2.size) hI12 hIx2).mono ?_); rintro e w8 ⟨rfl, hbc⟩; have hs8 : Below w7.heap.size w7 w8 := hsx2.trans (hbc.mono hsx2.size))
    | fail)
  have r8 : w8.heap[w.heap.size]? = _ := (hs8.block w.heap.size hz7).trans R7.out
  have HMA8 := Lib.hid (HMA.out.keep hs8 hs8.size)
  have HUA8 := Lib.hid (HUA.out.keep hs8 hs8.size)
  have HTA8 := Lib.hid (HTA.out.keep hs8 hs8.size)
  have HB08 := Lib.hid (HB07.out.trans (hs8.mono HB07.out.size))
  have R8 := Lib.hid r8
  have hz8 : w.heap.size < w8.heap.size := Nat.lt_of_lt_of_le hz7 hs8.size
  clear HMA HUA HTA
  have HMA := HMA8
  have HUA := HUA8
  have HTA := HTA8
  clear HMA8 HUA8 HTA8 r8 hIx1 hIx2 hI12 hbx1 hbx2 hsx1 hsx2 hax1 hax2 k0 k1 k2 k3 hS0 hd0 R7 HB07
  have k0 : ∀ w', Below w8.heap.size w8 w' → w'.cell? ⟨w.heap.size, 0, none⟩ = some (.slice N nn nc) := fun w' h => (h.cell (p := ⟨w.heap.size, 0, none⟩) hz8).trans (zc4 R8.out).1
  have k1 : ∀ w', Below w8.heap.size w8 w' → w'.cell? ⟨w.heap.size, 1, none⟩ = some (.slice E en ec) := fun w' h => (h.cell (p := ⟨w.heap.size, 1, none⟩) hz8).trans (zc4 R8.out).2.1
  have k2 : ∀ w', Below w8.heap.size w8 w' → w'.cell? ⟨w.heap.size, 2, none⟩ = some (.slice U un uc) := fun w' h => (h.cell (p := ⟨w.heap.size, 2, none⟩) hz8).trans (zc4 R8.out).2.2.1
  have k3 : ∀ w', Below w8.heap.size w8 w' → w'.cell? ⟨w.heap.size, 3, none⟩ = some (.slice V vn vc) := fun w' h => (h.cell (p := ⟨w.heap.size, 3, none⟩) hz8).trans (zc4 R8.out).2.2.2.1
  have hS0 : Below w8.heap.size w8 w8 := Below.refl _ _
  have hd0 : Below w8.heap.size w8 w8.drew := hS0.drew
  go_wp2_with fail
  go_region_held3 (fun w' => Below w8.heap.size w8 w') (first | (with_reducible assumption) | (with_reducible exact hd0))
    (first
    | ((go_at_call 10); (with_reducible refine (cBe _ ?_).mono ?_); (focus (refine HB08.out.trans (Below.mono ?_ HB08.out.size); (first | with_reducible assumption | with_reducible exact hd0 | (with_reducible refine be_alloc ?_ _; first | with_reducible assumption | with_reducible exact hd0)))); rintro e x1 ⟨Bx1, cx1, rfl, hIx1, hbx1, hax1⟩; (refine have_then (P := Below w8.heap.size w8 x1) ?_ ?_; (focus (refine Below.trans ?_ (Below.mono hbx1 (Below.size (B := w8.heap.size) ?_)) <;> (first | with_reducible assumption | with_reducible exact hd0 | (with_reducible refine be_alloc ?_ _; first | with_reducible assumption | with_reducible exact hd0)))); intro hsx1))
    | ((go_at_call 10); (with_reducible refine (cBw _ ?_).mono ?_); (focus (refine HB08.out.trans (Below.mono ?_ HB08.out.size); (first | with_reducible assumption | with_reducible exact hd0 | (with_reducible refine be_alloc ?_ _; first | with_reducible assumption | with_reducible exact hd0)))); rintro e x2 ⟨Bx2, cx2, rfl, hIx2, hbx2, hax2⟩; (refine have_then (P := Below w8.heap.size w8 x2) ?_ ?_; (focus (refine Below.trans ?_ (Below.mono hbx2 (Below.size (B := w8.heap.size) ?_)) <;> (first | with_reducible assumption | with_reducible exact hd0 | (with_reducible refine be_alloc ?_ _; first | with_reducible assumption | with_reducible exact hd0)))); intro hsx2); (refine have_then (P := IntsIn x2 x2.heap.size Bx1 d.e.reverse) ?_ ?_; (focus (first | exact hIx1.keep hbx2 hbx2.size | exact (hIx1.keep (be_alloc (Below.refl _ _) _) (be_alloc (Below.refl _ _) _).size).keep hbx2 hbx2.size)); intro hI12))
    | ((go_at_call 6); (with_reducible refine (cCu _ UA _ _ _ _ _ (HB08.out.trans (Below.mono hsx2 HB08.out.size)) (HUA.out.keep hsx2 hsx2.size) hI12 hIx2).mono ?_); rintro e w9 ⟨rfl, hbc⟩; have hs9 : Below w8.heap.size w8 w9 := hsx2.trans (hbc.mono hsx2.size))
    | fail)
  have r9 : w9.heap[w.heap.size]? = _ := (hs9.block w.heap.size hz8).trans R8.out
  have HMA9 := Lib.hid (HMA.out.keep hs9 hs9.size)
  have HUA9 := Lib.hid (HUA.out.keep hs9 hs9.size)
  have HTA9 := Lib.hid (HTA.out.keep hs9 hs9.size)
  have HB09 := Lib.hid (HB08.out.trans (hs9.mono HB08.out.size))
  have R9 := Lib.hid r9
  have hz9 : w.heap.size < w9.heap.size := Nat.lt_of_lt_of_le hz8 hs9.size
  clear HMA HUA HTA
  have HMA := HMA9
  have HUA := HUA9
  have HTA := HTA9
  clear HMA9 HUA9 HTA9 r9 hIx1 hIx2 hI12 hbx1 hbx2 hsx1 hsx2 hax1 hax2 k0 k1 k2 k3 hS0 hd0 R8 HB08
  have k0 : ∀ w', Below w9.heap.size w9 w' → w'.cell? ⟨w.heap.size, 0, none⟩ = some (.slice N nn nc) := fun w' h => (h.cell (p := ⟨w.heap.size, 0, none⟩) hz9).trans (zc4 R9.out).1
  have k1 : ∀ w', Below w9.heap.size w9 w' → w'.cell? ⟨w.heap.size, 1, none⟩ = some (.slice E en ec) := fun w' h => (h.cell (p := ⟨w.heap.size, 1, none⟩) hz9).trans (zc4 R9.out).2.1
  have k2 : ∀ w', Below w9.heap.size w9 w' → w'.cell? ⟨w.heap.size, 2, none⟩ = some (.slice U un uc) := fun w' h => (h.cell (p := ⟨w.heap.size, 2, none⟩) hz9).trans (zc4 R9.out).2.2.1
  have k3 : ∀ w', Below w9.heap.size w9 w' → w'.cell? ⟨w.heap.size, 3, none⟩ = some (.slice V vn vc) := fun w' h => (h.cell (p := ⟨w.heap.size, 3, none⟩) hz9).trans (zc4 R9.out).2.2.2.1
  have hS0 : Below w9.heap.size w9 w9 := Below.refl _ _
  have hd0 : Below w9.heap.size w9 w9.drew := hS0.drew
  go_wp2_with fail
  go_cut [19] from 21 (fun p wx => ∃ (q : Nat) (A A' : Option Addr) (c c' : Nat), p = .pointer (some ⟨q, 0, none⟩) ∧ Hid (wx.heap[q]? = some (.cells #[.slice V vn vc, .slice A nn c, .slice E en ec, .slice A' un c'] 25 (0, 0))) ∧ Hid (IntsIn wx wx.heap.size A d.n.reverse) ∧ Hid (IntsIn wx wx.heap.size A' d.s.reverse) ∧ Hid (Below w9.heap.size w9 wx))
  case first =>
    go_region_held3 (fun w' => Below w9.heap.size w9 w') (first | (with_reducible assumption) | (with_reducible exact hd0) | ((with_reducible refine be_alloc ?_ _); (with_reducible assumption)) | ((with_reducible refine Below.drew ?_); (with_reducible assumption)) | (with_reducible exact (be_alloc hS0 _).drew) | (with_reducible exact be_alloc hd0 _) | ((with_reducible refine Below.drew ?_); (with_reducible refine be_alloc ?_ _); (with_reducible assumption)) | ((with_reducible refine below_set4 ?_ ?_) <;> first | (with_reducible assumption) | (with_reducible exact Nat.le_refl _) | (have := hsx1.size; omega)))
    (first
    | ((go_at_call 10); (with_reducible refine (cBn _ ?_).mono ?_); (focus (refine HB09.out.trans (Below.mono ?_ HB09.out.size); (first | with_reducible assumption | with_reducible exact hd0 | (with_reducible refine be_alloc ?_ _; first | with_reducible assumption | with_reducible exact hd0)))); rintro e x1 ⟨Bx1, cx1, rfl, hIx1, hbx1, hax1⟩; (refine have_then (P := Below w9.heap.size w9 x1) ?_ ?_; (focus (refine Below.trans ?_ (Below.mono hbx1 (Below.size (B := w9.heap.size) ?_)) <;> (first | with_reducible assumption | with_reducible exact hd0 | (with_reducible refine be_alloc ?_ _; first | with_reducible assumption | with_reducible exact hd0)))); intro hsx1); (first | (refine have_then (P := x1.heap[w9.heap.size]? = some (.cells #[.slice none 0 0, .slice none 0 0, .slice none 0 0, .slice none 0 0] 25 (0, 0))) ?_ ?_; (focus (exact (hbx1.block _ (by simp)).trans (heap_at _ _ _ rfl))); intro zq) | (have zq : True := trivial)))
    | ((go_at_call 10); (with_reducible refine (cBs _ ?_).mono ?_); (focus (refine HB09.out.trans (Below.mono ?_ HB09.out.size); (first | with_reducible assumption | with_reducible exact hd0 | (with_reducible refine be_alloc ?_ _; first | with_reducible assumption | with_reducible exact hd0)))); rintro e x2 ⟨Bx2, cx2, rfl, hIx2, hbx2, hax2⟩; (refine have_then (P := Below w9.heap.size w9 x2) ?_ ?_; (focus (refine Below.trans ?_ (Below.mono hbx2 (Below.size (B := w9.heap.size) ?_)) <;> (first | with_reducible assumption | with_reducible exact hd0 | (with_reducible refine be_alloc ?_ _; first | with_reducible assumption | with_reducible exact hd0)))); intro hsx2); (refine have_then (P := IntsIn x2 x2.heap.size Bx1 d.n.reverse) ?_ ?_; (focus (first | exact hIx1.keep hbx2 hbx2.size | exact (hIx1.keep (be_alloc (Below.refl _ _) _) (be_alloc (Below.refl _ _) _).size).keep hbx2 hbx2.size)); intro hI12); (first | (refine have_then (P := x2.heap[w9.heap.size]? = some (.cells #[.slice none 0 0, .slice none 0 0, .slice none 0 0, .slice none 0 0] 25 (0, 0))) ?_ ?_; (focus (exact (hbx2.block _ (Array.getElem?_eq_some_iff.1 zq).1).trans zq)); intro zq2; obtain ⟨zs0, zs1, zs2, zs3, zsf⟩ := zc4 zq2; have zf0 := zsf 0; have zf1 := zsf 1; have zf2 := zsf 2; have zf3 := zsf 3) | (refine have_then (P := x2.heap[x1.heap.size]? = some (.cells #[.slice none 0 0, .slice none 0 0, .slice none 0 0, .slice none 0 0] 25 (0, 0))) ?_ ?_; (focus (exact (hbx2.block _ (by simp)).trans (heap_at _ _ _ rfl))); intro zq2; obtain ⟨zs0, zs1, zs2, zs3, zsf⟩ := zc4 zq2; have zf0 := zsf 0; have zf1 := zsf 1; have zf2 := zsf 2; have zf3 := zsf 3) | (have zq2 : True := trivial)))
    | fail
    | fail)
    all_goals
      go_wp2_with fail
      go_meet
      first
        | exact ⟨_, _, _, _, _, rfl, four_sets zq2, hI12.set4 _ _ _ _ (by first | (intro _ p hp; have h1 := hax1 p hp; have h2 : w9.heap.size + 1 ≤ p.block := (by simpa [heap_drew'] using h1); omega) | (intro hn p hp; obtain ⟨b', off, hA, hlt, -⟩ := hIx1 hn; rw [hA] at hp; cases hp; show b' ≠ _; omega)), hIx2.set4 _ _ _ _ (by first | (intro _ p hp; have h1 := hax2 p hp; have h2 := hsx1.size; have h3 : x1.heap.size + 1 ≤ p.block := (by simpa [heap_drew'] using h1); omega) | (intro _ p hp; have h1 := hax2 p hp; have h2 := hbx1.size; have h3 : w9.heap.size + 1 ≤ x1.heap.size := (by simpa [heap_drew'] using h2); omega)), below_set4 hsx2 (by first | exact Nat.le_refl _ | (have := hsx1.size; omega))⟩
        | exact ⟨_, _, _, _, _, rfl, heap_at _ _ _ rfl, (hI12.keep (be_alloc (Below.refl _ _) _) (be_alloc (Below.refl _ _) _).size), (hIx2.keep (be_alloc (Below.refl _ _) _) (be_alloc (Below.refl _ _) _).size), be_alloc hsx2 _⟩
  case rest =>
    obtain ⟨q, A1, A2, c1, c2, rfl, HQ, HI1, HI2, HBx⟩ := hcut
    obtain ⟨w10, rfl⟩ : ∃ W : World, W = wc := ⟨_, rfl⟩
    have hb010 : Below w.heap.size w w10 := HB09.out.trans (HBx.out.mono HB09.out.size)
    have hT10 := HTA.out.keep HBx.out HBx.out.size
    obtain ⟨z0, z1, z2, z3, -⟩ := zc4 HQ.out
    have hq10 : q < w10.heap.size := (Array.getElem?_eq_some_iff.1 HQ.out).1
    have HB010 := Lib.hid hb010
    have HT10 := Lib.hid hT10
    clear hb010 hT10 k0 k1 k2 k3 hS0 hd0
    go_wp2_with fail
    refine (cSt _ TA tc A1 c1 A2 c2 HB010.out htc htc9 HT10.out).mono ?_
    rintro e11 w11 ⟨rfl, hb11⟩
    have hb011 : Below w.heap.size w w11 := HB010.out.trans (hb11.mono HB010.out.size)
    have q11 := (hb11.block q hq10).trans HQ.out
    have hT11 := Lib.hid (HT10.out.keep hb11 hb11.size)
    have hI1 := Lib.hid (HI1.out.keep hb11 hb11.size)
    have hI2 := Lib.hid (HI2.out.keep hb11 hb11.size)
    have HB011 := Lib.hid hb011
    clear z0 z1 z2 z3 hb011 hb11
    cases sc
    · clear q11
      go_wp2_with fail
      refine (cAw _ HB011.out).mono ?_
      rintro e12 w12 ⟨rfl, hb12⟩
      go_wp2_with fail
      go_ret
      exact ⟨rfl, HB011.out.trans (hb12.mono HB011.out.size)⟩
    · obtain ⟨z0, z1, z2, z3, -⟩ := zc4 q11
      clear q11
      go_wp2_with fail
      refine (cC3 trivial _ TA tc A1 c1 A2 c2 HB011.out hT11.out hI1.out hI2.out).mono ?_
      rintro e12 w12 ⟨rfl, hb12⟩
      have hb012 : Below w.heap.size w w12 := HB011.out.trans (hb12.mono HB011.out.size)
      have HB012 := Lib.hid hb012
      clear z0 z1 z2 z3 hb12 hb012
      go_wp2_with fail
      refine (cAw _ HB012.out).mono ?_
      rintro e13 w13 ⟨rfl, hb13⟩
      go_wp2_with fail
      go_ret
      exact ⟨rfl, HB012.out.trans (hb13.mono HB012.out.size)⟩
end Go.Proofs.YtloodijkfoinnaaGreatDoor
