/-
  groutworkref01: digits, Text.
-/
import Derived.Test.YtmmpdniafmhjpaaDoorRs
import Derived.Test.YtmmpdniafmhjpaaDoorRt
import Derived.Deep.RegionHeld3
import Derived.Lib.AppendStr
namespace Go.Proofs.YtmmpdniafmhjpaaDoor
open Go.RowKit Go.Maps Go.Sort
set_option linter.unusedVariables false
set_option maxRecDepth 100000

def dg (u : Nat) : ByteArray := ⟨(Lib.decDigits u).toArray⟩
def lastD (u : Nat) : ByteArray := ⟨#[UInt8.ofNat (48 + u % 10)]⟩
theorem conv_digit (u : Nat) (W : World) (t : TypeId) : (convert 73 9 (.slice (some ⟨W.heap.size, 0, none⟩) 1 1)).run Tryd.prog (W.alloc (.cells #[.int .u8 (48 + (u : Int) % 10)] t)) = .ok (.string (lastD u)) (W.alloc (.cells #[.int .u8 (48 + (u : Int) % 10)] t)) := by
  have h := run_convert_bytes_back (P := Tryd.prog) (W.alloc (.cells #[.int .u8 (48 + (u : Int) % 10)] t)) 73 9 5 ⟨W.heap.size, 0, none⟩ 1 [UInt8.ofNat (48 + u % 10)] Tryd.underlying73 Tryd.underlying5 Tryd.underlying9 (fun j hj => by
    match j, hj with
    | 0, _ =>
      have e : ((⟨W.heap.size, 0, none⟩ : Addr).add 0) = ⟨W.heap.size, 0, none⟩ := rfl
      rw [e, World.cell?_alloc_new]
      have e2 : (UInt8.ofNat (48 + u % 10)).toNat = 48 + u % 10 := by simp; omega
      simp only [List.getElem_cons_zero, e2]
      congr 1)
  exact h
theorem dg_small {u : Nat} (h : u < 10) : dg u = lastD u := by
  unfold dg lastD
  rw [Lib.decDigits_one h, Nat.mod_eq_of_lt h]
theorem dg_big {u : Nat} (h : ¬ u < 10) : dg u = dg (u / 10) ++ lastD u := by
  refine bytes_inj ?_
  rw [ByteArray.toList_eq, ByteArray.toList_eq]
  unfold dg lastD
  rw [ByteArray.data_append]
  conv => lhs; rw [Lib.decDigits, dif_neg h]
  simp
theorem dg_len (u : Nat) (h : u ≤ 9223372036854775807) : (dg u).size ≤ 21 := by
  have h1 := Lib.itoa_length_le (u : Int) (by omega) (by omega)
  unfold Lib.itoa at h1
  rw [if_neg (by omega), Int.toNat_natCast] at h1
  rw [size_list]
  simpa [dg] using h1
set_option maxHeartbeats 2000000 in
theorem digits_any (u : Nat) : u ≤ 9223372036854775807 → ∀ w : World, Calls Tryd.prog 53 #[.int .i64 (u : Int)] w fun e w' => e = .returned (.string (dg u)) ∧ Below w.heap.size w w' := by
  induction u using Nat.strongRecOn with
  | _ u ih =>
    intro hu w
    by_cases h : u < 10
    · have hd := Lib.hid (dg_small h)
      have hcv := conv_digit u w
      go_enter Tryd.func53, Tryd.ntmps53
      go_wp2
      go_ret
      exact ⟨by rw [hd.out]; rfl, (Below.refl _ _).alloc (Nat.le_refl _) _⟩
    · have hd := Lib.hid (dg_big h)
      have hcv := conv_digit u w
      have hih := ih (u / 10) (by omega) (by omega)
      have e : (u : Int) / 10 = ((u / 10 : Nat) : Int) := by omega
      have hsz : ¬ 9223372036854775807 < (dg (u / 10)).size + (lastD u).size := by
        have h1 := dg_len (u / 10) (by omega)
        have h2 : (lastD u).size = 1 := rfl
        omega
      have hq : ∀ W : World, (Op.intDiv .quo .i64 (u : Int) 10).run Tryd.prog W = .ok (.int .i64 ((u / 10 : Nat) : Int)) W := fun W => by
        unfold Op.intDiv
        simp [go_sem, Int.tdiv_eq_ediv_of_nonneg]
        rw [IntKind.wrap_i64]
        omega
      clear ih e
      go_enter Tryd.func53, Tryd.ntmps53
      go_wp2_with (go_at_call 53; refine (hih _).mono ?_; rintro e w2 ⟨rfl, hb2⟩)
      go_ret
      exact ⟨by rw [hd.out]; rfl, ((Below.refl _ _).alloc (Nat.le_refl _) _).trans (hb2.mono (by simp))⟩

section
variable {P : Program}
/-- append of a string to a row of the call's own, as one step of a region that draws its order -/
theorem step_append_str {ops : Array Oper} {o : Oper} {a : Act} {w : World} {K : Act → World → Prop} {Q : Exit → Act → World → Prop} {E : Prop} (hg : o.guard = none) (sl x : Operand) (t u : TypeId)
    (hop : o.op = Op.call { callee := Callee.builtin Builtin.append, args := #[sl, x], argTypes := #[t, u] })
    (base : Nat) (e : TypeId) (i : TypeInfo) (ht : P.underlying t = some (.slice e)) (hu : P.underlying u = some .string) (hi : P.info? e = some i) (hz : i.zero = some (.int .u8 0)) (hsize : i.size = 1) (hby : i.bytes = 1)
    (v : Value) (n : Nat) (xs : List Value) (hs : a.eval sl = v) (hown : w.ownsRow base e 1 v n xs) (s : ByteArray) (hx : a.eval x = .string s)
    (h63 : n + s.size ≤ maxLen) (hbytes : n + s.size ≤ 140737488355328) (hbase : base ≤ w.heap.size)
    (hK : ∀ v' w', w'.ownsRow base e 1 v' (n + s.size) (xs ++ Lib.strCells s) → w.grownBy w' v.ownBlock → K (a.put o.dst v') w') :
    if Region.wanted o (yielded ops a.tmps) = true then Oper.wp P o a w K Q else E := by
  have hw : Region.wanted o (yielded ops a.tmps) = true := by simp [Region.wanted, hg]
  rw [if_pos hw]
  obtain ⟨v', w', hr, h2, h3, _⟩ := Lib.run_append_own_string (P := P) w base t u o.type e i ht hu hi hz hsize hby v n xs hown s h63 hbytes hbase
  unfold Oper.wp
  simp [execOp, hop, resolve, invoke, builtin, hs, hx, hr, Result.andThen]
  exact hK v' w' h2 h3
end

/-- the text so far -/
def pre (s : List Tl) (k : Nat) : ByteArray := glue ((s.take k).map tText) 32
theorem join_snoc (c : UInt8) (x : List UInt8) (xs : List (List UInt8)) (y : List UInt8) : Lib.join (x :: xs ++ [y]) [c] = Lib.join (x :: xs) [c] ++ (c :: y) := by
  rw [List.cons_append, Lib.join_cons, Lib.join_cons]
  simp [Lib.joinTail]
theorem pre_zero (s : List Tl) : pre s 0 = ⟨#[]⟩ := rfl
theorem pre_one (s : List Tl) (h : 0 < s.length) : pre s 1 = tText (s.getD 0 ⟨0, 0, 0, 0⟩) := by
  refine bytes_inj ?_
  rw [ByteArray.toList_eq, ByteArray.toList_eq]
  unfold pre
  rw [glue_data, take_snoc s 0 h ⟨0, 0, 0, 0⟩]
  simp [Lib.join_one]
theorem pre_succ (s : List Tl) (k : Nat) (h0 : 0 < k) (hk : k < s.length) : pre s (k + 1) = pre s k ++ ⟨#[32]⟩ ++ tText (s.getD k ⟨0, 0, 0, 0⟩) := by
  refine bytes_inj ?_
  rw [ByteArray.toList_eq, ByteArray.toList_eq]
  unfold pre
  rw [glue_data, take_snoc s k hk ⟨0, 0, 0, 0⟩, ByteArray.data_append, ByteArray.data_append]
  obtain ⟨x, r, hxr⟩ := List.exists_cons_of_ne_nil (l := (s.take k).map tText) (by
    intro e
    rw [List.map_eq_nil_iff] at e
    have := congrArg List.length e
    rw [List.length_take, List.length_nil] at this
    omega)
  rw [List.map_append, hxr, List.map_append, List.map_cons, List.map_cons, List.map_nil, List.map_cons, List.map_nil, join_snoc]
  simp [glue]
theorem pre_all (s : List Tl) (k : Nat) (hk : s.length ≤ k) : pre s k = sText s := by unfold pre sText; rw [List.take_of_length_le hk]
theorem dec_dg {n : Int} (h : 0 ≤ n) : dec n = dg n.toNat := by
  refine bytes_inj ?_
  rw [ByteArray.toList_eq, ByteArray.toList_eq, dec_nat h]
  simp [dg]
def dot : ByteArray := ⟨#[46]⟩
theorem tText_dots (t : Tl) : tText t = dec t.n ++ dot ++ dec t.e ++ dot ++ dec t.s ++ dot ++ dec t.w := by
  refine bytes_inj ?_
  rw [ByteArray.toList_eq, ByteArray.toList_eq]
  unfold tText tList
  rw [glue_data]
  simp [joined, Lib.join_one, ByteArray.data_append, dot]
theorem digits_dec {n : Int} (h : 0 ≤ n) (h1 : n < 1000) (w : World) : Calls Tryd.prog 53 #[.int .i64 n] w fun e w' => e = .returned (.string (dec n)) ∧ Below w.heap.size w w' := by
  have := digits_any n.toNat (by omega) w
  rw [← dec_dg h, Int.toNat_of_nonneg h] at this
  exact this
theorem dec_sz {n : Int} (h : 0 ≤ n) (h1 : n < 1000) : (dec n).size ≤ 21 := by rw [dec_dg h]; exact dg_len _ (by omega)
theorem pre_len (s : List Tl) (k : Nat) (hwf : ∀ t ∈ s, twf t) (hk : k ≤ 1000) : (pre s k).size ≤ 200000 := by
  rw [size_list]
  unfold pre
  rw [glue_data]
  have := glue_len ((s.take k).map tText) 32 100 (by
    intro x hx
    obtain ⟨t, ht, rfl⟩ := List.mem_map.1 hx
    exact tText_len (hwf t (List.mem_of_mem_take ht)))
  have h2 : ((s.take k).map tText).length ≤ 1000 := by simp; omega
  omega
theorem strCells_app (a b : ByteArray) : Lib.strCells a ++ Lib.strCells b = Lib.strCells (a ++ b) := by simp [Lib.strCells, ByteArray.data_append]
theorem byte_info : (Tryd.prog.info? 5).map (fun i => (i.zero, i.size, i.bytes)) = some (some (.int .u8 0), 1, 1) := by kernel_rfl

theorem sk_call {w w1 w2 : World} {b : Nat} {v0 v1 v2 v3 : Value} (h : Below w.heap.size w w1 ∧ w1.cell? ⟨b, 0, none⟩ = some v0 ∧ w1.cell? ⟨b, 1, none⟩ = some v1 ∧ w1.cell? ⟨b, 2, none⟩ = some v2 ∧ w1.cell? ⟨b, 3, none⟩ = some v3) (hb : Below w1.heap.size w1 w2) :
    Below w.heap.size w w2 ∧ w2.cell? ⟨b, 0, none⟩ = some v0 ∧ w2.cell? ⟨b, 1, none⟩ = some v1 ∧ w2.cell? ⟨b, 2, none⟩ = some v2 ∧ w2.cell? ⟨b, 3, none⟩ = some v3 := by
  obtain ⟨h, h0, h1, h2, h3⟩ := h
  exact ⟨h.trans (hb.mono h.size), cell_later hb h0, cell_later hb h1, cell_later hb h2, cell_later hb h3⟩
theorem sk_app {w w1 w2 : World} {b : Nat} {v0 v1 v2 v3 : Value} {row : Option Nat} (h : Below w.heap.size w w1 ∧ w1.cell? ⟨b, 0, none⟩ = some v0 ∧ w1.cell? ⟨b, 1, none⟩ = some v1 ∧ w1.cell? ⟨b, 2, none⟩ = some v2 ∧ w1.cell? ⟨b, 3, none⟩ = some v3) (hg : w1.grownBy w2 row)
    (hne : ∀ c, row = some c → c ≠ b) (hle : ∀ c, row = some c → w.heap.size ≤ c) :
    Below w.heap.size w w2 ∧ w2.cell? ⟨b, 0, none⟩ = some v0 ∧ w2.cell? ⟨b, 1, none⟩ = some v1 ∧ w2.cell? ⟨b, 2, none⟩ = some v2 ∧ w2.cell? ⟨b, 3, none⟩ = some v3 := by
  obtain ⟨h, h0, h1, h2, h3⟩ := h
  have hb := World.block_lt_of_cell? w1 _ h0
  have hk : w2.heap[b]? = w1.heap[b]? := hg.block b hb (fun e => hne b e.symm rfl)
  have c := fun (o : Nat) => World.cell?_of_block (w := w1) (w' := w2) (a := ⟨b, o, none⟩) hk
  exact ⟨h.grown hg h.size hle, (c 0).trans h0, (c 1).trans h1, (c 2).trans h2, (c 3).trans h3⟩
theorem sk_fst {w w1 : World} {X : Prop} (h : Below w.heap.size w w1 ∧ X) : Below w.heap.size w w1 := h.1
theorem conv_own {W : World} {base : Nat} {v : Value} {B : ByteArray} (h : W.ownsRow base 5 1 v B.size (Lib.strCells B)) : (convert 73 9 v).run Tryd.prog W = .ok (.string B) W := by
  rcases h.2 with ⟨rfl, h0⟩ | ⟨g, cap, cur, rfl, hb, hh, hnc, hm, hs, hx⟩
  · have e : B = ByteArray.empty := bytes_inj (by
      rw [ByteArray.toList_eq, ByteArray.toList_eq]
      have : B.data.toList = [] := List.eq_nil_of_length_eq_zero (by rw [← size_list]; exact h0)
      rw [this]; rfl)
    rw [run_convert_bytes_nil W 73 5 Tryd.underlying73 Tryd.underlying5 0 0 9 Tryd.underlying9, e]
  · have hr := run_convert_bytes_back (P := Tryd.prog) W 73 9 5 ⟨g, 0, none⟩ cap B.data.toList Tryd.underlying73 Tryd.underlying5 Tryd.underlying9 (fun j hj => by
      have e : ((⟨g, 0, none⟩ : Addr).add j) = ⟨g, j, none⟩ := by
        unfold Addr.add
        split
        · rename_i h; subst h; rfl
        · simp
      rw [e, h.cellAt j (by rw [Nat.mul_one, size_list]; exact hj)]
      simp [Lib.strCells, List.getElem?_eq_getElem hj])
    rw [← size_list] at hr
    exact hr
theorem sk_size {w w1 : World} {X : Prop} (h : Below w.heap.size w w1 ∧ X) : w.heap.size ≤ w1.heap.size := h.1.size

set_option maxHeartbeats 8000000 in
theorem rtext_any (s : List Tl) (A : Option Addr) (m c : Nat) (w : World) (hm : m = s.length) (hS : SetIn w w.heap.size A s) (hwf : ∀ t ∈ s, twf t) (hv : vld s = true) :
    Calls Tryd.prog 20 #[.slice A m c] w fun e w' => e = .returned (.string (sText s)) ∧ Below w.heap.size w w' := by
  have HM := Lib.hid hm
  have HS := Lib.hid hS
  have HW := Lib.hid hwf
  have hm1 : m ≤ 1000 := by rw [hm]; exact (vld_iff.1 hv).1
  have HOK : Hid (∀ t ∈ s, okt t = true) := (vld_iff.1 hv).2.1
  obtain ⟨i0, hi, hz0, hz1, hz2⟩ := info_parts byte_info
  clear hm hS hwf hv
  go_enter Tryd.func20, Tryd.ntmps20
  go_wp2
  go_loopw [3, 4] (fun v i wr => ∃ k : Nat, k ≤ m ∧ i = .int .i64 k ∧ wr.ownsRow w.heap.size 5 1 v (pre s k).size (Lib.strCells (pre s k)) ∧ Below w.heap.size w wr) (fun _ i _ => m - (intOf i).toNat)
  case atStart => exact ⟨0, Nat.zero_le _, rfl, World.ownsRow_nil w _ _ 1, Below.refl _ _⟩
  case round =>
    obtain ⟨k, hk, rfl, hown, hbr⟩ := hrel
    obtain ⟨wo, rfl⟩ : ∃ wo : World, wo = wr := ⟨_, rfl⟩
    by_cases hlt : k < m
    · have hkc : k < s.length := by rw [← HM.out]; exact hlt
      obtain ⟨t, ht⟩ : ∃ t, t = s.getD k ⟨0, 0, 0, 0⟩ := ⟨_, rfl⟩
      have htm : t ∈ s := ht ▸ getD_mem s k hkc _
      obtain ⟨⟨a0, a1⟩, ⟨b0, b1⟩, ⟨c0, c1⟩, ⟨d0, d1⟩⟩ := okt_range (HOK.out t htm)
      by_cases hk0 : 0 < k
      · have hpl := pre_len s k HW.out (by omega)
        have HPS : Hid (pre s (k + 1) = pre s k ++ ⟨#[32]⟩ ++ tText t) := by show _ = _; rw [ht]; exact pre_succ s k hk0 hkc
        obtain ⟨bk, off, rfl, hbk, x0, x1, x2, x3⟩ := set_at HS.out (Below.refl _ _) hkc
        rw [← ht] at x0 x1 x2 x3
        have HX0 := Lib.hid x0
        have HX1 := Lib.hid x1
        have HX2 := Lib.hid x2
        have HX3 := Lib.hid x3
        clear x0 x1 x2 x3 ht htm hkc
        go_wp2_with (at_builtin; refine wpList_append_own _ rfl _ _ 73 rfl w.heap.size 5 i0 (.int .u8 0) 1 1 Tryd.underlying73 hi hz0 hz1 hz2 rfl (by decide) _ _ _ rfl (hown.alloc _) ⟨_, 0, none⟩ 1 1 [.int .u8 32] rfl rfl (cell_one_new _ _ _) (ints_oneCell .u8 [32]) (by simp only [maxLen]; omega) (by omega) (by have := hbr.size; simp; omega) ?_; intro v' w1 hown1 hgrow1 hnil1; have hb1 : Below w.heap.size w w1 := (hbr.alloc hbr.size _).grown hgrow1 (by have := hbr.size; simp; omega) (fun k hk => (hown.lt k hk).1); have y0 := (hb1.cell (p := ⟨bk, off + k * 4, none⟩) hbk).trans HX0.out; have y1 := (hb1.cell (p := ⟨bk, off + k * 4 + 1, none⟩) hbk).trans HX1.out; have y2 := (hb1.cell (p := ⟨bk, off + k * 4 + 2, none⟩) hbk).trans HX2.out; have y3 := (hb1.cell (p := ⟨bk, off + k * 4 + 3, none⟩) hbk).trans HX3.out; have hbs : bk < w1.heap.size := Nat.lt_of_lt_of_le hbk hb1.size)
        have hown2 : w1.ownsRow w.heap.size 5 1 v' (pre s k ++ ⟨#[32]⟩).size (Lib.strCells (pre s k ++ ⟨#[32]⟩)) := by
          rw [← strCells_app, ByteArray.size_append]
          exact hown1
        have HXL : Hid ((pre s k ++ (⟨#[32]⟩ : ByteArray)).size ≤ 300000) := by show _ ≤ _; rw [ByteArray.size_append]; have : (⟨#[32]⟩ : ByteArray).size = 1 := rfl; omega
        clear hown1 hgrow1 hnil1 hown hpl y0 y1 y2 y3
        obtain ⟨Wt, hWt⟩ : ∃ Wt, Wt = w1.alloc (.cells #[.int .i64 t.n, .int .i64 t.e, .int .i64 t.s, .int .i64 t.w] 58) := ⟨_, rfl⟩
        have hbt : Below w.heap.size w Wt := by rw [hWt]; exact hb1.alloc hb1.size _
        have q0 : Wt.cell? ⟨w1.heap.size, 0, none⟩ = some (.int .i64 t.n) := by rw [hWt]; simp
        have q1 : Wt.cell? ⟨w1.heap.size, 1, none⟩ = some (.int .i64 t.e) := by rw [hWt]; simp
        have q2 : Wt.cell? ⟨w1.heap.size, 2, none⟩ = some (.int .i64 t.s) := by rw [hWt]; simp
        have q3 : Wt.cell? ⟨w1.heap.size, 3, none⟩ = some (.int .i64 t.w) := by rw [hWt]; simp
        have hownt : Wt.ownsRow w.heap.size 5 1 v' (pre s k ++ ⟨#[32]⟩).size (Lib.strCells (pre s k ++ ⟨#[32]⟩)) := by rw [hWt]; exact hown2.alloc _
        have hgne : ∀ b, v'.ownBlock = some b → b ≠ w1.heap.size := fun b hb => Nat.ne_of_lt (hown2.lt b hb).2
        have hgle : ∀ b, v'.ownBlock = some b → w.heap.size ≤ b := fun b hb => (hown2.lt b hb).1
        rw [← hWt]
        clear hWt
        have i1 := fun W => digits_dec a0 a1 W
        have i2 := fun W => digits_dec b0 b1 W
        have i3 := fun W => digits_dec c0 c1 W
        have i4 := fun W => digits_dec d0 d1 W
        obtain ⟨s1, s2, s3, s4⟩ : (dec t.n).size ≤ 21 ∧ (dec t.e).size ≤ 21 ∧ (dec t.s).size ≤ 21 ∧ (dec t.w).size ≤ 21 := ⟨dec_sz a0 a1, dec_sz b0 b1, dec_sz c0 c1, dec_sz d0 d1⟩
        have HPT : Hid (pre s k ++ ⟨#[32]⟩ ++ (dec t.n ++ dot ++ dec t.e ++ dot ++ dec t.s ++ dot ++ dec t.w) = pre s (k + 1)) := by show _ = _; rw [← tText_dots]; exact HPS.out.symm
        obtain ⟨D1, hD1⟩ : ∃ D, D = dec t.n := ⟨_, rfl⟩
        obtain ⟨D2, hD2⟩ : ∃ D, D = dec t.e := ⟨_, rfl⟩
        obtain ⟨D3, hD3⟩ : ∃ D, D = dec t.s := ⟨_, rfl⟩
        obtain ⟨D4, hD4⟩ : ∃ D, D = dec t.w := ⟨_, rfl⟩
        rw [← hD1, ← hD2, ← hD3, ← hD4] at HPT
        rw [← hD1] at i1 s1
        rw [← hD2] at i2 s2
        rw [← hD3] at i3 s3
        rw [← hD4] at i4 s4
        clear hD1 hD2 hD3 hD4
        have hdot : dot.size = 1 := rfl
        have z1 : ¬ 9223372036854775806 < D1.size := by omega
        have z1' : ¬ 9223372036854775807 < D1.size + 1 := by omega
        have z2 : ¬ 9223372036854775807 < D1.size + 1 + D2.size := by omega
        have z3 : ¬ 9223372036854775806 < D1.size + 1 + D2.size := by omega
        have z3' : ¬ 9223372036854775807 < D1.size + 1 + D2.size + 1 := by omega
        have z4 : ¬ 9223372036854775807 < D1.size + 1 + D2.size + 1 + D3.size := by omega
        have z5 : ¬ 9223372036854775806 < D1.size + 1 + D2.size + 1 + D3.size := by omega
        have z5' : ¬ 9223372036854775807 < D1.size + 1 + D2.size + 1 + D3.size + 1 := by omega
        have z6 : ¬ 9223372036854775807 < D1.size + 1 + D2.size + 1 + D3.size + 1 + D4.size := by omega
        have z7 : (D1 ++ dot ++ D2 ++ dot ++ D3 ++ dot ++ D4).size ≤ 100 := by simp only [ByteArray.size_append]; omega
        have hxl : (pre s k ++ ⟨#[32]⟩).size ≤ 300000 := HXL.out
        have HXA : Hid ((pre s k ++ ⟨#[32]⟩).size + (D1 ++ dot ++ D2 ++ dot ++ D3 ++ dot ++ D4).size = (pre s (k + 1)).size ∧ Lib.strCells (pre s k ++ ⟨#[32]⟩) ++ Lib.strCells (D1 ++ dot ++ D2 ++ dot ++ D3 ++ dot ++ D4) = Lib.strCells (pre s (k + 1))) := ⟨by rw [← HPT.out]; exact ByteArray.size_append.symm, by rw [strCells_app, HPT.out]⟩
        clear HPT hdot
        simp only [dot] at z7 HXA
        go_region_held3 (fun w' => Below w.heap.size w w' ∧ w'.cell? ⟨w1.heap.size, 0, none⟩ = some (.int .i64 t.n) ∧ w'.cell? ⟨w1.heap.size, 1, none⟩ = some (.int .i64 t.e) ∧ w'.cell? ⟨w1.heap.size, 2, none⟩ = some (.int .i64 t.s) ∧ w'.cell? ⟨w1.heap.size, 3, none⟩ = some (.int .i64 t.w)) (first | exact ⟨hbt.drew, q0, q1, q2, q3⟩ | exact sk_call (by assumption) hn | exact sk_app (by assumption) hgA hgne hgle)
          (first | (go_at_call 53; (with_reducible refine (i1 _).mono ?_); rintro e wn ⟨rfl, hn⟩) | (go_at_call 53; (with_reducible refine (i2 _).mono ?_); rintro e wn ⟨rfl, hn⟩) | (go_at_call 53; (with_reducible refine (i3 _).mono ?_); rintro e wn ⟨rfl, hn⟩) | (go_at_call 53; (with_reducible refine (i4 _).mono ?_); rintro e wn ⟨rfl, hn⟩) | (refine step_append_str rfl (.tmp 21) (.tmp 39) 73 9 rfl w.heap.size 5 i0 Tryd.underlying73 Tryd.underlying9 hi hz0 hz1 hz2 v' (pre s k ++ ⟨#[32]⟩).size (Lib.strCells (pre s k ++ ⟨#[32]⟩)) ?hs ?hO (D1 ++ ⟨#[46]⟩ ++ D2 ++ ⟨#[46]⟩ ++ D3 ++ ⟨#[46]⟩ ++ D4) ?hx ?hA ?hB ?hC ?hD; (case hs => (first | rfl | simp [Act.eval])); (case hx => (first | rfl | simp [Act.eval])); (case hO => (repeat (first | exact hownt.drew | exact hownt | refine own_keep' ?_ (by assumption)))); (case hA => (unfold maxLen; omega)); (case hB => omega); (case hC => exact sk_size (by assumption)); intro vA wA hownA hgA))
        have hbA : Below w.heap.size w wA := sk_fst (by assumption)
        rw [HXA.out.1, HXA.out.2] at hownA
        clear q0 q1 q2 q3 i1 i2 i3 i4 z1 z2 z3 z4 z5 z6 z1' z3' z5' z7 hownt hgne hgle HXA hgA
        go_wp2
        go_roundw
        case rel => exact ⟨k + 1, by omega, by go_num, hownA, hbA⟩
        case measure => simp [intOf]; omega
      · have hk00 : k = 0 := by omega
        subst hk00
        have HPS : Hid (pre s (0 + 1) = pre s 0 ++ tText t) := by
          show _ = _
          rw [ht, pre_one s hkc]
          exact (ByteArray.empty_append).symm
        obtain ⟨bk, off, rfl, hbk, x0, x1, x2, x3⟩ := set_at HS.out hbr hkc
        rw [← ht] at x0 x1 x2 x3
        have hbs : bk < wo.heap.size := Nat.lt_of_lt_of_le hbk hbr.size
        clear ht htm hkc
        simp only [Nat.zero_mul, Nat.add_zero] at x0 x1 x2 x3
        have hown0 : wo.ownsRow w.heap.size 5 1 u3 (pre s 0).size (Lib.strCells (pre s 0)) := hown
        have HXL : Hid ((pre s 0).size ≤ 300000) := by show _ ≤ _; rw [pre_zero]; decide
        clear hown
        obtain ⟨X0, hX0⟩ : ∃ X, X = pre s 0 := ⟨_, rfl⟩
        rw [← hX0] at hown0 HXL HPS
        clear hX0
        go_wp2_with fail
        clear x0 x1 x2 x3
        obtain ⟨Wt, hWt⟩ : ∃ Wt, Wt = wo.alloc (.cells #[.int .i64 t.n, .int .i64 t.e, .int .i64 t.s, .int .i64 t.w] 58) := ⟨_, rfl⟩
        have hbt : Below w.heap.size w Wt := by rw [hWt]; exact hbr.alloc hbr.size _
        have q0 : Wt.cell? ⟨wo.heap.size, 0, none⟩ = some (.int .i64 t.n) := by rw [hWt]; simp
        have q1 : Wt.cell? ⟨wo.heap.size, 1, none⟩ = some (.int .i64 t.e) := by rw [hWt]; simp
        have q2 : Wt.cell? ⟨wo.heap.size, 2, none⟩ = some (.int .i64 t.s) := by rw [hWt]; simp
        have q3 : Wt.cell? ⟨wo.heap.size, 3, none⟩ = some (.int .i64 t.w) := by rw [hWt]; simp
        have hownt : Wt.ownsRow w.heap.size 5 1 u3 X0.size (Lib.strCells X0) := by rw [hWt]; exact hown0.alloc _
        have hgne : ∀ b, u3.ownBlock = some b → b ≠ wo.heap.size := fun b hb => Nat.ne_of_lt (hown0.lt b hb).2
        have hgle : ∀ b, u3.ownBlock = some b → w.heap.size ≤ b := fun b hb => (hown0.lt b hb).1
        rw [← hWt]
        clear hWt
        have i1 := fun W => digits_dec a0 a1 W
        have i2 := fun W => digits_dec b0 b1 W
        have i3 := fun W => digits_dec c0 c1 W
        have i4 := fun W => digits_dec d0 d1 W
        obtain ⟨s1, s2, s3, s4⟩ : (dec t.n).size ≤ 21 ∧ (dec t.e).size ≤ 21 ∧ (dec t.s).size ≤ 21 ∧ (dec t.w).size ≤ 21 := ⟨dec_sz a0 a1, dec_sz b0 b1, dec_sz c0 c1, dec_sz d0 d1⟩
        have HPT : Hid (X0 ++ (dec t.n ++ dot ++ dec t.e ++ dot ++ dec t.s ++ dot ++ dec t.w) = pre s (0 + 1)) := by show _ = _; rw [← tText_dots]; exact HPS.out.symm
        obtain ⟨D1, hD1⟩ : ∃ D, D = dec t.n := ⟨_, rfl⟩
        obtain ⟨D2, hD2⟩ : ∃ D, D = dec t.e := ⟨_, rfl⟩
        obtain ⟨D3, hD3⟩ : ∃ D, D = dec t.s := ⟨_, rfl⟩
        obtain ⟨D4, hD4⟩ : ∃ D, D = dec t.w := ⟨_, rfl⟩
        rw [← hD1, ← hD2, ← hD3, ← hD4] at HPT
        rw [← hD1] at i1 s1
        rw [← hD2] at i2 s2
        rw [← hD3] at i3 s3
        rw [← hD4] at i4 s4
        clear hD1 hD2 hD3 hD4
        have hdot : dot.size = 1 := rfl
        have z1 : ¬ 9223372036854775806 < D1.size := by omega
        have z1' : ¬ 9223372036854775807 < D1.size + 1 := by omega
        have z2 : ¬ 9223372036854775807 < D1.size + 1 + D2.size := by omega
        have z3 : ¬ 9223372036854775806 < D1.size + 1 + D2.size := by omega
        have z3' : ¬ 9223372036854775807 < D1.size + 1 + D2.size + 1 := by omega
        have z4 : ¬ 9223372036854775807 < D1.size + 1 + D2.size + 1 + D3.size := by omega
        have z5 : ¬ 9223372036854775806 < D1.size + 1 + D2.size + 1 + D3.size := by omega
        have z5' : ¬ 9223372036854775807 < D1.size + 1 + D2.size + 1 + D3.size + 1 := by omega
        have z6 : ¬ 9223372036854775807 < D1.size + 1 + D2.size + 1 + D3.size + 1 + D4.size := by omega
        have z7 : (D1 ++ dot ++ D2 ++ dot ++ D3 ++ dot ++ D4).size ≤ 100 := by simp only [ByteArray.size_append]; omega
        have hxl : X0.size ≤ 300000 := HXL.out
        have HXA : Hid (X0.size + (D1 ++ dot ++ D2 ++ dot ++ D3 ++ dot ++ D4).size = (pre s (0 + 1)).size ∧ Lib.strCells X0 ++ Lib.strCells (D1 ++ dot ++ D2 ++ dot ++ D3 ++ dot ++ D4) = Lib.strCells (pre s (0 + 1))) := ⟨by rw [← HPT.out]; exact ByteArray.size_append.symm, by rw [strCells_app, HPT.out]⟩
        clear HPT hdot
        simp only [dot] at z7 HXA
        go_region_held3 (fun w' => Below w.heap.size w w' ∧ w'.cell? ⟨wo.heap.size, 0, none⟩ = some (.int .i64 t.n) ∧ w'.cell? ⟨wo.heap.size, 1, none⟩ = some (.int .i64 t.e) ∧ w'.cell? ⟨wo.heap.size, 2, none⟩ = some (.int .i64 t.s) ∧ w'.cell? ⟨wo.heap.size, 3, none⟩ = some (.int .i64 t.w)) (first | exact ⟨hbt.drew, q0, q1, q2, q3⟩ | exact sk_call (by assumption) hn | exact sk_app (by assumption) hgA hgne hgle)
          (first | (go_at_call 53; (with_reducible refine (i1 _).mono ?_); rintro e wn ⟨rfl, hn⟩) | (go_at_call 53; (with_reducible refine (i2 _).mono ?_); rintro e wn ⟨rfl, hn⟩) | (go_at_call 53; (with_reducible refine (i3 _).mono ?_); rintro e wn ⟨rfl, hn⟩) | (go_at_call 53; (with_reducible refine (i4 _).mono ?_); rintro e wn ⟨rfl, hn⟩) | (refine step_append_str rfl (.tmp 21) (.tmp 39) 73 9 rfl w.heap.size 5 i0 Tryd.underlying73 Tryd.underlying9 hi hz0 hz1 hz2 u3 X0.size (Lib.strCells X0) ?zhs ?zhO (D1 ++ ⟨#[46]⟩ ++ D2 ++ ⟨#[46]⟩ ++ D3 ++ ⟨#[46]⟩ ++ D4) ?zhx ?zhA ?zhB ?zhC ?zhD; (case zhs => (first | rfl | simp [Act.eval])); (case zhx => (first | rfl | simp [Act.eval])); (case zhO => (repeat (first | exact hownt.drew | exact hownt | refine own_keep' ?_ (by assumption)))); (case zhA => (unfold maxLen; omega)); (case zhB => omega); (case zhC => exact sk_size (by assumption)); intro vA wA hownA hgA))
        have hbA : Below w.heap.size w wA := sk_fst (by assumption)
        rw [HXA.out.1, HXA.out.2] at hownA
        clear q0 q1 q2 q3 i1 i2 i3 i4 z1 z2 z3 z4 z5 z6 z1' z3' z5' z7 hownt hgne hgle HXA hgA
        go_wp2
        go_roundw
        case rel => exact ⟨0 + 1, by omega, by go_num, hownA, hbA⟩
        case measure => simp [intOf]; omega
    · have e : k = m := by omega
      subst e
      have HE : Hid (pre s k = sText s) := pre_all s k (by rw [← HM.out]; exact Nat.le_refl _)
      rw [HE.out] at hown
      have hcv := conv_own hown
      go_wp2
      go_ret
      exact ⟨rfl, hbr⟩
end Go.Proofs.YtmmpdniafmhjpaaDoor
