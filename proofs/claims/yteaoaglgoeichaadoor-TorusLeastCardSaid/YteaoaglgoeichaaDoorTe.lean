/-
  Package torus: a row that is longer by one tile; all rows of a width (the texts of package fill's rows, for six columns).
-/
import Derived.Test.YteaoaglgoeichaaDoorFg
import Derived.Test.YteaoaglgoeichaaDoorFl
namespace Go.Proofs.YteaoaglgoeichaaDoor
open Go.RowKit Go.Maps Go.BigFrame Go.Sort
set_option linter.unusedVariables false
set_option maxRecDepth 100000

/-- a list of at most eight numbers, with zeros behind it -/
def pad6 (l : List Int) : List Int := l ++ List.replicate (6 - l.length) 0
def north6 (s : List Tl) (r : List Nat) : List Int := pad6 (r.map fun i => (ti s i).n)
def south6 (s : List Tl) (r : List Nat) : List Int := pad6 (r.map fun i => (ti s i).s)
/-- the cells of a row's struct: its tiles, its north6, its south6, its east and its west -/
def rowInts6 (s : List Tl) (r : List Nat) : List Int := pad6 (r.map fun i : Nat => (i : Int)) ++ (north6 s r ++ (south6 s r ++ [east s r, west s r]))
theorem pad6_len (l : List Int) (h : l.length ≤ 6) : (pad6 l).length = 6 := by
  unfold pad6
  rw [List.length_append, List.length_replicate]
  omega
theorem pad6_at (l : List Int) (j : Nat) (h : j < 6) : (pad6 l)[j]? = some (l.getD j 0) ∨ 6 < l.length := by
  by_cases h8 : 6 < l.length
  · exact Or.inr h8
  · left
    unfold pad6
    by_cases hj : j < l.length
    · rw [List.getElem?_append_left hj, List.getElem?_eq_getElem hj, List.getD_eq_getElem?_getD, List.getElem?_eq_getElem hj]
      rfl
    · rw [List.getElem?_append_right (by omega), List.getElem?_replicate, if_pos (by omega), List.getD_eq_getElem?_getD, List.getElem?_eq_none (by omega)]
      rfl
theorem pad6_snoc (l : List Int) (v : Int) (h : l.length < 6) : pad6 (l ++ [v]) = (pad6 l).set l.length v := by
  unfold pad6
  obtain ⟨k, hk⟩ : ∃ k, 6 - l.length = k + 1 := ⟨6 - l.length - 1, by omega⟩
  rw [hk, List.replicate_succ, List.set_append_right _ _ (Nat.le_refl _), Nat.sub_self, List.set_cons_zero, List.append_assoc]
  congr 1
  rw [List.length_append, List.length_singleton, show 6 - (l.length + 1) = k by omega]
  rfl
theorem north_snoc6 (s : List Tl) (r : List Nat) (i : Nat) (h : r.length < 6) : north6 s (r ++ [i]) = (north6 s r).set r.length (ti s i).n := by
  unfold north6
  rw [List.map_append, List.map_cons, List.map_nil, pad6_snoc _ _ (by rw [List.length_map]; exact h), List.length_map]
theorem south_snoc6 (s : List Tl) (r : List Nat) (i : Nat) (h : r.length < 6) : south6 s (r ++ [i]) = (south6 s r).set r.length (ti s i).s := by
  unfold south6
  rw [List.map_append, List.map_cons, List.map_nil, pad6_snoc _ _ (by rw [List.length_map]; exact h), List.length_map]
theorem north_len6 (s : List Tl) (r : List Nat) (h : r.length ≤ 6) : (north6 s r).length = 6 := pad6_len _ (by rw [List.length_map]; exact h)
theorem south_len6 (s : List Tl) (r : List Nat) (h : r.length ≤ 6) : (south6 s r).length = 6 := pad6_len _ (by rw [List.length_map]; exact h)
theorem rowInts_len6 (s : List Tl) (r : List Nat) (h : r.length ≤ 6) : (rowInts6 s r).length = 20 := by
  unfold rowInts6
  rw [List.length_append, List.length_append, List.length_append, north_len6 s r h, south_len6 s r h, pad6_len _ (by rw [List.length_map]; exact h)]
  rfl
theorem set_four6 (P N S T : List Int) (h1 : P.length = 6) (h2 : N.length = 6) (h3 : S.length = 6) (k : Nat) (hk : k < 6) (a b c d e : Int) (hT : T.length = 2) :
    (((((P ++ (N ++ (S ++ T))).set k a).set (6 + k) b).set (12 + k) c).set 18 d).set 19 e = P.set k a ++ (N.set k b ++ (S.set k c ++ [d, e])) := by
  have e1 : (P ++ (N ++ (S ++ T))).set k a = P.set k a ++ (N ++ (S ++ T)) := List.set_append_left _ _ (by omega)
  have l1 : (P.set k a).length = 6 := by rw [List.length_set, h1]
  generalize P.set k a = P' at e1 l1 ⊢
  have e2 : (P' ++ (N ++ (S ++ T))).set (6 + k) b = P' ++ (N.set k b ++ (S ++ T)) := by
    rw [List.set_append_right _ _ (by omega), l1, show 6 + k - 6 = k by omega, List.set_append_left _ _ (by omega)]
  have l2 : (N.set k b).length = 6 := by rw [List.length_set, h2]
  generalize N.set k b = N' at e2 l2 ⊢
  have e3 : (P' ++ (N' ++ (S ++ T))).set (12 + k) c = P' ++ (N' ++ (S.set k c ++ T)) := by
    rw [List.set_append_right _ _ (by omega), l1, show 12 + k - 6 = 6 + k by omega, List.set_append_right _ _ (by omega), l2, show 6 + k - 6 = k by omega, List.set_append_left _ _ (by omega)]
  have l3 : (S.set k c).length = 6 := by rw [List.length_set, h3]
  generalize S.set k c = S' at e3 l3 ⊢
  have e4 (T : List Int) (v : Int) (j : Nat) : (P' ++ (N' ++ (S' ++ T))).set (18 + j) v = P' ++ (N' ++ (S' ++ T.set j v)) := by
    rw [List.set_append_right _ _ (by omega), l1, show 18 + j - 6 = 12 + j by omega, List.set_append_right _ _ (by omega), l2, show 12 + j - 6 = 6 + j by omega, List.set_append_right _ _ (by omega), l3, show 6 + j - 6 = j by omega]
  have e40 := e4 T d 0
  have e41 := e4 (T.set 0 d) e 1
  rw [e1, e2, e3, show (18 : Nat) = 18 + 0 from rfl, e40, show (19 : Nat) = 18 + 1 from rfl, e41]
  match T, hT with
  | [x, y], _ => rfl
/-- a row that is longer by one tile, cell by cell -/
theorem rowInts_snoc6 (s : List Tl) (r : List Nat) (i : Nat) (h : r.length < 6) :
    rowInts6 s (r ++ [i]) = (((((rowInts6 s r).set r.length (i : Int)).set (6 + r.length) (ti s i).n).set (12 + r.length) (ti s i).s).set 18 (ti s i).e).set 19 (if r = [] then (ti s i).w else west s r) := by
  have h1 := pad6_len (r.map fun i : Nat => (i : Int)) (by rw [List.length_map]; omega)
  have h2 := north_len6 s r (by omega)
  have h3 := south_len6 s r (by omega)
  unfold rowInts6
  rw [List.map_append, List.map_cons, List.map_nil, pad6_snoc _ _ (by rw [List.length_map]; exact h), List.length_map, north_snoc6 s r i h, south_snoc6 s r i h, east_snoc, west_snoc]
  obtain ⟨P, hP⟩ : ∃ P, P = pad6 (r.map fun i : Nat => (i : Int)) := ⟨_, rfl⟩
  obtain ⟨N, hN⟩ : ∃ N, N = north6 s r := ⟨_, rfl⟩
  obtain ⟨S, hS⟩ : ∃ S, S = south6 s r := ⟨_, rfl⟩
  rw [← hP] at h1 ⊢
  rw [← hN] at h2 ⊢
  rw [← hS] at h3 ⊢
  rw [set_four6 P N S _ h1 h2 h3 r.length h _ _ _ _ _ rfl]
theorem pad6_inj {a b : List Int} (h : a.length = b.length) (e : pad6 a = pad6 b) : a = b := by
  unfold pad6 at e
  exact (List.append_inj e h).1
theorem row_size6 : (Tryd.prog.info? 72).map (·.size) = some 20 := by kernel_rfl
/-- a row's struct with a tile in column x -/
def upd6 (V : Array Value) (x : Nat) (i : Int) (t : Tl) : Array Value :=
  let U := (((V.setIfInBounds x (.int .i64 i)).setIfInBounds (6 + x) (.int .i64 t.n)).setIfInBounds (12 + x) (.int .i64 t.s)).setIfInBounds 18 (.int .i64 t.e)
  if x = 0 then U.setIfInBounds 19 (.int .i64 t.w) else U
set_option maxHeartbeats 2000000 in
theorem extended_raw6 (V : Array Value) (hV : V.size = 20) (hone : V.all (·.oneCell') = true) (x : Nat) (i : Int) (t : Tl) (w : World) (hx : x < 6) :
    Calls Tryd.prog 42 #[.agg V, .int .i64 x, .int .i64 i, .agg #[.int .i64 t.n, .int .i64 t.e, .int .i64 t.s, .int .i64 t.w]] w fun e w' => e = .returned (.agg (upd6 V x i t)) ∧ Below w.heap.size w w' := by
  have get : ∀ (U : Array Value) j, U.size = 20 → j < 20 → ∃ v, U[j]? = some v := fun U j hU hj => ⟨_, Array.getElem?_eq_getElem (by omega)⟩
  obtain ⟨v0, h0⟩ := get V x hV (by omega)
  obtain ⟨v1, g1⟩ := get (V.setIfInBounds x (.int .i64 i)) (6 + x) (by simp [hV]) (by omega)
  obtain ⟨v2, g2⟩ := get ((V.setIfInBounds x (.int .i64 i)).setIfInBounds (6 + x) (.int .i64 t.n)) (12 + x) (by simp [hV]) (by omega)
  obtain ⟨U, hU⟩ : ∃ U, U = (((V.setIfInBounds x (.int .i64 i)).setIfInBounds (6 + x) (.int .i64 t.n)).setIfInBounds (12 + x) (.int .i64 t.s)) := ⟨_, rfl⟩
  have hUs : U.size = 20 := by rw [hU]; simp [hV]
  have hUo : U.all (·.oneCell') = true := by rw [hU]; exact one_set (one_set (one_set hone _ _) _ _) _ _
  obtain ⟨v3, g3⟩ := get U 18 hUs (by omega)
  obtain ⟨v4, g4⟩ := get (U.setIfInBounds 18 (.int .i64 t.e)) 19 (by simp [hUs]) (by omega)
  have hUp : upd6 V x i t = if x = 0 then (U.setIfInBounds 18 (.int .i64 t.e)).setIfInBounds 19 (.int .i64 t.w) else U.setIfInBounds 18 (.int .i64 t.e) := by rw [hU]; rfl
  have b0 : (0 : Int) ≤ (x : Int) := by omega
  have b1 : (x : Int) < 6 := by omega
  have HU := Lib.hid hU
  have HS := Lib.hid hUs
  have HO := Lib.hid hUo
  have HP := Lib.hid hUp
  clear hUs hUo hUp hV hone get hU
  by_cases hx0 : x = 0
  · have hz : ((x : Int) == 0) = true := by rw [beq_iff_eq]; omega
    have H0 := Lib.hid hx0
    clear hx0
    go_enter Tryd.func42, Tryd.ntmps42
    go_wp2_with fail
    go_region
    rw [← HU.out]
    clear g1 g2
    go_wp2_with (first
      | (refine wpList_load_row rfl _ _ rfl w.heap.size rfl _ _ _ _ (heap3a w _ _ _) Tryd.underlying72 rfl (by rw [row_size6]; simp [HS.out]) ?_)
      | (refine wpList_store_whole rfl _ _ _ rfl (w.heap.size + 1 + 1) _ rfl rfl _ _ (heap3c w _ _ _) (by simp [HS.out]) (by rw [row_size6]; simp [HS.out]) (one_set (one_set HO.out _ _) _ _) ?_; intro W' hg hs hb))
    refine bodyPost_ret (results_cell_row Tryd.results42 _ _ (w.heap.size + 1 + 1) _ _ _ _ rfl hb Tryd.underlying72 rfl (by rw [row_size6]; simp [HS.out])) rfl ?_
    refine ⟨by rw [HP.out, if_pos H0.out], ?_⟩
    exact (below3 w _ _ _).trans (below_of_grown hg (by omega) (by simp; omega))
  · have hz : ((x : Int) == 0) = false := by rw [beq_eq_false_iff_ne]; omega
    have H0 := Lib.hid hx0
    clear hx0
    go_enter Tryd.func42, Tryd.ntmps42
    go_wp2_with fail
    go_region
    rw [← HU.out]
    clear g1 g2
    go_wp2_with (first
      | (refine wpList_load_row rfl _ _ rfl w.heap.size rfl _ _ _ _ (heap3a w _ _ _) Tryd.underlying72 rfl (by rw [row_size6]; simp [HS.out]) ?_)
      | (refine wpList_store_whole rfl _ _ _ rfl (w.heap.size + 1 + 1) _ rfl rfl _ _ (heap3c w _ _ _) (by simp [HS.out]) (by rw [row_size6]; simp [HS.out]) (one_set HO.out _ _) ?_; intro W' hg hs hb))
    refine bodyPost_ret (results_cell_row Tryd.results42 _ _ (w.heap.size + 1 + 1) _ _ _ _ rfl hb Tryd.underlying72 rfl (by rw [row_size6]; simp [HS.out])) rfl ?_
    refine ⟨by rw [HP.out, if_neg H0.out], ?_⟩
    exact (below3 w _ _ _).trans (below_of_grown hg (by omega) (by simp; omega))
/-- the cells of a row's struct -/
def rowV6 (s : List Tl) (r : List Nat) : List Value := vals (rowInts6 s r)
def rowA6 (s : List Tl) (r : List Nat) : Array Value := (rowV6 s r).toArray
theorem rowV_len6 (s : List Tl) (r : List Nat) (h : r.length ≤ 6) : (rowV6 s r).length = 20 := by simp [rowV6, vals, rowInts_len6 s r h]
theorem rowA_size6 (s : List Tl) (r : List Nat) (h : r.length ≤ 6) : (rowA6 s r).size = 20 := by simp [rowA6, rowV_len6 s r h]
theorem rowA_one6 (s : List Tl) (r : List Nat) : (rowA6 s r).all (·.oneCell') = true := by
  rw [Array.all_eq_true_iff_forall_mem]
  exact fun v hv => vals_one (rowInts6 s r) v (by simpa [rowA6, rowV6] using hv)
theorem rowInts_last6 (s : List Tl) (r : List Nat) (h : r.length ≤ 6) : (rowInts6 s r).getD 19 0 = west s r ∧ (rowInts6 s r).getD 18 0 = east s r := by
  have h1 := pad6_len (r.map fun i : Nat => (i : Int)) (by rw [List.length_map]; exact h)
  have h2 := north_len6 s r h
  have h3 := south_len6 s r h
  unfold rowInts6
  constructor <;>
  · rw [List.getD_eq_getElem?_getD, List.getElem?_append_right (by omega), List.getElem?_append_right (by omega), List.getElem?_append_right (by omega), h1, h2, h3]
    rfl
theorem upd_row6 (s : List Tl) (r : List Nat) (i : Nat) (h : r.length < 6) : upd6 (rowA6 s r) r.length (i : Int) (ti s i) = rowA6 s (r ++ [i]) := by
  unfold upd6 rowA6 rowV6
  rw [rowInts_snoc6 s r i h]
  simp only [vals_set]
  by_cases e : r = []
  · rw [if_pos (by rw [e]; rfl), if_pos e]
  · rw [if_neg (fun h0 => e (List.length_eq_zero_iff.1 h0)), if_neg e]
    congr 2
    have h1 := (rowInts_last6 s r (by omega)).1
    have h2 := rowInts_len6 s r (by omega)
    refine List.ext_getElem (by simp) fun j h3 h4 => ?_
    by_cases hj : 19 = j
    · subst hj
      rw [List.getElem_set_self]
      rw [List.getElem_set_ne (by omega), List.getElem_set_ne (by omega), List.getElem_set_ne (by omega), List.getElem_set_ne (by omega)]
      rw [← h1, getD_of_lt _ 19 0 (by omega)]
    · rw [List.getElem_set_ne hj]
theorem extended_any6 (s : List Tl) (r : List Nat) (i : Nat) (X I : Int) (t : Tl) (w : World) (hX : X = r.length) (hI : I = i) (ht : t = ti s i) (h : r.length < 6) :
    Calls Tryd.prog 42 #[.agg (rowA6 s r), .int .i64 X, .int .i64 I, .agg #[.int .i64 t.n, .int .i64 t.e, .int .i64 t.s, .int .i64 t.w]] w fun e w' => e = .returned (.agg (rowA6 s (r ++ [i]))) ∧ Below w.heap.size w w' := by
  subst hX
  subst hI
  subst ht
  rw [← upd_row6 s r i h]
  exact extended_raw6 (rowA6 s r) (rowA_size6 s r (by omega)) (rowA_one6 s r) r.length i (ti s i) w h
theorem row_info6 : (Tryd.prog.info? 72).map (fun i => (i.zero, i.size, i.bytes)) = some (some (.agg #[.int .i64 0, .int .i64 0, .int .i64 0, .int .i64 0, .int .i64 0, .int .i64 0, .int .i64 0, .int .i64 0, .int .i64 0, .int .i64 0, .int .i64 0, .int .i64 0, .int .i64 0, .int .i64 0, .int .i64 0, .int .i64 0, .int .i64 0, .int .i64 0, .int .i64 0, .int .i64 0]), 20, 160) := by kernel_rfl
theorem rowA_at6 (s : List Tl) (r : List Nat) (h : r.length ≤ 6) : (rowA6 s r)[18]? = some (.int .i64 (east s r)) ∧ (rowA6 s r)[19]? = some (.int .i64 (west s r)) := by
  have h1 := rowInts_last6 s r h
  have h2 := rowInts_len6 s r h
  constructor
  · rw [← h1.2, getD_of_lt _ 18 0 (by omega)]
    simp [rowA6, rowV6, vals]
  · rw [← h1.1, getD_of_lt _ 19 0 (by omega)]
    simp [rowA6, rowV6, vals]
/-- what rowsOf returns -/
def IsRows6 (s : List Tl) (x : Nat) (W : World) (e : Ending) (w' : World) : Prop :=
  ∃ v, e = .returned v ∧ w'.ownsRow W.heap.size 72 20 v (rws s x).length ((rws s x).flatMap (rowV6 s)) ∧ Below W.heap.size W w'
set_option maxHeartbeats 8000000 in
theorem rowsOf_any6 (s : List Tl) (S : Option Addr) (m d wd : Nat) (w : World) (hm : m = s.length) (hS : SetIn w w.heap.size S s) (hml : m ≤ 1000) (hw : wd ≤ 6) (hN : ∀ x, x ≤ wd → (rws s x).length ≤ 1000000000) :
    Calls Tryd.prog 33 #[.slice S m d, .int .i64 wd] w (IsRows6 s wd w) := by
  obtain ⟨i0, hi, hz0, hz1, hz2⟩ := info_parts row_info6
  have HM := Lib.hid hm
  have HN := Lib.hid hN
  clear hm hN
  go_enter Tryd.func33, Tryd.ntmps33
  go_wp2_with fail
  obtain ⟨B, hB⟩ : ∃ B, B = w.heap.size := ⟨_, rfl⟩
  go_loopw [5, 15] (fun v i wr => ∃ x : Nat, x ≤ wd ∧ i = .int .i64 x ∧ wr.ownsRow w.heap.size 72 20 v (rws s x).length ((rws s x).flatMap (rowV6 s)) ∧ Below w.heap.size w wr) (fun _ i _ => wd - (intOf i).toNat)
  case atStart =>
    refine ⟨0, Nat.zero_le _, rfl, ?_, (Below.refl _ _).alloc (Nat.le_refl _) _⟩
    exact own_one w (rowV6 s []) 20 _ rfl
  case round =>
    clear hB B
    obtain ⟨x, hx, rfl, hown, hbw⟩ := hrel
    obtain ⟨wx, rfl⟩ : ∃ wx : World, wx = wr := ⟨_, rfl⟩
    obtain ⟨L, hL⟩ : ∃ L, L = rws s x := ⟨_, rfl⟩
    obtain ⟨n, hn⟩ : ∃ n, n = L.length := ⟨_, rfl⟩
    have hlen : ∀ r ∈ L, r.length = x := by rw [hL]; exact rws_len s x
    have hn9 : n ≤ 1000000000 := by rw [hn, hL]; exact HN.out x hx
    rw [← hL, ← hn] at hown
    by_cases hlt : x < wd
    · obtain ⟨A, c, rfl, hnc, hflat, hbase⟩ := own_flat hown (fun a ha => rowV_len6 s a (by rw [hlen a ha]; omega)) hn.symm
      have HL := Lib.hid hL
      have HLn := Lib.hid hn
      have HLen := Lib.hid hlen
      have HNx : Hid ((L.flatMap (longer s)).length ≤ 1000000000) := by
        show _ ≤ _
        rw [hL]
        exact HN.out (x + 1) hlt
      clear hL hn hlen hown
      go_wp2_with fail
      go_loopw [7, 20] (fun v i wr => ∃ (k : Nat) (P : List (List Nat)), k ≤ n ∧ i = .int .i64 k ∧ Hid (P = (L.take k).flatMap (longer s)) ∧ wr.ownsRow wx.heap.size 72 20 v P.length (P.flatMap (rowV6 s)) ∧ Below wx.heap.size wx wr) (fun _ i _ => n - (intOf i).toNat)
      case atStart => exact ⟨0, [], Nat.zero_le _, rfl, rfl, World.ownsRow_nil _ _ _ _, Below.refl _ _⟩
      case round =>
        obtain ⟨k, P, hk, rfl, hP, hown7, hbx⟩ := hrel
        obtain ⟨wy, rfl⟩ : ∃ wy : World, wy = wr := ⟨_, rfl⟩
        by_cases hkn : k < n
        · have hkl : k < L.length := by rw [← HLn.out]; exact hkn
          obtain ⟨r, hr⟩ : ∃ r, L[k]? = some r := ⟨_, List.getElem?_eq_getElem hkl⟩
          obtain ⟨g, rfl, hg, hrows⟩ := hflat (fun e => by rw [e] at hkl; simp at hkl)
          have hrange := rangeAt_keep (hrows k r hr) hbx hg
          have hrx : r.length = x := HLen.out r (List.mem_of_getElem? hr)
          have HR := Lib.hid hr
          have HRX := Lib.hid hrx
          have hk0 : (0 : Int) ≤ (k : Int) := by omega
          have hkn' : (k : Int) < (n : Int) := by omega
          clear hkl hr hrows hrx
          have ha : (rowA6 s r).all (·.oneCell') = true := rowA_one6 s r
          have hz : (rowA6 s r).size = 20 := rowA_size6 s r (by rw [HRX.out]; omega)
          have HA := Lib.hid ha
          have HZ := Lib.hid hz
          clear ha hz
          go_wp2_with (first
            | (refine wpList_load_mid rfl _ _ rfl g (k * 20) rfl (rowV6 s r) _ hrange Tryd.underlying72 rfl (by rw [row_size6]; simp [rowV_len6 s r (by rw [HRX.out]; omega)]) ?_)
            | (refine wpList_store_whole rfl _ _ _ rfl wy.heap.size (rowA6 s r) rfl rfl _ _ (heap_alloc_new wy _) (by rw [HZ.out]; rfl) (by rw [row_size6, HZ.out]) HA.out ?_; intro wz hgz hsz hbz))
          have hby : Below wy.heap.size wy wz := ⟨hgz.os, hgz.tape, hgz.output, by have := hgz.size; simp at this; omega, fun j hj => (hgz.block j (by simp; omega) (by simp; omega)).trans (heap_alloc_old' wy _ j hj)⟩
          have hzz : wz.heap.size = wy.heap.size + 1 := by rw [hsz]; simp
          have hownz := own_keep' hown7 hby
          have hnez : ∀ v7, wy.ownsRow wx.heap.size 72 20 v7 P.length (P.flatMap (rowV6 s)) → v7.ownBlock ≠ some wy.heap.size := fun v7 ho e => by have := (ho.lt _ e).2; omega
          have hnez' := hnez _ hown7
          have hbz : Hid (wz.heap[wy.heap.size]? = some (.cells (rowA6 s r) 72 (0, 0))) := hbz
          have HPz : Hid (P = part s L k r 0) := by show _ = _; rw [part_zero]; exact hP.out
          have hbxz : Below wx.heap.size wx wz := hbx.trans (hby.mono hbx.size)
          have hzx : wx.heap.size ≤ wy.heap.size := hbx.size
          have HZZ := Lib.hid hzz
          clear hgz hsz hrange hown7 hnez hP hbx hby hzz
          go_loopw [7, 26] (fun v i wr => ∃ (j : Nat) (P : List (List Nat)), j ≤ m ∧ i = .int .i64 j ∧ Hid (P = part s L k r j) ∧ wr.ownsRow wx.heap.size 72 20 v P.length (P.flatMap (rowV6 s)) ∧ v.ownBlock ≠ some wy.heap.size ∧ Hid (wr.heap[wy.heap.size]? = some (.cells (rowA6 s r) 72 (0, 0))) ∧ Below wx.heap.size wx wr ∧ wy.heap.size < wr.heap.size) (fun _ i _ => m - (intOf i).toNat)
          case atStart => exact ⟨0, P, Nat.zero_le _, rfl, HPz, hownz, hnez', hbz, hbxz, by rw [HZZ.out]; omega⟩
          case round =>
            clear HPz hownz hnez' hbz hbxz HZZ
            obtain ⟨j, Q, hj, rfl, hQ, hown, hne, hblk, hbr, hlz⟩ := hrel
            obtain ⟨wo, rfl⟩ : ∃ wo : World, wo = wr := ⟨_, rfl⟩
            by_cases hjm : j < m
            · have hjl : j < s.length := by rw [← HM.out]; exact hjm
              have hbwo : Below w.heap.size w wo := hbw.trans (hbr.mono hbw.size)
              obtain ⟨sb, so, rfl, hsb, c0, c1, c2, c3⟩ := set_at hS hbwo hjl
              obtain ⟨t, ht⟩ : ∃ t, t = ti s j := ⟨_, rfl⟩
              have ht' : s.getD j ⟨0, 0, 0, 0⟩ = t := ht.symm
              rw [ht'] at c0 c1 c2 c3
              have hE : wo.cell? ⟨wy.heap.size, 18, none⟩ = some (.int .i64 (east s r)) := by
                rw [cell_of_row _ _ _ _ _ _ hblk.out]
                exact (rowA_at6 s r (by rw [HRX.out]; omega)).1
              have hj0 : (0 : Int) ≤ (j : Int) := by omega
              have hjm' : (j : Int) < (m : Int) := by omega
              have HT := Lib.hid ht
              clear ht ht' hjl
              obtain ⟨E, hEe⟩ : ∃ E, E = east s r := ⟨_, rfl⟩
              rw [← hEe] at hE
              have HE := Lib.hid hEe
              clear hEe
              have hmj : mayJoin s r j = decide (x = 0 ∨ E = t.w) := by
                unfold mayJoin
                rw [HT.out, HE.out, decide_eq_decide, ← HRX.out, List.length_eq_zero_iff]
              by_cases hjo : x = 0 ∨ E = t.w
              · have hQ' : Hid (part s L k r (j + 1) = Q ++ [r ++ [j]]) := by show _ = _; rw [hQ.out]; exact part_yes s L k r j (by rw [hmj]; exact decide_eq_true hjo)
                clear hmj
                have hx8 : r.length < 6 := by rw [HRX.out]; omega
                have hX : Hid ((x : Int) = r.length) := by show _ = _; rw [HRX.out]
                have hext := fun (W : World) => extended_any6 s r j x j t W hX.out rfl HT.out hx8
                have HX := Lib.hid hext
                have HZ1 : Hid ((rowA6 s (r ++ [j])).size = 20) := rowA_size6 s _ (by simp; omega)
                have HV1 : Hid ((rowV6 s (r ++ [j])).length = 1 * 20) := rowV_len6 s _ (by simp; omega)
                have hQn : Q.length ≤ 1000000000 := by
                  have h1 := part_le s L k r HR.out j (by rw [← HM.out]; omega)
                  rw [← hQ.out] at h1
                  exact Nat.le_trans h1 HNx.out
                have hbyx := hbr.size
                clear hext hx8
                by_cases hx0 : x = 0
                · have d0 : ((x : Int) == 0) = true := by rw [beq_iff_eq]; omega
                  clear hjo hx0
                  go_wp2_with (first
                    | (refine wpList_load_row rfl _ _ rfl wy.heap.size rfl _ _ _ _ (heap_keep hblk.out _) Tryd.underlying72 rfl (by rw [row_size6, HZ.out]) ?_)
                    | (go_at_call 42; refine (HX.out _).mono ?_; rintro e w3 ⟨rfl, hb3⟩)
                    | (refine wpList_buildSlice_one rfl _ _ rfl (rowA6 s (r ++ [j])) rfl _ Tryd.underlying67 i0 _ hi hz0 20 hz1 HZ1.out (by omega) (by omega) rfl ?_)
                    | (at_builtin; refine wpList_append_own_at _ rfl _ _ 67 rfl wx.heap.size 72 i0 _ 20 160 Tryd.underlying67 hi hz0 hz1 hz2 rfl (by decide) _ _ _ rfl ((own_keep' (hown.alloc _) hb3).alloc _) ⟨w3.heap.size, 0, none⟩ 1 1 (rowV6 s (r ++ [j])) rfl HV1.out (cell_news _ _ rfl _ _) (vals_one _) (by simp only [maxLen]; omega) (by omega) (by have h3 := hb3.size; simp at h3 ⊢; have := hbr.size; omega) ?_; intro v' w4 hown4 hgrow4 hnil4 hat4))
                  have h3s := hb3.size
                  simp at h3s
                  have hbo3 : Below wo.heap.size wo w3 := ((Below.refl _ _).alloc (Nat.le_refl _) _).trans (hb3.mono (by simp))
                  have hne4 : v'.ownBlock ≠ some wy.heap.size := by
                    rcases hat4 with h | h
                    · rw [h]; exact hne
                    · rw [h]; simp; omega
                  have hblk4 : Hid (w4.heap[wy.heap.size]? = some (.cells (rowA6 s r) 72 (0, 0))) := by
                    refine (hgrow4.block _ (by simp; omega) (fun h => hne h.symm)).trans ?_
                    exact heap_keep (heap_below hblk.out hbo3 hlz) _
                  have hb4 : Below wx.heap.size wx w4 := ((hbr.trans (hbo3.mono hbr.size)).alloc (Nat.le_trans hbr.size (by omega)) _).grown hgrow4 (by have := hbr.size; simp; omega) (fun k hk => (hown.lt k hk).1)
                  have hl4 : wy.heap.size < w4.heap.size := Nat.lt_of_lt_of_le (by simp; omega) hgrow4.size
                  have hown5 : w4.ownsRow wx.heap.size 72 20 v' (Q ++ [r ++ [j]]).length ((Q ++ [r ++ [j]]).flatMap (rowV6 s)) := by
                    rw [List.flatMap_append, List.length_append]
                    simpa using hown4
                  clear hnil4 hgrow4 hown4 hown hblk hat4 hb3 hbo3 hne hbr
                  go_roundw
                  case rel => exact ⟨j + 1, Q ++ [r ++ [j]], by omega, by go_num, hQ'.out.symm, hown5, hne4, hblk4, hb4, hl4⟩
                  case measure => simp [intOf]; omega
                · have d0 : ((x : Int) == 0) = false := by rw [beq_eq_false_iff_ne]; omega
                  have d1 : (E == t.w) = true := by rw [beq_iff_eq]; exact hjo.resolve_left hx0
                  clear hjo hx0
                  go_wp2_with (first
                    | (refine wpList_load_row rfl _ _ rfl wy.heap.size rfl _ _ _ _ (heap_keep hblk.out _) Tryd.underlying72 rfl (by rw [row_size6, HZ.out]) ?_)
                    | (go_at_call 42; refine (HX.out _).mono ?_; rintro e w3 ⟨rfl, hb3⟩)
                    | (refine wpList_buildSlice_one rfl _ _ rfl (rowA6 s (r ++ [j])) rfl _ Tryd.underlying67 i0 _ hi hz0 20 hz1 HZ1.out (by omega) (by omega) rfl ?_)
                    | (at_builtin; refine wpList_append_own_at _ rfl _ _ 67 rfl wx.heap.size 72 i0 _ 20 160 Tryd.underlying67 hi hz0 hz1 hz2 rfl (by decide) _ _ _ rfl ((own_keep' (hown.alloc _) hb3).alloc _) ⟨w3.heap.size, 0, none⟩ 1 1 (rowV6 s (r ++ [j])) rfl HV1.out (cell_news _ _ rfl _ _) (vals_one _) (by simp only [maxLen]; omega) (by omega) (by have h3 := hb3.size; simp at h3 ⊢; have := hbr.size; omega) ?_; intro v' w4 hown4 hgrow4 hnil4 hat4))
                  have h3s := hb3.size
                  simp at h3s
                  have hbo3 : Below wo.heap.size wo w3 := ((Below.refl _ _).alloc (Nat.le_refl _) _).trans (hb3.mono (by simp))
                  have hne4 : v'.ownBlock ≠ some wy.heap.size := by
                    rcases hat4 with h | h
                    · rw [h]; exact hne
                    · rw [h]; simp; omega
                  have hblk4 : Hid (w4.heap[wy.heap.size]? = some (.cells (rowA6 s r) 72 (0, 0))) := by
                    refine (hgrow4.block _ (by simp; omega) (fun h => hne h.symm)).trans ?_
                    exact heap_keep (heap_below hblk.out hbo3 hlz) _
                  have hb4 : Below wx.heap.size wx w4 := ((hbr.trans (hbo3.mono hbr.size)).alloc (Nat.le_trans hbr.size (by omega)) _).grown hgrow4 (by have := hbr.size; simp; omega) (fun k hk => (hown.lt k hk).1)
                  have hl4 : wy.heap.size < w4.heap.size := Nat.lt_of_lt_of_le (by simp; omega) hgrow4.size
                  have hown5 : w4.ownsRow wx.heap.size 72 20 v' (Q ++ [r ++ [j]]).length ((Q ++ [r ++ [j]]).flatMap (rowV6 s)) := by
                    rw [List.flatMap_append, List.length_append]
                    simpa using hown4
                  clear hnil4 hgrow4 hown4 hown hblk hat4 hb3 hbo3 hne hbr
                  go_roundw
                  case rel => exact ⟨j + 1, Q ++ [r ++ [j]], by omega, by go_num, hQ'.out.symm, hown5, hne4, hblk4, hb4, hl4⟩
                  case measure => simp [intOf]; omega
              · have hQ' : Hid (part s L k r (j + 1) = Q) := by show _ = _; rw [hQ.out]; exact part_no s L k r j (by rw [hmj]; exact decide_eq_false hjo)
                have d0 : ((x : Int) == 0) = false := by rw [beq_eq_false_iff_ne]; omega
                have d1 : (E == t.w) = false := by rw [beq_eq_false_iff_ne]; exact fun e => hjo (Or.inr e)
                clear hmj hjo
                go_wp2_with fail
                go_roundw
                case rel => exact ⟨j + 1, Q, by omega, by go_num, (by show _ = _; exact hQ'.out.symm), hown.alloc _, hne, heap_keep hblk.out _, hbr.alloc hbr.size _, by simp; omega⟩
                case measure => simp [intOf]; omega
            · have e : j = m := by omega
              subst e
              have HQ : Hid (Q = (L.take (k + 1)).flatMap (longer s)) := by
                show _ = _
                rw [hQ.out, HM.out]
                exact part_end s L k r HR.out
              clear hblk hQ hne
              go_wp2_with fail
              go_roundw
              case rel => exact ⟨k + 1, Q, by omega, by go_num, HQ, hown, hbr⟩
              case measure => simp [intOf]; omega
        · have e : k = n := by omega
          subst e
          have HP : Hid (P = rws s (x + 1)) := by
            show _ = _
            rw [hP.out, List.take_of_length_le (by rw [← HLn.out]; omega), HL.out]
            rfl
          have hown8 := own_mono hown7 hbw.size
          rw [HP.out] at hown8
          have hb8 : Below w.heap.size w wy := hbw.trans (hbx.mono hbw.size)
          clear hP hown7 hbx HP
          go_wp2_with fail
          go_roundw
          case rel => exact ⟨x + 1, by omega, by go_num, hown8, hb8⟩
          case measure => simp [intOf]; omega
    · have e : x = wd := by omega
      subst e
      subst hn
      subst hL
      have HOwn := Lib.hid hown
      clear hown hlen
      go_wp2_with fail
      go_ret
      exact ⟨_, rfl, HOwn.out, hbw⟩
theorem row_lines6 (s : List Tl) (r : List Nat) (h : r.length ≤ 6) (i : Nat) (hi : i < 6) : (rowA6 s r)[6 + i]? = some (.int .i64 ((north6 s r).getD i 0)) ∧ (rowA6 s r)[12 + i]? = some (.int .i64 ((south6 s r).getD i 0)) ∧ (rowA6 s r)[i]? = some (.int .i64 ((pad6 (r.map fun i : Nat => (i : Int))).getD i 0)) := by
  have h1 := pad6_len (r.map fun i : Nat => (i : Int)) (by rw [List.length_map]; exact h)
  have h2 := north_len6 s r h
  have h3 := south_len6 s r h
  have e : ∀ j : Nat, (rowA6 s r)[j]? = (rowInts6 s r)[j]?.map (Value.int .i64) := fun j => by
    show ((rowInts6 s r).map (Value.int .i64)).toArray[j]? = _
    rw [List.getElem?_toArray, List.getElem?_map]
  refine ⟨?_, ?_, ?_⟩
  · rw [e, rowInts6, List.getElem?_append_right (by omega), h1, List.getElem?_append_left (by omega), show 6 + i - 6 = i by omega, getD_of_lt _ i 0 (by omega), List.getElem?_eq_getElem (by omega)]
    rfl
  · rw [e, rowInts6, List.getElem?_append_right (by omega), h1, List.getElem?_append_right (by omega), h2, List.getElem?_append_left (by omega), show 12 + i - 6 - 6 = i by omega, getD_of_lt _ i 0 (by omega), List.getElem?_eq_getElem (by omega)]
    rfl
  · rw [e, rowInts6, List.getElem?_append_left (by omega), getD_of_lt _ i 0 (by omega), List.getElem?_eq_getElem (by omega)]
    rfl
end Go.Proofs.YteaoaglgoeichaaDoor
