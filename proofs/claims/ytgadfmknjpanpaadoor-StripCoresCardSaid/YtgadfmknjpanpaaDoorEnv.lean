/-
  What the library's functions need of the world, and that it stays; strconv.Itoa, strconv.Atoi, strings.SplitN, strings.Join in one form; parseColour.
-/
import Derived.Test.YtgadfmknjpanpaaDoorAE
import Derived.Test.YtgadfmknjpanpaaDoorLib
import Derived.WalkSmall
namespace Go.Proofs.YtgadfmknjpanpaaDoor
open Go.RowKit Go.Maps Go.Sort Go.Lib
set_option linter.unusedVariables false

def ifc (v : Value) : Prop := v = .nilIface ∨ ∃ te pe, v = .iface te pe
structure Env (w : World) : Prop where
  maxLen : ∃ m, w.cell? ⟨0, 0, none⟩ = some (.int .i64 m)
  tab : Lib.TabIs Tryd.prog w "internal/strconv.uint64pow10" .u64 Lib.pow10Tab
  syn : ∃ v, w.cell? ⟨3, 0, none⟩ = some v ∧ ifc v
  rng : ∃ v, w.cell? ⟨4, 0, none⟩ = some v ∧ ifc v
theorem var?_lt {P : Program} {g : Nat} {W : World} {n : String} {cs : Array Value} (hg : P.globalNamed n = some g) (hv : W.var? P n = some cs) : g < W.heap.size := by
  unfold World.var? at hv
  simp only [hg, Option.bind_some] at hv
  rcases Nat.lt_or_ge g W.heap.size with h | h
  · exact h
  · rw [Array.getElem?_eq_none h] at hv; simp at hv
theorem Env.keep {w w' : World} (h : Env w) (hb : Below w.heap.size w w') : Env w' := by
  obtain ⟨⟨m, h1⟩, h2, ⟨v, h3, h4⟩, u, h5, h6⟩ := h
  exact ⟨⟨m, cell_later hb h1⟩, var?_below hb (g := 5) (by kernel_rfl) (var?_lt (by kernel_rfl) h2) h2, ⟨v, cell_later hb h3, h4⟩, u, cell_later hb h5, h6⟩

theorem below_grow (w : World) (k : Nat) (os : Array Obj) : Below w.heap.size w (grow (w.drewN k) os) :=
  ⟨rfl, rfl, rfl, by simp [grow], fun i hi => by simp [grow, Array.getElem?_append, hi]⟩
theorem below_bytes (w : World) (e : TypeId) (t : ByteArray) : Below w.heap.size w (Lib.bytesWorld w e t) :=
  ⟨rfl, rfl, rfl, by rw [Lib.bytesWorld_size]; omega, fun i hi => Lib.bytesWorld_at_old w e t i hi⟩

def dec (n : Int) : ByteArray := ⟨(Lib.itoa n).toArray⟩
theorem itoa_any (n : Int) (h0 : -9223372036854775808 ≤ n) (h1 : n ≤ 9223372036854775807) (w : World) (h : Env w) :
    Calls Tryd.prog 56 #[.int .i64 n] w fun e w' => e = .returned (.string (dec n)) ∧ Below w.heap.size w w' :=
  (Tryd.strconv_Itoa n h0 h1 w h.tab).mono fun e w' ⟨he, k, os, hw⟩ => ⟨he, by rw [hw]; exact below_grow w k os⟩
theorem atoi_any (s : ByteArray) (hs : s.size ≤ 281474976710656) (v : Int) (hv : Lib.atoiAll s.data.toList = .ok v) (w : World) :
    Calls Tryd.prog 64 #[.string s] w fun e w' => e = .returned (.tuple #[.int .i64 v, .nilIface]) ∧ Below w.heap.size w w' :=
  (Tryd.strconv_Atoi_ok s (by omega) v hv w).mono fun e w' ⟨he, hw⟩ => ⟨he, by
    rcases hw with rfl | ⟨t, rfl⟩
    · exact Below.refl _ _
    · exact below_bytes _ _ _⟩

theorem bytes_inj {a b : ByteArray} (h : a.toList = b.toList) : a = b := by
  rw [ByteArray.toList_eq, ByteArray.toList_eq] at h
  cases a
  cases b
  simp at h
  rw [h]
theorem parse_range (l : List UInt8) (v : Int) (h : Lib.atoiAll l = .ok v) : -9223372036854775808 ≤ v ∧ v ≤ 9223372036854775807 := by
  unfold Lib.atoiAll at h
  split at h
  · cases h
  · rename_i c r
    simp only at h
    split at h
    · cases h
    · cases h
    · split at h
      · cases h
      · split at h
        · cases h
        · rename_i u _ h1 h2
          injection h with h
          split at h <;> omega

/-- What parseColour makes of a text. -/
def pCol (s : ByteArray) : Option Int :=
  match Lib.atoiAll s.data.toList with
  | .ok v => if dec v = s then some v else none
  | _ => none
def colRes (s : ByteArray) : Value :=
  match pCol s with
  | some v => .tuple #[.int .i64 v, .bool true]
  | none => .tuple #[.int .i64 0, .bool false]

theorem parseColour_any (s : ByteArray) (hs : s.size ≤ 281474976710656) (w : World) (h : Env w) :
    Calls Tryd.prog 55 #[.string s] w fun e w' => e = .returned (colRes s) ∧ Below w.heap.size w w' := by
  by_cases hv : ∃ v, Lib.atoiAll s.data.toList = .ok v
  · obtain ⟨v, hv⟩ := hv
    obtain ⟨h0, h1⟩ := parse_range _ _ hv
    by_cases hd : dec v = s
    · have hr : Hid (colRes s = .tuple #[.int .i64 v, .bool true]) := by unfold Hid colRes pCol; rw [hv]; simp [hd]
      have HV := Lib.hid hv
      clear hv
      go_enter Tryd.func55, Tryd.ntmps55
      go_wp2_with first | (go_at_call 64; refine (atoi_any s hs v HV.out _).mono ?_; rintro e w2 ⟨rfl, hb2⟩) | (go_at_call 56; refine (itoa_any v h0 h1 _ (h.keep (by assumption))).mono ?_; rintro e w3 ⟨rfl, hb3⟩)
      refine bodyPost_ret (v := .tuple #[.int .i64 v, .bool true]) (by simp [results, Tryd.results55, go_sem]) rfl ?_
      exact ⟨by rw [hr.out], hb2.trans (hb3.mono hb2.size)⟩
    · have hr : Hid (colRes s = .tuple #[.int .i64 0, .bool false]) := by unfold Hid colRes pCol; rw [hv]; simp [hd]
      have hq : ((dec v).toList == s.toList) = false := by rw [beq_eq_false_iff_ne]; exact fun e => hd (bytes_inj e)
      have HV := Lib.hid hv
      clear hv
      go_enter Tryd.func55, Tryd.ntmps55
      go_wp2_with first | (go_at_call 64; refine (atoi_any s hs v HV.out _).mono ?_; rintro e w2 ⟨rfl, hb2⟩) | (go_at_call 56; refine (itoa_any v h0 h1 _ (h.keep (by assumption))).mono ?_; rintro e w3 ⟨rfl, hb3⟩)
      refine bodyPost_ret (v := .tuple #[.int .i64 0, .bool false]) (by simp [results, Tryd.results55, go_sem]) rfl ?_
      exact ⟨by rw [hr.out], hb2.trans (hb3.mono hb2.size)⟩
  · obtain ⟨es, hes, his⟩ := h.syn
    obtain ⟨er, her, hir⟩ := h.rng
    have hn : ∀ v, Lib.atoiAll s.data.toList ≠ .ok v := fun v e => hv ⟨v, e⟩
    have hr : Hid (colRes s = .tuple #[.int .i64 0, .bool false]) := by
      unfold Hid colRes pCol
      cases hx : Lib.atoiAll s.data.toList with
      | ok v => exact absurd hx (hn v)
      | _ => rfl
    have HN := Lib.hid hn
    clear hn hv
    go_enter Tryd.func55, Tryd.ntmps55
    go_wp2_with (go_at_call 64; refine (Tryd.strconv_Atoi_bad s hs HN.out es er _ hes his her hir).mono ?_; rintro e w2 ⟨n, N, rfl, hb2⟩)
    refine bodyPost_ret (v := .tuple #[.int .i64 0, .bool false]) (by simp [results, Tryd.results55, go_sem]) rfl ?_
    exact ⟨by rw [hr.out], hb2⟩
end Go.Proofs.YtgadfmknjpanpaaDoor
