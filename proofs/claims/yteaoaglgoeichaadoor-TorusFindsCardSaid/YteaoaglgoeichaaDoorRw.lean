/-
  groutworkref02.Rows, given what extend returns.
-/
import Derived.Test.YteaoaglgoeichaaDoorRk
namespace Go.Proofs.YteaoaglgoeichaaDoor
open Go.RowKit Go.Maps Go.BigFrame Go.Sort
set_option linter.unusedVariables false
set_option linter.unusedSimpArgs false
set_option maxRecDepth 100000

/-- what is to be shown of Rows -/
def RowsOk : Prop := ∀ (s : List Tl) (S : Option Addr) (m sc a : Nat) (W : World), m = s.length → m ≤ 1000 → SetIn W W.heap.size S s → 1 ≤ a → a ≤ 8 → pw (colsOf s).length a ≤ 1500 → pw s.length a ≤ 40000 →
  Calls Tryd.prog 38 #[.slice S m sc, .int .i64 (a : Int)] W (IsRowsR s a W)
/-- extend, with k tiles to go -/
def ExtAt (s : List Tl) (S C : Option Addr) (m d cn cd wd base k : Nat) : Prop := ∀ (r : List Nat) (A : Option Addr) (c by' : Nat) (v : Value) (Z : List (Nat × Nat × List Nat)) (w : World), r ∈ rws s r.length → r.length + k = wd → by' = cn ^ r.length → Z.length + (exts s k r).length ≤ 1000000000 → base ≤ w.heap.size →
  SetIn w base S s → IntsIn w base C (colsOf s) → RCell w base v.ownBlock r A c → w.ownsRow base 82 3 v Z.length (Z.flatMap (rz s)) → ZOk w base v.ownBlock Z →
  Calls Tryd.prog 44 #[.slice S m d, .slice C cn cd, .agg #[.slice A r.length c, .int .i64 (numS s r), .int .i64 (numN s r)], .int .i64 wd, .int .i64 by', v] w (IsExt s k r base v Z w)
/-- what is to be shown of extend: the step -/
def ExtStep : Prop := ∀ (s : List Tl) (S C : Option Addr) (m d cn cd wd base k : Nat), m = s.length → m ≤ 1000 → wd ≤ 8 → cn = (colsOf s).length → (∀ x, x ≤ wd → cn ^ x ≤ 1000000) → ExtAt s S C m d cn cd wd base k → ExtAt s S C m d cn cd wd base (k + 1)
theorem ext_all (h : ExtStep) (s : List Tl) (S C : Option Addr) (m d cn cd wd base : Nat) (hm : m = s.length) (hml : m ≤ 1000) (hw1 : 1 ≤ wd) (hw : wd ≤ 8) (hcn : cn = (colsOf s).length) (hp : ∀ x, x ≤ wd → cn ^ x ≤ 1000000) : ∀ k, ExtAt s S C m d cn cd wd base k
  | 0 => fun r A c by' v Z w hr hrk hby hZn hbs hS hC hrc hown hZ => by
    rcases hrc with ⟨h0, -, -⟩ | ⟨b, rfl, h1, h2, h3, h4⟩
    · rw [h0] at hrk; simp at hrk; omega
    · exact rextend_zero s S C m d cn cd wd base r b c (by' : Int) v Z w (by omega) hw (by omega) hbs h1 h2 h3 h4 hown hZ
  | k + 1 => h s S C m d cn cd wd base k hm hml hw hcn hp (ext_all h s S C m d cn cd wd base hm hml hw1 hw hcn hp k)
theorem rws_le (s : List Tl) : ∀ x, (rws s x).length ≤ s.length ^ x
  | 0 => by simp [rws]
  | x + 1 => by
    have ih := rws_le s x
    have h1 : ∀ L : List (List Nat), (L.flatMap (longer s)).length ≤ L.length * s.length := fun L => by
      induction L with
      | nil => simp
      | cons r L ihL =>
        have h2 : (longer s r).length ≤ s.length := by
          unfold longer
          rw [List.length_map]
          exact Nat.le_trans (List.length_filter_le _ _) (by simp)
        rw [List.flatMap_cons, List.length_append, List.length_cons, Nat.add_mul]
        omega
    simp only [rws]
    refine Nat.le_trans (h1 _) ?_
    rw [Nat.pow_succ]
    exact Nat.mul_le_mul_right _ ih
set_option maxHeartbeats 4000000 in
theorem rows_ok (hst : ExtStep) : RowsOk := by
  intro s S m sc a W hm hml hS ha1 ha8 hpc hps
  obtain ⟨cn, hcn⟩ : ∃ cn, cn = (colsOf s).length := ⟨_, rfl⟩
  have hc := rcolours_any s S m sc W hm hS (by omega)
  rw [← hcn] at hc
  have hp : ∀ x, x ≤ a → cn ^ x ≤ 1000000 := fun x hx => by
    rw [hcn]
    unfold pw at hpc
    rcases Nat.eq_zero_or_pos (colsOf s).length with e | e
    · rw [e]
      cases x with
      | zero => simp
      | succ x => rw [Nat.zero_pow (by omega)]; omega
    · have := Nat.pow_le_pow_right e hx
      omega
  have hlen : (exts s a []).length ≤ 1000000000 := by
    rw [exts_nil]
    have h1 := rws_le s a
    unfold pw at hps
    omega
  have key : ∀ (w1 : World) A1 c1, Below W.heap.size W w1 → IntsIn w1 w1.heap.size A1 (colsOf s) → Calls Tryd.prog 44 #[.slice S m sc, .slice A1 cn c1, .agg #[.slice none 0 0, .int .i64 0, .int .i64 0], .int .i64 (a : Int), .int .i64 1, .slice none 0 0] w1 (IsRowsR s a w1) := fun w1 A1 c1 hb hI => by
    have h := ext_all hst s S A1 m sc cn c1 a w1.heap.size hm hml ha1 ha8 hcn hp a [] none 0 1 (.slice none 0 0) [] w1 (by simp [rws]) (by simp) (by simp) (by simpa using hlen) (Nat.le_refl _) (hS.keep hb hb.size) hI (Or.inl ⟨rfl, rfl, rfl⟩) (World.ownsRow_nil _ _ _ _) (fun z hz => by cases hz)
    refine h.mono fun e w2 hx => ?_
    obtain ⟨v', Z', rfl, h1, h2, h3, h4, h5⟩ := hx
    rw [exts_nil] at h1
    rw [List.nil_append] at h2 h3
    exact ⟨v', Z', rfl, h1, h2, h3, ⟨h4.os, h4.tape, h4.output, h4.size, fun k hk => h4.block k hk (by simp [Value.ownBlock])⟩⟩
  have KEY := Lib.hid key
  clear hm hS hcn hp hlen key hpc hps
  go_enter Tryd.func38, Tryd.ntmps38
  go_wp2_with fail
  refine hc.mono ?_
  rintro e1 w1 ⟨V1, rfl, hown1, hb1⟩
  obtain ⟨A1, c1, rfl, -, -, -, hI1, -⟩ := own_ints hown1
  have HI1 := Lib.hid hI1
  clear hown1 hI1
  go_wp2_with fail
  refine (KEY.out w1 A1 c1 hb1 HI1.out).mono ?_
  rintro e2 w2 ⟨V2, Z, rfl, hZ, hown2, hzok, hb2⟩
  have HZ := Lib.hid hZ
  have HO := Lib.hid hown2
  have HK := Lib.hid hzok
  have HB := Lib.hid hb2
  have HB1 := Lib.hid hb1
  clear hZ hown2 hzok hb2 hb1
  go_wp2_with fail
  go_ret
  exact ⟨V2, Z, rfl, HZ.out, own_mono HO.out HB1.out.size, fun z hz => ⟨Nat.le_trans HB1.out.size (HK.out z hz).1, (HK.out z hz).2⟩, HB1.out.trans (HB.out.mono HB1.out.size)⟩
end Go.Proofs.YteaoaglgoeichaaDoor
