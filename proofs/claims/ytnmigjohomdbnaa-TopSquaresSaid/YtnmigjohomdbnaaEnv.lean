/-
  What the library's functions need of the world, and that it stays; strconv.Itoa, strconv.Atoi, strings.SplitN, strings.Join in one form; parseColour.
-/
import Derived.Test.YtnmigjohomdbnaaE
import Derived.Test.YtnmigjohomdbnaaLib
import Derived.WalkSmall
namespace Go.Proofs.Ytnmigjohomdbnaa
open Go.RowKit Go.Maps Go.Sort Go.Lib
set_option linter.unusedVariables false

def ifc (v : Value) : Prop := v = .nilIface ∨ ∃ te pe, v = .iface te pe
theorem var?_lt {P : Program} {g : Nat} {W : World} {n : String} {cs : Array Value} (hg : P.globalNamed n = some g) (hv : W.var? P n = some cs) : g < W.heap.size := by
  unfold World.var? at hv
  simp only [hg, Option.bind_some] at hv
  rcases Nat.lt_or_ge g W.heap.size with h | h
  · exact h
  · rw [Array.getElem?_eq_none h] at hv; simp at hv
theorem below_grow (w : World) (k : Nat) (os : Array Obj) : Below w.heap.size w (grow (w.drewN k) os) :=
  ⟨rfl, rfl, rfl, by simp [grow], fun i hi => by simp [grow, Array.getElem?_append, hi]⟩
theorem below_bytes (w : World) (e : TypeId) (t : ByteArray) : Below w.heap.size w (Lib.bytesWorld w e t) :=
  ⟨rfl, rfl, rfl, by rw [Lib.bytesWorld_size]; omega, fun i hi => Lib.bytesWorld_at_old w e t i hi⟩

def dec (n : Int) : ByteArray := ⟨(Lib.itoa n).toArray⟩
theorem bytes_inj {a b : ByteArray} (h : a.toList = b.toList) : a = b := by
  rw [ByteArray.toList_eq, ByteArray.toList_eq] at h
  cases a
  cases b
  simp at h
  rw [h]
theorem parse_range (l : List UInt8) (v : Int) (h : Lib.atoiAll l = .ok v) : -9223372036854775808 ≤ v ∧ v ≤ 9223372036854775807 := by
  unfold Lib.atoiAll at h
  split at h
  · cases h
  · rename_i c r
    simp only at h
    split at h
    · cases h
    · cases h
    · split at h
      · cases h
      · split at h
        · cases h
        · rename_i u _ h1 h2
          injection h with h
          split at h <;> omega

/-- What parseColour makes of a text. -/
def pCol (s : ByteArray) : Option Int :=
  match Lib.atoiAll s.data.toList with
  | .ok v => if dec v = s then some v else none
  | _ => none
def colRes (s : ByteArray) : Value :=
  match pCol s with
  | some v => .tuple #[.int .i64 v, .bool true]
  | none => .tuple #[.int .i64 0, .bool false]

end Go.Proofs.Ytnmigjohomdbnaa
