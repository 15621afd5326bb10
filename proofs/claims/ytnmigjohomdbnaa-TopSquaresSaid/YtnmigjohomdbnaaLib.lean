/-
  No contract of the library is used at this dump.
-/
import Derived.Shelf.Strings.OnBuilder
import Derived.Shelf.Strconv.Itoa3
import Derived.Shelf.Strconv.AtoiAll
import Derived.Shelf.Strconv.ErrVarAll
import Derived.Shelf.Strings.Split
import Derived.Test.YtnmigjohomdbnaaProg
import Derived.WalkKit
import Derived.KernelRfl
namespace Go.Proofs.Ytnmigjohomdbnaa
end Go.Proofs.Ytnmigjohomdbnaa
