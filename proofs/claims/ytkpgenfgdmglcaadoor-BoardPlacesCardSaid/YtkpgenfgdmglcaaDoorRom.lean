/- temporef05: Len, Lowest, With, Without, Flip, Mirror: their contracts. -/
import Derived.Test.YtkpgenfgdmglcaaDoorRof
import Derived.Test.YtkpgenfgdmglcaaDoorKitc
import Derived.Test.YtkpgenfgdmglcaaDoorBtz
import Derived.Deep.RegionHeld3
namespace Go.Proofs.YtkpgenfgdmglcaaDoor
set_option linter.unusedVariables false
open Go Go.RowKit

theorem i64in (x : Int) (h1 : -9223372036854775808 ≤ x) (h2 : x < 9223372036854775808) : IntKind.i64.wrap x = x := by rw [IntKind.wrap_i64]; omega
theorem one_lit (w : World) (x : Int) (g : Nat) (hg : g = w.heap.size) (cs : Array Value) (hcs : cs.toList = [x].map (Value.int .i64)) :
    SK .i64 (w.alloc (.cells cs 3)) (.slice (some ⟨g, 0, none⟩) 1 1) [x] := by
  subst hg
  exact (Own.lit .i64 3 (B := 0) w [x] 1 cs rfl hcs (Nat.zero_le _) (fits_max _ (by decide))).sk

end Go.Proofs.YtkpgenfgdmglcaaDoor
