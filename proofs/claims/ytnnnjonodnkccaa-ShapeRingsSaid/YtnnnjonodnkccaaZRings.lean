/- ShapeRings' walk, its ways. -/
import Derived.Test.YtnnnjonodnkccaaZRingsA
import Derived.Test.YtnnnjonodnkccaaZRingsB
namespace Go.Proofs.Ytnnnjonodnkccaa
open Go.RowKit
namespace Sp
open Sc

theorem ShapeRings_any (x at_ how : Int) (w : World) (h1 : -9223372036854775808 ≤ x) (h2 : x ≤ 9223372036854775807) (h3 : -9223372036854775808 ≤ at_) (h4 : at_ ≤ 9223372036854775807) (h5 : -9223372036854775808 ≤ how) (h6 : how ≤ 9223372036854775807) :
    Calls Try.prog 5 #[.int .i64 x, .int .i64 at_, .int .i64 how] w fun e w' => e = .returned (.bool true) ∧ Below w.heap.size w w' := by
  have a := Int.emod_nonneg how (show (7 : Int) ≠ 0 by decide)
  have b := Int.emod_lt_of_pos how (show (0 : Int) < 7 by decide)
  rcases (show how % 7 = 0 ∨ how % 7 = 1 ∨ how % 7 = 2 ∨ how % 7 = 3 ∨ how % 7 = 4 ∨ how % 7 = 5 ∨ how % 7 = 6 by omega) with h | h | h | h | h | h | h
  · exact ShapeRings_0 x at_ how w h1 h2 h3 h4 h5 h6 h
  · exact ShapeRings_1 x at_ how w h1 h2 h3 h4 h5 h6 h
  · exact ShapeRings_2 x at_ how w h1 h2 h3 h4 h5 h6 h
  · exact ShapeRings_3 x at_ how w h1 h2 h3 h4 h5 h6 h
  · exact ShapeRings_4 x at_ how w h1 h2 h3 h4 h5 h6 h
  · exact ShapeRings_5 x at_ how w h1 h2 h3 h4 h5 h6 h
  · exact ShapeRings_6 x at_ how w h1 h2 h3 h4 h5 h6 h
end Sp
end Go.Proofs.Ytnnnjonodnkccaa
