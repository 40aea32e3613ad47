/- ShapeBounds' walk: its five parts. -/
import Derived.Test.YtnnnjonodnkccaaZBndD
import Derived.Test.YtnnnjonodnkccaaZBndE
namespace Go.Proofs.Ytnnnjonodnkccaa
open Go.RowKit
namespace Sp
open Sc

theorem ShapeBounds_any (which n : Int) (w : World) (h1 : -9223372036854775808 ≤ which) (h2 : which ≤ 9223372036854775807) (h3 : -9223372036854775808 ≤ n) (h4 : n ≤ 9223372036854775807) :
    Calls Try.prog 6 #[.int .i64 which, .int .i64 n] w fun e w' => e = .returned (.bool true) ∧ Below w.heap.size w w' := by
  have a := Int.emod_nonneg which (show (5 : Int) ≠ 0 by decide)
  have b := Int.emod_lt_of_pos which (show (0 : Int) < 5 by decide)
  rcases (show which % 5 = 0 ∨ which % 5 = 1 ∨ which % 5 = 2 ∨ which % 5 = 3 ∨ which % 5 = 4 by omega) with h | h | h | h | h
  · exact ShapeBounds_0 which n w h1 h2 h3 h4 h
  · exact ShapeBounds_1 which n w h1 h2 h3 h4 h
  · exact ShapeBounds_2 which n w h1 h2 h3 h4 h
  · exact ShapeBounds_3 which n w h1 h2 h3 h4 h
  · exact ShapeBounds_4 which n w h1 h2 h3 h4 h
end Sp
end Go.Proofs.Ytnnnjonodnkccaa
