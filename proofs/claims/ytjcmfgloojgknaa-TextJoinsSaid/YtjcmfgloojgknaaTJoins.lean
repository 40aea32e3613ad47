/- TextJoins: the walk, every input. Written by gen_tjoins.py. -/
import Derived.Test.YtjcmfgloojgknaaTJoinsaa
import Derived.Test.YtjcmfgloojgknaaTJoinsab
import Derived.Test.YtjcmfgloojgknaaTJoinsba
import Derived.Test.YtjcmfgloojgknaaTJoinsbb
namespace Go.Proofs.Ytjcmfgloojgknaa
open Go.RowKit
namespace Tx

theorem joins_any (ad : Option Addr) (len cap : Nat) (zs : List Int) (ad2 : Option Addr) (len2 cap2 : Nat) (gs : List Int) (w : World) (hM : MaxTab w) (hR : IsRow .i64 w ad len cap zs) (hG : IsRow .i64 w ad2 len2 cap2 gs) :
    Calls Try.prog 7 #[.slice ad len cap, .slice ad2 len2 cap2] w fun e w' => e = .returned (.bool true) ∧ Below w.heap.size w w' := by
  have hI := ints_of_row hR
  have hJ := ints_of_row hG
  by_cases h1 : len ≤ 20 <;> by_cases h2 : len2 ≤ 20
  · exact joins_aa ad len cap _ ad2 len2 cap2 _ w hM hI hJ h1 h2
  · exact joins_ab ad len cap _ ad2 len2 cap2 _ w hM hI hJ h1 (by omega)
  · exact joins_ba ad len cap _ ad2 len2 cap2 _ w hM hI hJ (by omega) h2
  · exact joins_bb ad len cap _ ad2 len2 cap2 _ w hM hI hJ (by omega) (by omega)
end Tx
end Go.Proofs.Ytjcmfgloojgknaa
