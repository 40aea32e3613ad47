/- ShapeBounds' walk: parameters. -/
import Derived.Test.YtjjpjkkaogfoaaaZBndB
namespace Go.Proofs.Ytjjpjkkaogfoaaa
open Go.RowKit
namespace Sp
open Sc

def parS (n : Nat) : Sz := ⟨zI, [], [⟨[102], List.replicate n zI, zI⟩]⟩
theorem bnd2_all : (List.range 4).all (fun m => fitS (parS (3 + m)) && decide ((checkZ (parS (3 + m))).map Int.ofNat = some (if m ≤ 1 then 0 else 18))) = true := by kernel_rfl
theorem bnd2_is {m : Nat} (h : m < 4) : fitS (parS (3 + m)) = true ∧ (checkZ (parS (3 + m))).map Int.ofNat = some (if m ≤ 1 then 0 else 18) := by
  have := List.all_eq_true.1 bnd2_all m (List.mem_range.2 h)
  simpa only [Bool.and_eq_true, decide_eq_true_eq] using this
structure BRel2 (w0 : World) (sb m : Nat) (sv : Value) (wr : World) (k : Nat) (v : Value) (us : List C4) : Prop where
  slot : sv = .int .i64 k
  le : k ≤ 3 + m
  sat : wr.heap[sb]? = some (.cells #[.int .i64 2, .string ⟨#[]⟩, .slice none 0 0, .slice none 0 0, .slice none 0 0, .slice none 0 0] 29 (0, 0))
  fat : wr.heap[sb + 1 + 1]? = some (.cells #[.string ⟨#[102]⟩, v, .int .i64 2, .string ⟨#[]⟩, .slice none 0 0, .slice none 0 0] 46 (0, 0))
  row : TRow wr (sb + 1 + 1 + 1) [sb, sb + 1 + 1] [v] v (List.replicate k zI) us
  below : Below w0.heap.size w0 wr

end Sp
end Go.Proofs.Ytjjpjkkaogfoaaa
