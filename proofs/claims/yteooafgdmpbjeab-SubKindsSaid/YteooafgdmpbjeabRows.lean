/-
  NARROWER THAN 'FOR EVERY INPUT', by the rows' own cells (each row's printed sentence says how): SubKinds: loops · ConsSigs: loops · ConsTrees: loops.
  DERIVED. THE GIVEN ROWS OF THIS SEAT. 5 by the template 'for every input the law returns true; each argument reads behind the call as it read before'; 0 by the template 'total and deterministic' (their statements: YteooafgdmpbjeabTotals.lean).
  GIVEN WITH THE SEED: the statements are not yours to turn. If you find one false, say at which input.
  Laid BY PROGRAM, IN A SANDBOX (cutbox-rows.mjs): the forced cells as the released guide's own fill.sh prints them over the translation 6d6654cecb816a92… (all of the seat's roots in one cut). By AI agents, Wed Nov 11 2026. No macro, syntax, notation, axiom, sorry.
-/
import Derived.Test.YteooafgdmpbjeabChecked
import GoSem.Claim
import GoSem.ClaimJoined
import GoSem.ClaimMapViews
import Derived.JoinedTies
import Derived.KernelRfl
namespace Go.Proofs.Yteooafgdmpbjeab
/- THE CELL 'sum', in the pinned program and in every row, IS THE sha256 OF THE DUMP (.gsa) THAT YteooafgdmpbjeabProg.lean LOADS. Nothing in Lean hashes anything: it is a label: what it is worth is what the hold of that sum in a sandbox is worth. -/
noncomputable def Try.pinned : Pinned := { name := "yteooafgdmpbjeab", sum := "6d6654cecb816a9291eaaada2f1d4f03e88a9f9cf73c556dccf764370b17fc47", checked := Try.checked }
namespace Rows
def none {H : Type} : Left H := { results := [], args := [] }

/-- 'spruelaw6.SubWidth': WHATEVER THE INPUT: true; the input reads as it did. -/
def subWidthSpec : ChangeSpec := { name := "subWidth", fn := fun _ => fun
  | [d1, d2, d3] => { results := [.lit (.bool true)], args := [d1, d2, d3] }
  | _ => none }
def subWidthRow : OpenClaim := { program := "yteooafgdmpbjeab", sum := "6d6654cecb816a9291eaaada2f1d4f03e88a9f9cf73c556dccf764370b17fc47", func := "sprue/spruelaw6.SubWidth", spec := "subWidth", unfollowed := true, recurses := true, plainKeys := false, apart := false }
def SubWidthSaid : Prop := subWidthRow.holds Try.pinned (OpenSpec.ofChange subWidthSpec)

/-- ITS FALSE NEIGHBOUR: 'it returns false'. Refute it at one input. -/
def subWidthWrong : ChangeSpec := { name := "subWidth", fn := fun _ => fun
  | [d1, d2, d3] => { results := [.lit (.bool false)], args := [d1, d2, d3] }
  | _ => none }
def SubWidthWrongFalsely : Prop := subWidthRow.holds Try.pinned (OpenSpec.ofChange subWidthWrong)

/-- 'spruelaw6.SubKinds': WHATEVER THE INPUT: true; the input reads as it did. -/
def subKindsSpec : ChangeSpec := { name := "subKinds", fn := fun _ => fun
  | [d1, d2] => { results := [.lit (.bool true)], args := [d1, d2] }
  | _ => none }
def subKindsRow : OpenClaim := { program := "yteooafgdmpbjeab", sum := "6d6654cecb816a9291eaaada2f1d4f03e88a9f9cf73c556dccf764370b17fc47", func := "sprue/spruelaw6.SubKinds", spec := "subKinds", unfollowed := true, recurses := true, loops := true, plainKeys := false, apart := false }
def SubKindsSaid : Prop := subKindsRow.holds Try.pinned (OpenSpec.ofChange subKindsSpec)

/-- ITS FALSE NEIGHBOUR: 'it returns false'. Refute it at one input. -/
def subKindsWrong : ChangeSpec := { name := "subKinds", fn := fun _ => fun
  | [d1, d2] => { results := [.lit (.bool false)], args := [d1, d2] }
  | _ => none }
def SubKindsWrongFalsely : Prop := subKindsRow.holds Try.pinned (OpenSpec.ofChange subKindsWrong)

/-- 'spruelaw6.SubUnions': WHATEVER THE INPUT: true; the input reads as it did. -/
def subUnionsSpec : ChangeSpec := { name := "subUnions", fn := fun _ => fun
  | [d1, d2, d3] => { results := [.lit (.bool true)], args := [d1, d2, d3] }
  | _ => none }
def subUnionsRow : OpenClaim := { program := "yteooafgdmpbjeab", sum := "6d6654cecb816a9291eaaada2f1d4f03e88a9f9cf73c556dccf764370b17fc47", func := "sprue/spruelaw6.SubUnions", spec := "subUnions", unfollowed := true, recurses := true, plainKeys := false, apart := false }
def SubUnionsSaid : Prop := subUnionsRow.holds Try.pinned (OpenSpec.ofChange subUnionsSpec)

/-- ITS FALSE NEIGHBOUR: 'it returns false'. Refute it at one input. -/
def subUnionsWrong : ChangeSpec := { name := "subUnions", fn := fun _ => fun
  | [d1, d2, d3] => { results := [.lit (.bool false)], args := [d1, d2, d3] }
  | _ => none }
def SubUnionsWrongFalsely : Prop := subUnionsRow.holds Try.pinned (OpenSpec.ofChange subUnionsWrong)

/-- 'spruelaw5.ConsSigs': WHATEVER THE INPUT: true; the input reads as it did. -/
def consSigsSpec : ChangeSpec := { name := "consSigs", fn := fun _ => fun
  | [d1, d2, d3, d4] => { results := [.lit (.bool true)], args := [d1, d2, d3, d4] }
  | _ => none }
def consSigsRow : OpenClaim := { program := "yteooafgdmpbjeab", sum := "6d6654cecb816a9291eaaada2f1d4f03e88a9f9cf73c556dccf764370b17fc47", func := "sprue/spruelaw5.ConsSigs", spec := "consSigs", unfollowed := true, recurses := true, loops := true, plainKeys := false, apart := false }
def ConsSigsSaid : Prop := consSigsRow.holds Try.pinned (OpenSpec.ofChange consSigsSpec)

/-- ITS FALSE NEIGHBOUR: 'it returns false'. Refute it at one input. -/
def consSigsWrong : ChangeSpec := { name := "consSigs", fn := fun _ => fun
  | [d1, d2, d3, d4] => { results := [.lit (.bool false)], args := [d1, d2, d3, d4] }
  | _ => none }
def ConsSigsWrongFalsely : Prop := consSigsRow.holds Try.pinned (OpenSpec.ofChange consSigsWrong)

/-- 'spruelaw5.ConsTrees': WHATEVER THE INPUT: true; the input reads as it did. -/
def consTreesSpec : ChangeSpec := { name := "consTrees", fn := fun _ => fun
  | [d1, d2, d3] => { results := [.lit (.bool true)], args := [d1, d2, d3] }
  | _ => none }
def consTreesRow : OpenClaim := { program := "yteooafgdmpbjeab", sum := "6d6654cecb816a9291eaaada2f1d4f03e88a9f9cf73c556dccf764370b17fc47", func := "sprue/spruelaw5.ConsTrees", spec := "consTrees", unfollowed := true, recurses := true, loops := true, plainKeys := false, apart := false }
def ConsTreesSaid : Prop := consTreesRow.holds Try.pinned (OpenSpec.ofChange consTreesSpec)

/-- ITS FALSE NEIGHBOUR: 'it returns false'. Refute it at one input. -/
def consTreesWrong : ChangeSpec := { name := "consTrees", fn := fun _ => fun
  | [d1, d2, d3] => { results := [.lit (.bool false)], args := [d1, d2, d3] }
  | _ => none }
def ConsTreesWrongFalsely : Prop := consTreesRow.holds Try.pinned (OpenSpec.ofChange consTreesWrong)

/- THE SECOND FORM. 'bulk': how many values and letters a reading holds, each counted each time it is reached (what is shared counts as often as it is met; a slice's spare places count too). A statement '..UptoSaid' is the law's where the arguments, and the package variables that the reading takes, are together of bulk at most 1048576: NARROWER than '..Said'. Prove '..Said' where nothing that the law and all that it calls make is longer than what came in: it says more and counts as full. Else prove '..UptoSaid'. A law counts once. -/
mutual
def uptoBulk {H : Type} : DataW H → Nat
  | .lit (.string bytes) => bytes.length + 1
  | .lit _ => 1
  | .nil => 1
  | .ptr d => uptoBulk d + 1
  | .slice elems spare => uptoBulkAll elems + uptoBulkAll spare + 1
  | .agg parts => uptoBulkAll parts + 1
  | .iface _ d => uptoBulk d + 1
  | .map entries => uptoBulkEntries entries + 1
  | .held _ => 1
def uptoBulkAll {H : Type} : List (DataW H) → Nat
  | [] => 0
  | d :: r => uptoBulk d + uptoBulkAll r
def uptoBulkEntries {H : Type} : List (Lit × DataW H) → Nat
  | [] => 0
  | x :: r => uptoBulkEntry x + uptoBulkEntries r
def uptoBulkEntry {H : Type} : Lit × DataW H → Nat
  | (.string bytes, d) => bytes.length + uptoBulk d + 1
  | (_, d) => uptoBulk d + 1
 end
def uptoSmall : (H : Type) → List (DataW H) → Bool := fun _ ds => decide (uptoBulkAll ds ≤ 1048576)
def OpenSpec.upto (s : _root_.Go.ChangeSpec) : _root_.Go.OpenSpec := { _root_.Go.OpenSpec.ofChange s with cond := some uptoSmall }

/-- 'spruelaw6.SubWidth', WHERE WHAT IT READS IS OF BULK AT MOST 1048576: true; the input reads as it did. -/
def subWidthUptoRow : OpenClaim := { program := "yteooafgdmpbjeab", sum := "6d6654cecb816a9291eaaada2f1d4f03e88a9f9cf73c556dccf764370b17fc47", func := "sprue/spruelaw6.SubWidth", spec := "subWidth", unfollowed := true, recurses := true, plainKeys := false, apart := false, narrowed := true }
def SubWidthUptoSaid : Prop := subWidthUptoRow.holds Try.pinned (OpenSpec.upto subWidthSpec)

/-- 'spruelaw6.SubKinds', WHERE WHAT IT READS IS OF BULK AT MOST 1048576: true; the input reads as it did. -/
def subKindsUptoRow : OpenClaim := { program := "yteooafgdmpbjeab", sum := "6d6654cecb816a9291eaaada2f1d4f03e88a9f9cf73c556dccf764370b17fc47", func := "sprue/spruelaw6.SubKinds", spec := "subKinds", unfollowed := true, recurses := true, loops := true, plainKeys := false, apart := false, narrowed := true }
def SubKindsUptoSaid : Prop := subKindsUptoRow.holds Try.pinned (OpenSpec.upto subKindsSpec)

/-- 'spruelaw6.SubUnions', WHERE WHAT IT READS IS OF BULK AT MOST 1048576: true; the input reads as it did. -/
def subUnionsUptoRow : OpenClaim := { program := "yteooafgdmpbjeab", sum := "6d6654cecb816a9291eaaada2f1d4f03e88a9f9cf73c556dccf764370b17fc47", func := "sprue/spruelaw6.SubUnions", spec := "subUnions", unfollowed := true, recurses := true, plainKeys := false, apart := false, narrowed := true }
def SubUnionsUptoSaid : Prop := subUnionsUptoRow.holds Try.pinned (OpenSpec.upto subUnionsSpec)

/-- 'spruelaw5.ConsSigs', WHERE WHAT IT READS IS OF BULK AT MOST 1048576: true; the input reads as it did. -/
def consSigsUptoRow : OpenClaim := { program := "yteooafgdmpbjeab", sum := "6d6654cecb816a9291eaaada2f1d4f03e88a9f9cf73c556dccf764370b17fc47", func := "sprue/spruelaw5.ConsSigs", spec := "consSigs", unfollowed := true, recurses := true, loops := true, plainKeys := false, apart := false, narrowed := true }
def ConsSigsUptoSaid : Prop := consSigsUptoRow.holds Try.pinned (OpenSpec.upto consSigsSpec)

/-- 'spruelaw5.ConsTrees', WHERE WHAT IT READS IS OF BULK AT MOST 1048576: true; the input reads as it did. -/
def consTreesUptoRow : OpenClaim := { program := "yteooafgdmpbjeab", sum := "6d6654cecb816a9291eaaada2f1d4f03e88a9f9cf73c556dccf764370b17fc47", func := "sprue/spruelaw5.ConsTrees", spec := "consTrees", unfollowed := true, recurses := true, loops := true, plainKeys := false, apart := false, narrowed := true }
def ConsTreesUptoSaid : Prop := consTreesUptoRow.holds Try.pinned (OpenSpec.upto consTreesSpec)

end Rows
end Go.Proofs.Yteooafgdmpbjeab
