/- Slices of integers that came in. -/
import Derived.Test.YteooafgdmpbjeabU22
import Derived.ProofKit
import Derived.OpenShut
import Derived.Test.YteooafgdmpbjeabU53
import Derived.KernelRfl
namespace Go.Proofs.Yteooafgdmpbjeab
open Go.RowKit Go.WideShapes Go.ChangeShapes
namespace Sp
/-- What a walk is told of a slice of integers that came in: it is nil; or it leads to a row of 'cap' cells, the numbers 'zs' (the first 'len' are its elements). -/
def IsRow (k : IntKind) (w : World) (a : Option Addr) (len cap : Nat) (zs : List Int) : Prop :=
  (a = none ∧ len = 0 ∧ cap = 0 ∧ zs = []) ∨
  ∃ x, a = some x ∧ len ≤ cap ∧ cap ≤ maxLen ∧ zs.length = cap ∧ (∀ i, i < zs.length → w.cell? (x.add i) = some (.int k (zs.getD i 0))) ∧ ∀ n ∈ zs, (Lit.int k n).wf = true
theorem row_ints {w : World} {a : Option Addr} {len cap : Nat} {zs : List Int} (h : IsRow .i64 w a len cap zs) :
    len ≤ 9223372036854775807 ∧ ∀ j, j < len → ∃ bb off, a = some ⟨bb, off, none⟩ ∧ bb < w.heap.size ∧ w.cell? ⟨bb, off + j, none⟩ = some (.int .i64 (zs.getD j 0)) ∧ -9223372036854775808 ≤ zs.getD j 0 ∧ zs.getD j 0 ≤ 9223372036854775807 := by
  rcases h with ⟨rfl, rfl, _⟩ | ⟨x, rfl, hl, hm, hz, hc, hw⟩
  · exact ⟨by omega, fun j hj => absurd hj (Nat.not_lt_zero _)⟩
  · refine ⟨by unfold maxLen at hm; omega, fun j hj => ?_⟩
    obtain ⟨b, off, rfl, hcell⟩ := ints_at hc (by omega)
    have hj2 : j < zs.length := by omega
    have e : zs.getD j 0 = zs[j] := by simp [List.getD, List.getElem?_eq_getElem hj2]
    have hb := bounds_i64 (hw _ (List.getElem_mem hj2))
    exact ⟨b, off, rfl, World.block_lt_of_cell? _ _ (hcell 0 (by omega)), hcell j (by omega), by rw [e]; exact hb.1, by rw [e]; exact hb.2⟩
end Sp
end Go.Proofs.Yteooafgdmpbjeab
namespace Go.Proofs.Yteooafgdmpbjeab
open Go.RowKit
namespace Sp
theorem SubUnions_row (ad1 : Option Addr) (len1 cap1 : Nat) (zs1 : List Int) (ad2 : Option Addr) (len2 cap2 : Nat) (zs2 : List Int) (wide : Bool) (w : World) (h1 : IsRow .i64 w ad1 len1 cap1 zs1) (h2 : IsRow .i64 w ad2 len2 cap2 zs2) :
    Calls Try.prog 5 #[.slice ad1 len1 cap1, .slice ad2 len2 cap2, .bool wide] w fun e w' => e = .returned (.bool true) ∧ Below w.heap.size w w' :=
  SubUnions_any ad1 ad2 len1 cap1 len2 cap2 (fun j => zs1.getD j 0) (fun j => zs2.getD j 0) wide w (row_ints h1).1 (row_ints h2).1 (row_ints h1).2 (row_ints h2).2
end Sp
end Go.Proofs.Yteooafgdmpbjeab
namespace Go.Proofs.Yteooafgdmpbjeab
namespace Sp
theorem own : ownKnob Try.prog.godebug = none := by kernel_rfl
theorem laidOut : laidOutB Try.prog = true := by kernel_rfl
end Sp
end Go.Proofs.Yteooafgdmpbjeab
