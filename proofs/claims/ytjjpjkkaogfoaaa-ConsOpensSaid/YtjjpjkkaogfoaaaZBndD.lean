/- ShapeBounds' walk: fields. -/
import Derived.Test.YtjjpjkkaogfoaaaZBndC
import Derived.Test.YtjjpjkkaogfoaaaDrawS
namespace Go.Proofs.Ytjjpjkkaogfoaaa
open Go.RowKit
namespace Sp
open Sc

def fldS (n : Nat) : Sz := ⟨.mk 7 [] ((List.range n).map fun i => [letB i]) (List.replicate n zI), [], []⟩
theorem bnd3_all : (List.range 4).all (fun m => fitS (fldS (7 + m)) && decide ((checkZ (fldS (7 + m))).map Int.ofNat = some (if m ≤ 1 then 0 else 3))) = true := by kernel_rfl
theorem bnd3_is {m : Nat} (h : m < 4) : fitS (fldS (7 + m)) = true ∧ (checkZ (fldS (7 + m))).map Int.ofNat = some (if m ≤ 1 then 0 else 3) := by
  have := List.all_eq_true.1 bnd3_all m (List.mem_range.2 h)
  simpa only [Bool.and_eq_true, decide_eq_true_eq] using this
def nmR (k : Nat) : List Value := (List.range k).map fun i => .string ⟨#[letB i]⟩
def kdR (k : Nat) : List Value := (List.replicate k cI).flatMap C4.cells
/-- What the operations of the statement yield (two rows). -/
structure DV (sb lb tb k : Nat) (xn xk : Value) (vals : Nat → Value) : Prop where
  v0 : vals 0 = .pointer (some ⟨tb, 2, none⟩)
  v1 : vals 1 = xn
  v2 : vals 2 = .slice (some ⟨lb, 0, none⟩) 16 16
  v3 : vals 3 = .int .i64 k
  v4 : vals 4 = .pointer (some ⟨lb, k, none⟩)
  v5 : vals 5 = .string ⟨#[letB k]⟩
  v8 : vals 8 = .pointer (some ⟨tb, 3, none⟩)
  v9 : vals 9 = xk
  v10 : vals 10 = .pointer (some ⟨sb, 0, none⟩)
  v11 : vals 11 = .agg #[.int .i64 2, .string ⟨#[]⟩, .slice none 0 0, .slice none 0 0]
  v14 : vals 14 = .pointer (some ⟨tb, 2, none⟩)
  v16 : vals 16 = .pointer (some ⟨tb, 3, none⟩)
/-- Memory while the statement runs. -/
structure DM (W0 : World) (B tb base k : Nat) (xn xk : Value) (vals : Nat → Value) (l6 l7 l12 l13 l15 l17 : Bool) (v : World) : Prop where
  sn : Side W0 base 9 1 xn k (nmR k) [.string ⟨#[letB k]⟩] l6 l7 (vals 6) (vals 7) v
  sk : Side W0 base 25 4 xk k (kdR k) cI.cells l12 l13 (vals 12) (vals 13) v
  ap : ApartV (curV xn (vals 7) l7) (curV xk (vals 13) l13)
  tat : v.heap[tb]? = some (.cells #[.int .i64 7, .string ⟨#[]⟩, if l15 then vals 7 else xn, if l17 then vals 13 else xk] 25 (0, 0))
  far : ∀ g, g < W0.heap.size → g ≠ tb → xn.ownBlock ≠ some g → xk.ownBlock ≠ some g → v.heap[g]? = W0.heap[g]?
  below : Below B W0 v
  size : W0.heap.size ≤ v.heap.size
structure DJ (W0 : World) (B sb lb tb base k : Nat) (xn xk : Value) (ops : Array Oper) (a0 : Act) (listed : Array Bool) (b : Act) (v : World) : Prop where
  size : listed.size = ops.size
  closed : Closed ops listed
  rest : ∃ vals : Nat → Value, Fr ops a0 vals listed b ∧ DV sb lb tb k xn xk vals ∧ DM W0 B tb base k xn xk vals (listed.getD 6 false) (listed.getD 7 false) (listed.getD 12 false) (listed.getD 13 false) (listed.getD 15 false) (listed.getD 17 false) v
theorem set_four2 {w : World} {b : Nat} {t : TypeId} {v0 v1 v2 v3 : Value} (h : w.heap[b]? = some (.cells #[v0, v1, v2, v3] t (0, 0))) (v : Value) : (w.setCell ⟨b, 2, none⟩ v).heap[b]? = some (.cells #[v0, v1, v, v3] t (0, 0)) := by
  unfold World.setCell; simp [Array.getElem?_modify, h]
theorem set_four3 {w : World} {b : Nat} {t : TypeId} {v0 v1 v2 v3 : Value} (h : w.heap[b]? = some (.cells #[v0, v1, v2, v3] t (0, 0))) (v : Value) : (w.setCell ⟨b, 3, none⟩ v).heap[b]? = some (.cells #[v0, v1, v2, v] t (0, 0)) := by
  unfold World.setCell; simp [Array.getElem?_modify, h]
theorem rep_getD (n i : Nat) : (Array.replicate n false).getD i false = false := by
  rw [Array.getD_eq_getD_getElem?]
  by_cases hi : i < n <;> simp [hi]
theorem DJ.quiet {W0 : World} {B sb lb tb base k : Nat} {xn xk : Value} {ops : Array Oper} {a0 b : Act} {listed : Array Bool} {v : World} {i : Nat} {o : Oper} {vals : Nat → Value} {Q : Exit → Act → World → Prop} (hz : listed.size = ops.size) (hC : Closed ops listed) (hi : i ∈ Region.ready .any ops listed) (hF : Fr ops a0 vals listed b) (hV : DV sb lb tb k xn xk vals) (hM : DM W0 B tb base k xn xk vals (listed.getD 6 false) (listed.getD 7 false) (listed.getD 12 false) (listed.getD 13 false) (listed.getD 15 false) (listed.getD 17 false) v)
    (hs : Slots ops a0.tmps.size) (ho : ops[i]? = some o) (hg : o.guard = none) (h9 : i ≠ 6 ∧ i ≠ 7 ∧ i ≠ 12 ∧ i ≠ 13 ∧ i ≠ 15 ∧ i ≠ 17) (hr : (execOp b.eval o).run Try.prog v = .ok (.value (vals i)) v) :
    wpOp Try.prog ops Q i (fun b' v' => DJ W0 B sb lb tb base k xn xk ops a0 (listed.setIfInBounds i true) b' v') b v := by
  refine wpOp_run ho hg hr ⟨by simp [hz], hC.put hi, vals, hF.put hs hz ho, hV, ?_⟩
  simp only [getD_setF]
  simpa [h9.1, h9.2.1, h9.2.2.1, h9.2.2.2.1, h9.2.2.2.2.1, h9.2.2.2.2.2] using hM

structure BRel3 (w0 : World) (sb m : Nat) (sv : Value) (wr : World) (k : Nat) (xn xk : Value) : Prop where
  slot : sv = .int .i64 k
  le : k ≤ 7 + m
  sat : wr.heap[sb]? = some (.cells #[.int .i64 2, .string ⟨#[]⟩, .slice none 0 0, .slice none 0 0, .slice none 0 0, .slice none 0 0] 29 (0, 0))
  lat : wr.heap[sb + 1]? = some letO
  tat : wr.heap[sb + 1 + 1]? = some (.cells #[.int .i64 7, .string ⟨#[]⟩, xn, xk] 25 (0, 0))
  names : wr.ownsRow (sb + 1 + 1 + 1) 9 1 xn k (nmR k)
  kids : wr.ownsRow (sb + 1 + 1 + 1) 25 4 xk k (kdR k)
  apart : ApartV xn xk
  below : Below w0.heap.size w0 wr

end Sp
end Go.Proofs.Ytjjpjkkaogfoaaa
