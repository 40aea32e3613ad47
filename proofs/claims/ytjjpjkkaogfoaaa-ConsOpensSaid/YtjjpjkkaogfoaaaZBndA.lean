/- ShapeBounds' walk: named types. -/
import Derived.Test.YtjjpjkkaogfoaaaZGather
import Derived.Test.YtjjpjkkaogfoaaaDrawF
namespace Go.Proofs.Ytjjpjkkaogfoaaa
open Go.RowKit
namespace Sp
open Sc

def letB (k : Nat) : UInt8 := UInt8.ofNat (97 + k)
def letO : Obj := .cells #[.string ⟨#[97]⟩, .string ⟨#[98]⟩, .string ⟨#[99]⟩, .string ⟨#[100]⟩, .string ⟨#[101]⟩, .string ⟨#[102]⟩, .string ⟨#[103]⟩, .string ⟨#[104]⟩, .string ⟨#[105]⟩, .string ⟨#[106]⟩, .string ⟨#[107]⟩, .string ⟨#[108]⟩, .string ⟨#[109]⟩, .string ⟨#[110]⟩, .string ⟨#[111]⟩, .string ⟨#[112]⟩] 9
theorem let_at {w : World} {b : Nat} (h : w.heap[b]? = some letO) (k : Nat) (hk : k < 16) : w.cell? ⟨b, k, none⟩ = some (.string ⟨#[letB k]⟩) := by
  unfold letO at h
  simp only [World.cell?, h]
  have := List.all_eq_true.1 (show (List.range 16).all (fun k => match (#[.string ⟨#[97]⟩, .string ⟨#[98]⟩, .string ⟨#[99]⟩, .string ⟨#[100]⟩, .string ⟨#[101]⟩, .string ⟨#[102]⟩, .string ⟨#[103]⟩, .string ⟨#[104]⟩, .string ⟨#[105]⟩, .string ⟨#[106]⟩, .string ⟨#[107]⟩, .string ⟨#[108]⟩, .string ⟨#[109]⟩, .string ⟨#[110]⟩, .string ⟨#[111]⟩, .string ⟨#[112]⟩] : Array Value)[k]? with | some (.string s) => decide (s.data.toList = [letB k]) | _ => false) = true by decide +kernel) k (List.mem_range.2 hk)
  revert this
  split
  · next s hs => intro h; simp only [decide_eq_true_eq] at h; rw [hs, ← h]; rfl
  · intro h; cases h
def namL (k : Nat) : List NT := (List.range k).map fun i => ([letB i], zI)
/-- What the operations of the statement yield. -/
structure BV (sb lb k : Nat) (xv : Value) (vals : Nat → Value) : Prop where
  v0 : vals 0 = .pointer (some ⟨sb, 4, none⟩)
  v1 : vals 1 = xv
  v2 : vals 2 = .slice (some ⟨lb, 0, none⟩) 16 16
  v3 : vals 3 = .int .i64 k
  v4 : vals 4 = .pointer (some ⟨lb, k, none⟩)
  v5 : vals 5 = .string ⟨#[letB k]⟩
  v6 : vals 6 = .pointer (some ⟨sb, 0, none⟩)
  v7 : vals 7 = .agg #[.int .i64 2, .string ⟨#[]⟩, .slice none 0 0, .slice none 0 0]
  v8 : vals 8 = .agg #[.string ⟨#[letB k]⟩, .int .i64 2, .string ⟨#[]⟩, .slice none 0 0, .slice none 0 0]
  v11 : vals 11 = .pointer (some ⟨sb, 4, none⟩)
def namO (k : Nat) : Obj := .cells #[.string ⟨#[letB k]⟩, .int .i64 2, .string ⟨#[]⟩, .slice none 0 0, .slice none 0 0] 44
/-- What the append leaves. -/
structure BP (W0 : World) (base k : Nat) (xv : Value) (us : List (List UInt8 × C4)) (v : World) (v' : Value) : Prop where
  own : v.ownsRow base 44 5 v' (us.length + 1) (us.flatMap encZ ++ encZ ([letB k], cI))
  grown : (W0.alloc (namO k)).grownBy v xv.ownBlock
  fresh : ∀ g, v'.ownBlock = some g → xv.ownBlock = some g ∨ (W0.alloc (namO k)).heap.size ≤ g
def BM (W0 : World) (sb base k : Nat) (xv : Value) (us : List (List UInt8 × C4)) (vals : Nat → Value) (v : World) : Bool → Bool → Bool → Prop
  | false, false, false => v = W0
  | true, false, false => v = W0.alloc (namO k) ∧ vals 9 = .slice (some ⟨W0.heap.size, 0, none⟩) 1 1
  | true, true, false => BP W0 base k xv us v (vals 10)
  | true, true, true => ∃ w3, BP W0 base k xv us w3 (vals 10) ∧ v = w3.setCell ⟨sb, 4, none⟩ (vals 10)
  | _, _, _ => False
structure BJ (W0 : World) (sb lb base k : Nat) (xv : Value) (us : List (List UInt8 × C4)) (ops : Array Oper) (a0 : Act) (listed : Array Bool) (b : Act) (v : World) : Prop where
  size : listed.size = ops.size
  late : listed.getD 12 false = true → ∀ i, i < 12 → listed.getD i false = true
  rest : ∃ vals : Nat → Value, Fr ops a0 vals listed b ∧ BV sb lb k xv vals ∧ BM W0 sb base k xv us vals v (listed.getD 9 false) (listed.getD 10 false) (listed.getD 12 false)
theorem BM.far {W0 v : World} {sb base k : Nat} {xv : Value} {us : List (List UInt8 × C4)} {vals : Nat → Value} {b9 b10 b12 : Bool} (h : BM W0 sb base k xv us vals v b9 b10 b12) {g : Nat} (hg : g < W0.heap.size) (hx : xv.ownBlock ≠ some g) (hn : g ≠ sb ∨ b12 = false) : v.heap[g]? = W0.heap[g]? := by
  have gr : ∀ {w3 : World} {v' : Value}, BP W0 base k xv us w3 v' → w3.heap[g]? = W0.heap[g]? := fun hp => (hp.grown.block g (by simp; omega) (fun e => hx e.symm)).trans (Below.heap_alloc _ _ _ hg)
  match b9, b10, b12, h with
  | false, false, false, h => rw [show v = W0 from h]
  | true, false, false, h => rw [show v = _ from h.1]; exact Below.heap_alloc _ _ _ hg
  | true, true, false, h => exact gr h
  | true, true, true, ⟨w3, hp, e⟩ =>
    rcases hn with hn | hn
    · rw [e, ← gr hp]
      exact ((Only.refl sb w3).setCell 4 _).block g (Nat.lt_of_lt_of_le (by simp; omega) hp.grown.size) (fun e => hn (by cases e; rfl))
    · cases hn
/-- An operation that only reads. -/
theorem BJ.quiet {W0 : World} {sb lb base k : Nat} {xv : Value} {us : List (List UInt8 × C4)} {ops : Array Oper} {a0 b : Act} {listed : Array Bool} {v : World} {i : Nat} {o : Oper} {vals : Nat → Value} {Q : Exit → Act → World → Prop} (hz : listed.size = ops.size) (hL : listed.getD 12 false = false) (hF : Fr ops a0 vals listed b) (hV : BV sb lb k xv vals) (hM : BM W0 sb base k xv us vals v (listed.getD 9 false) (listed.getD 10 false) (listed.getD 12 false))
    (hs : Slots ops a0.tmps.size) (ho : ops[i]? = some o) (hg : o.guard = none) (h9 : i ≠ 9 ∧ i ≠ 10 ∧ i ≠ 12) (hr : (execOp b.eval o).run Try.prog v = .ok (.value (vals i)) v) :
    wpOp Try.prog ops Q i (fun b' v' => BJ W0 sb lb base k xv us ops a0 (listed.setIfInBounds i true) b' v') b v := by
  refine wpOp_run ho hg hr ⟨by simp [hz], fun h => ?_, vals, hF.put hs hz ho, hV, ?_⟩
  · rw [getD_setF, hL] at h; simp [h9.2.2] at h
  · rw [getD_setF, getD_setF, getD_setF]
    simpa [h9.1, h9.2.1, h9.2.2] using hM

theorem bnd0_all : (List.range 4).all (fun m => fitS ⟨zI, namL (11 + m), []⟩ && decide ((checkZ ⟨zI, namL (11 + m), []⟩).map Int.ofNat = some (if m ≤ 1 then 0 else 3))) = true := by kernel_rfl
theorem bnd0_is {m : Nat} (h : m < 4) : fitS ⟨zI, namL (11 + m), []⟩ = true ∧ (checkZ ⟨zI, namL (11 + m), []⟩).map Int.ofNat = some (if m ≤ 1 then 0 else 3) := by
  have := List.all_eq_true.1 bnd0_all m (List.mem_range.2 h)
  simpa only [Bool.and_eq_true, decide_eq_true_eq] using this
structure BRel0 (w0 : World) (sb m : Nat) (sv : Value) (wr : World) (k : Nat) (v : Value) (us : List (List UInt8 × C4)) : Prop where
  slot : sv = .int .i64 k
  le : k ≤ 11 + m
  sat : wr.heap[sb]? = some (.cells #[.int .i64 2, .string ⟨#[]⟩, .slice none 0 0, .slice none 0 0, v, .slice none 0 0] 29 (0, 0))
  lat : wr.heap[sb + 1]? = some letO
  row : GRow wr (sb + 1 + 1) [sb] v (namL k) us
  below : Below w0.heap.size w0 wr

end Sp
end Go.Proofs.Ytjjpjkkaogfoaaa
