/- A region that draws its order, its operations' answers told as one function of what is chosen; guarded operations, calls. No program is named here. -/
import Derived.Test.YteooafgdmpbjeabU28
import Derived.Test.YteooafgdmpbjeabU23
import Derived.Test.YteooafgdmpbjeabU22
import Derived.ProofKit
import Derived.OpenShut
import Derived.ChangeOld
import Derived.ChangeArms
import Derived.Deep.QuietTactic
import Derived.BigQuiet
import Derived.Deep.RegionHeld3
namespace Go.Proofs.Yteooafgdmpbjeab
namespace Sp
variable {P : Program} {ops : Array Oper} {Q : Exit → Act → World → Prop}
theorem wanted_none {o : Oper} {y : Nat → Option Bool} (hg : o.guard = none) : Region.wanted o y = true := by unfold Region.wanted; rw [hg]
theorem wanted_of {o : Oper} {a : Act} {j d : Nat} {want b : Bool} (hg : o.guard = some (j, want)) (hd : dstOf ops j = some d) (ht : a.tmps[d]? = some (.bool b)) : Region.wanted o (yielded ops a.tmps) = (b == want) := by
  unfold Region.wanted yielded
  unfold dstOf at hd
  rw [hg]
  simp only [hd, Option.bind_some, ht]
  rfl
theorem wpOp_wpG {i : Nat} {o : Oper} {a : Act} {w : World} {K : Act → World → Prop} (hi : ops[i]? = some o) (hg : Region.wanted o (yielded ops a.tmps) = true) (h : o.wp P a w K Q) : wpOp P ops Q i K a w := by
  unfold wpOp
  rw [hi]
  simp only [hg, if_true]
  exact .inl h
theorem wpOp_skipG {i : Nat} {o : Oper} {a : Act} {w : World} {K : Act → World → Prop} (hi : ops[i]? = some o) (hg : Region.wanted o (yielded ops a.tmps) = false) (h : K (a.put o.dst undef) w) : wpOp P ops Q i K a w := by
  unfold wpOp
  rw [hi]
  simp only [hg, Bool.false_eq_true, if_false]
  exact h
structure QJ {α : Type} (vals : α → Nat → Value) (M : α → Array Bool → World → Prop) (ops : Array Oper) (a0 : Act) (listed : Array Bool) (b : Act) (v : World) : Prop where
  size : listed.size = ops.size
  closed : Closed ops listed
  rest : ∃ x, Fr ops a0 (vals x) listed b ∧ M x listed v
section
variable {α : Type} {vals : α → Nat → Value} {M : α → Array Bool → World → Prop} {a0 b : Act} {listed : Array Bool} {v : World} {i : Nat} {o : Oper} {x : α}
/-- An operation that only reads. -/
theorem QJ.quiet (hz : listed.size = ops.size) (hC : Closed ops listed) (hi : i ∈ Region.ready .any ops listed) (hF : Fr ops a0 (vals x) listed b) (hs : Slots ops a0.tmps.size) (ho : ops[i]? = some o) (hg : Region.wanted o (yielded ops b.tmps) = true) (hM : M x (listed.setIfInBounds i true) v)
    (hr : (execOp b.eval o).run P v = .ok (.value (vals x i)) v) : wpOp P ops Q i (fun b' v' => QJ vals M ops a0 (listed.setIfInBounds i true) b' v') b v := by
  refine wpOp_wpG ho hg ?_
  unfold Oper.wp
  rw [hr]
  exact ⟨by simp [hz], hC.put hi, x, hF.put hs hz ho, hM⟩
/-- One that is left out. -/
theorem QJ.skip (hz : listed.size = ops.size) (hC : Closed ops listed) (hi : i ∈ Region.ready .any ops listed) (hF : Fr ops a0 (vals x) listed b) (hs : Slots ops a0.tmps.size) (ho : ops[i]? = some o) (hg : Region.wanted o (yielded ops b.tmps) = false) (hM : M x (listed.setIfInBounds i true) v) (hu : vals x i = undef) :
    wpOp P ops Q i (fun b' v' => QJ vals M ops a0 (listed.setIfInBounds i true) b' v') b v :=
  wpOp_skipG ho hg ⟨by simp [hz], hC.put hi, x, hu ▸ hF.put hs hz ho, hM⟩
/-- One that makes memory. -/
theorem QJ.make {v' : World} {x' : α} (hz : listed.size = ops.size) (hC : Closed ops listed) (hi : i ∈ Region.ready .any ops listed) (hF : Fr ops a0 (vals x) listed b) (hs : Slots ops a0.tmps.size) (ho : ops[i]? = some o) (hg : Region.wanted o (yielded ops b.tmps) = true) (hx : ∀ j, listed.getD j false = true → vals x' j = vals x j) (hM : M x' (listed.setIfInBounds i true) v')
    (hr : (execOp b.eval o).run P v = .ok (.value (vals x' i)) v') : wpOp P ops Q i (fun b' v' => QJ vals M ops a0 (listed.setIfInBounds i true) b' v') b v := by
  refine wpOp_wpG ho hg ?_
  unfold Oper.wp
  rw [hr]
  exact ⟨by simp [hz], hC.put hi, x', (hF.congr hx).put hs hz ho, hM⟩
end
end Sp
end Go.Proofs.Yteooafgdmpbjeab
namespace Go.Proofs.Yteooafgdmpbjeab
open Go.RowKit
namespace Sp
open Sc
set_option maxRecDepth 100000 in
theorem conv_oneZ (w : World) (z : Int) (c : UInt8) (h : z = (c.toNat : Int)) : (convert 49 9 (.slice (some ⟨w.heap.size, 0, none⟩) 1 1)).run Try.prog (w.alloc (.cells #[.int .u8 z] 5)) = .ok (.string ⟨#[c]⟩) (w.alloc (.cells #[.int .u8 z] 5)) := by
  have e := run_convert_bytes_arg (P := Try.prog) (w.alloc (.cells #[.int .u8 z] 5)) 49 5 Try.underlying49 Try.underlying5 w.heap.size 0 1 1 [z] rfl
    (fun i hi => by
      obtain rfl : i = 0 := by simpa using hi
      simp) 9 Try.underlying9
  rw [e, h]
  congr 2
  apply ByteArray.ext
  simp [strOfNums]
end Sp
end Go.Proofs.Yteooafgdmpbjeab
namespace Go.Proofs.Yteooafgdmpbjeab
open Go.RowKit
namespace Sp
open Sc
def lower (k : Nat) : UInt8 := UInt8.ofNat (97 + k)
theorem lower_is (k : Nat) (h : k < 100) : (97 + (k : Int)) = ((lower k).toNat : Int) := by unfold lower; rw [UInt8.toNat_ofNat']; omega
theorem conv_atZ (z : Int) (c : UInt8) (h : z = (c.toNat : Int)) (w : World) (g : Nat) (hg : g = w.heap.size) : (convert 49 9 (.slice (some ⟨g, 0, none⟩) 1 1)).run Try.prog (w.alloc (.cells #[.int .u8 z] 5)) = .ok (.string ⟨#[c]⟩) (w.alloc (.cells #[.int .u8 z] 5)) := hg ▸ conv_oneZ w z c h
end Sp
end Go.Proofs.Yteooafgdmpbjeab
namespace Go.Proofs.Yteooafgdmpbjeab
open Go.RowKit
namespace Sp
open Sc
def letB (k : Nat) : UInt8 := UInt8.ofNat (97 + k)
end Sp
end Go.Proofs.Yteooafgdmpbjeab
namespace Go.Proofs.Yteooafgdmpbjeab
open Go.RowKit
namespace Sp
/-- A row before its append and behind it; the block of its own that what is appended lies in. lb: that is laid; la: the append is done. -/
structure Side (W0 : World) (base : Nat) (e : TypeId) (sz : Nat) (x : Value) (n : Nat) (xs news : List Value) (lb la : Bool) (tv av : Value) (v : World) : Prop where
  row : la = false → v.ownsRow base e sz x n xs
  old : W0.ownsRow base e sz x n xs
  done : la = true → v.ownsRow base e sz av (n + 1) (xs ++ news)
  fresh : la = true → ∀ g, av.ownBlock = some g → x.ownBlock = some g ∨ W0.heap.size ≤ g
  tmp : lb = true → la = false → ∃ g, tv = .slice (some ⟨g, 0, none⟩) 1 1 ∧ W0.heap.size ≤ g ∧ g < v.heap.size ∧ v.heap[g]? = some (.cells news.toArray e (0, 0))
/-- Where the row lies now. -/
def curV (x av : Value) (la : Bool) : Value := if la then av else x
theorem Side.start {W0 : World} {base : Nat} {e : TypeId} {sz : Nat} {x : Value} {n : Nat} {xs : List Value} (news : List Value) (h : W0.ownsRow base e sz x n xs) (tv av : Value) : Side W0 base e sz x n xs news false false tv av W0 :=
  ⟨fun _ => h, h, (fun h => by cases h), (fun h => by cases h), (fun h => by cases h)⟩
theorem Side.cur_lt {W0 v : World} {base : Nat} {e : TypeId} {sz : Nat} {x : Value} {n : Nat} {xs news : List Value} {lb la : Bool} {tv av : Value} (h : Side W0 base e sz x n xs news lb la tv av v) : ∀ g, (curV x av la).ownBlock = some g → base ≤ g ∧ g < v.heap.size := by
  intro g hg
  cases la with
  | false => exact (h.row rfl).lt g hg
  | true => exact (h.done rfl).lt g hg
theorem Side.keep {W0 v v' : World} {base : Nat} {e : TypeId} {sz : Nat} {x : Value} {n : Nat} {xs news : List Value} {lb la : Bool} {tv av : Value} {r : Option Nat} (h : Side W0 base e sz x n xs news lb la tv av v) (hg : v.grownBy v' r) (hr : ∀ g, r = some g → g < W0.heap.size ∧ (curV x av la).ownBlock ≠ some g) : Side W0 base e sz x n xs news lb la tv av v' := by
  have hne : ∀ y : Value, (∀ g, r = some g → y.ownBlock ≠ some g) → y.ownBlock = none ∨ y.ownBlock ≠ r := fun y hy => by
    cases hy2 : y.ownBlock with
    | none => exact .inl rfl
    | some g => exact .inr fun e => hy g e.symm hy2
  refine ⟨fun hl => (h.row hl).kept hg (hne _ fun g e => by have := (hr g e).2; rw [hl] at this; exact this), h.old, fun hl => (h.done hl).kept hg (hne _ fun g e => by have := (hr g e).2; rw [hl] at this; exact this), h.fresh, fun h1 h2 => ?_⟩
  obtain ⟨g, e1, e2, e3, e4⟩ := h.tmp h1 h2
  exact ⟨g, e1, e2, Nat.lt_of_lt_of_le e3 hg.size, (hg.block g e3 (fun e => by have := (hr g e.symm).1; omega)).trans e4⟩
/-- What is appended is laid. -/
theorem Side.lay {W0 v : World} {base : Nat} {e : TypeId} {sz : Nat} {x : Value} {n : Nat} {xs news : List Value} {tv av : Value} (h : Side W0 base e sz x n xs news false false tv av v) (hs : W0.heap.size ≤ v.heap.size) : Side W0 base e sz x n xs news true false (.slice (some ⟨v.heap.size, 0, none⟩) 1 1) av (v.alloc (.cells news.toArray e)) :=
  ⟨fun _ => (h.row rfl).alloc _, h.old, (fun h => by cases h), (fun h => by cases h), fun _ _ => ⟨v.heap.size, rfl, hs, by simp, heap_alloc_new _ _⟩⟩
/-- The append is done. -/
theorem Side.app {W0 v v' : World} {base : Nat} {e : TypeId} {sz : Nat} {x : Value} {n : Nat} {xs news : List Value} {tv av : Value} (h : Side W0 base e sz x n xs news true false tv av v) (hs : W0.heap.size ≤ v.heap.size) {y : Value} (hown : v'.ownsRow base e sz y (n + 1) (xs ++ news)) (hf : ∀ g, y.ownBlock = some g → x.ownBlock = some g ∨ v.heap.size ≤ g) : Side W0 base e sz x n xs news true true tv y v' :=
  ⟨(fun h => by cases h), h.old, fun _ => hown, fun _ g hg => (hf g hg).elim .inl (fun h => .inr (Nat.le_trans hs h)), (fun _ h => by cases h)⟩
/-- Two rows lie apart. -/
def ApartV (y z : Value) : Prop := ∀ g, y.ownBlock = some g → z.ownBlock ≠ some g
theorem ApartV.symm {y z : Value} (h : ApartV y z) : ApartV z y := fun g h1 h2 => h g h2 h1
theorem ApartV.app {x y z : Value} {m : Nat} (h : ApartV x z) (hf : ∀ g, y.ownBlock = some g → x.ownBlock = some g ∨ m ≤ g) (hz : ∀ g, z.ownBlock = some g → g < m) : ApartV y z := fun g h1 h2 => by
  rcases hf g h1 with e | e
  · exact h g e h2
  · have := hz g h2; omega
end Sp
end Go.Proofs.Yteooafgdmpbjeab
namespace Go.Proofs.Yteooafgdmpbjeab
open Go.RowKit
namespace Sp
open Sc
theorem set_four2 {w : World} {b : Nat} {t : TypeId} {v0 v1 v2 v3 : Value} (h : w.heap[b]? = some (.cells #[v0, v1, v2, v3] t (0, 0))) (v : Value) : (w.setCell ⟨b, 2, none⟩ v).heap[b]? = some (.cells #[v0, v1, v, v3] t (0, 0)) := by
  unfold World.setCell; simp [Array.getElem?_modify, h]
end Sp
end Go.Proofs.Yteooafgdmpbjeab
namespace Go.Proofs.Yteooafgdmpbjeab
open Go.RowKit
namespace Sp
open Sc
set_option maxRecDepth 100000
/-- A block of one byte, the statement's own. -/
def Lit (W0 : World) (z : Int) (x : Value) (v : World) : Prop := ∃ g, x = .slice (some ⟨g, 0, none⟩) 1 1 ∧ W0.heap.size ≤ g ∧ g < v.heap.size ∧ v.heap[g]? = some (.cells #[.int .u8 z] 5 (0, 0))
end Sp
end Go.Proofs.Yteooafgdmpbjeab
namespace Go.Proofs.Yteooafgdmpbjeab
open Go.RowKit
namespace Sp
open Sc
/-- The blocks that are there since b. -/
abbrev New (b : Nat) (w : World) (g : Nat) : Prop := b ≤ g ∧ g < w.heap.size
end Sp
end Go.Proofs.Yteooafgdmpbjeab
namespace Go.Proofs.Yteooafgdmpbjeab
open Go.RowKit
namespace Sp
open Sc
theorem getD_setE {listed : Array Bool} {i : Nat} (h : i < listed.size) : (listed.setIfInBounds i true).getD i false = true := by rw [getD_setF]; simp [h]
theorem getD_setN {listed : Array Bool} {i j : Nat} (h : i ≠ j) : (listed.setIfInBounds i true).getD j false = listed.getD j false := by rw [getD_setF]; simp [h]
end Sp
end Go.Proofs.Yteooafgdmpbjeab
