/- Rows that are appended to in one statement, in whatever order: one row's side. -/
import Derived.Test.YtjjpjkkaogfoaaaDrawF
import Derived.Test.YtjjpjkkaogfoaaaSAppend
import Derived.Test.YtjjpjkkaogfoaaaZGrow
namespace Go.Proofs.Ytjjpjkkaogfoaaa
open Go.RowKit
namespace Sp

/-- A row before its append and behind it; the block of its own that what is appended lies in. lb: that is laid; la: the append is done. -/
structure Side (W0 : World) (base : Nat) (e : TypeId) (sz : Nat) (x : Value) (n : Nat) (xs news : List Value) (lb la : Bool) (tv av : Value) (v : World) : Prop where
  row : la = false → v.ownsRow base e sz x n xs
  old : W0.ownsRow base e sz x n xs
  done : la = true → v.ownsRow base e sz av (n + 1) (xs ++ news)
  fresh : la = true → ∀ g, av.ownBlock = some g → x.ownBlock = some g ∨ W0.heap.size ≤ g
  tmp : lb = true → la = false → ∃ g, tv = .slice (some ⟨g, 0, none⟩) 1 1 ∧ W0.heap.size ≤ g ∧ g < v.heap.size ∧ v.heap[g]? = some (.cells news.toArray e (0, 0))
/-- Where the row lies now. -/
def curV (x av : Value) (la : Bool) : Value := if la then av else x
theorem Side.start {W0 : World} {base : Nat} {e : TypeId} {sz : Nat} {x : Value} {n : Nat} {xs : List Value} (news : List Value) (h : W0.ownsRow base e sz x n xs) (tv av : Value) : Side W0 base e sz x n xs news false false tv av W0 :=
  ⟨fun _ => h, h, (fun h => by cases h), (fun h => by cases h), (fun h => by cases h)⟩
theorem Side.cur_lt {W0 v : World} {base : Nat} {e : TypeId} {sz : Nat} {x : Value} {n : Nat} {xs news : List Value} {lb la : Bool} {tv av : Value} (h : Side W0 base e sz x n xs news lb la tv av v) : ∀ g, (curV x av la).ownBlock = some g → base ≤ g ∧ g < v.heap.size := by
  intro g hg
  cases la with
  | false => exact (h.row rfl).lt g hg
  | true => exact (h.done rfl).lt g hg
theorem Side.keep {W0 v v' : World} {base : Nat} {e : TypeId} {sz : Nat} {x : Value} {n : Nat} {xs news : List Value} {lb la : Bool} {tv av : Value} {r : Option Nat} (h : Side W0 base e sz x n xs news lb la tv av v) (hg : v.grownBy v' r) (hr : ∀ g, r = some g → g < W0.heap.size ∧ (curV x av la).ownBlock ≠ some g) : Side W0 base e sz x n xs news lb la tv av v' := by
  have hne : ∀ y : Value, (∀ g, r = some g → y.ownBlock ≠ some g) → y.ownBlock = none ∨ y.ownBlock ≠ r := fun y hy => by
    cases hy2 : y.ownBlock with
    | none => exact .inl rfl
    | some g => exact .inr fun e => hy g e.symm hy2
  refine ⟨fun hl => (h.row hl).kept hg (hne _ fun g e => by have := (hr g e).2; rw [hl] at this; exact this), h.old, fun hl => (h.done hl).kept hg (hne _ fun g e => by have := (hr g e).2; rw [hl] at this; exact this), h.fresh, fun h1 h2 => ?_⟩
  obtain ⟨g, e1, e2, e3, e4⟩ := h.tmp h1 h2
  exact ⟨g, e1, e2, Nat.lt_of_lt_of_le e3 hg.size, (hg.block g e3 (fun e => by have := (hr g e.symm).1; omega)).trans e4⟩
/-- What is appended is laid. -/
theorem Side.lay {W0 v : World} {base : Nat} {e : TypeId} {sz : Nat} {x : Value} {n : Nat} {xs news : List Value} {tv av : Value} (h : Side W0 base e sz x n xs news false false tv av v) (hs : W0.heap.size ≤ v.heap.size) : Side W0 base e sz x n xs news true false (.slice (some ⟨v.heap.size, 0, none⟩) 1 1) av (v.alloc (.cells news.toArray e)) :=
  ⟨fun _ => (h.row rfl).alloc _, h.old, (fun h => by cases h), (fun h => by cases h), fun _ _ => ⟨v.heap.size, rfl, hs, by simp, heap_alloc_new _ _⟩⟩
/-- The append is done. -/
theorem Side.app {W0 v v' : World} {base : Nat} {e : TypeId} {sz : Nat} {x : Value} {n : Nat} {xs news : List Value} {tv av : Value} (h : Side W0 base e sz x n xs news true false tv av v) (hs : W0.heap.size ≤ v.heap.size) {y : Value} (hown : v'.ownsRow base e sz y (n + 1) (xs ++ news)) (hf : ∀ g, y.ownBlock = some g → x.ownBlock = some g ∨ v.heap.size ≤ g) : Side W0 base e sz x n xs news true true tv y v' :=
  ⟨(fun h => by cases h), h.old, fun _ => hown, fun _ g hg => (hf g hg).elim .inl (fun h => .inr (Nat.le_trans hs h)), (fun _ h => by cases h)⟩
/-- Two rows lie apart. -/
def ApartV (y z : Value) : Prop := ∀ g, y.ownBlock = some g → z.ownBlock ≠ some g
theorem ApartV.symm {y z : Value} (h : ApartV y z) : ApartV z y := fun g h1 h2 => h g h2 h1
theorem ApartV.app {x y z : Value} {m : Nat} (h : ApartV x z) (hf : ∀ g, y.ownBlock = some g → x.ownBlock = some g ∨ m ≤ g) (hz : ∀ g, z.ownBlock = some g → g < m) : ApartV y z := fun g h1 h2 => by
  rcases hf g h1 with e | e
  · exact h g e h2
  · have := hz g h2; omega
end Sp
end Go.Proofs.Ytjjpjkkaogfoaaa
