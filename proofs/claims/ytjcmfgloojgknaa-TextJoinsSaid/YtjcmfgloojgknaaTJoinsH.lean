/- TextJoins: the walk. Written by gen_tjoins.py. -/
import Derived.Test.YtjcmfgloojgknaaTJoinQ
import Derived.Deep.RegionHeld3
import Derived.Deep.DeepCutAuto
import Derived.IntWalk
namespace Go.Proofs.Ytjcmfgloojgknaa
open Go.RowKit
namespace Tx

def jpB (n : Nat) : ByteArray := ⟨(jpL n).toArray⟩
def jpCells : Array Value := #[.string ⟨#[120]⟩, .string ⟨#[10]⟩, .string ⟨#[123, 123, 46, 125, 125]⟩, .string ⟨#[123, 123, 32, 97, 32, 34, 125, 125, 34, 32, 125, 125]⟩, .string ⟨#[125]⟩, .string ⟨#[34]⟩, .string ⟨#[123, 123, 125, 125]⟩]
theorem jp_len (n : Nat) (h : n < 7) : (jpB n).size ≤ 12 := (jp_ok n h 0).1
theorem jp_cell (w : World) (t : TypeId) (n : Nat) (h : n < 7) : (w.alloc (.cells jpCells t)).cell? ⟨w.heap.size, n, none⟩ = some (.string (jpB n)) := by
  match n, h with
  | 0, _ => simp [jpCells]; rfl
  | 1, _ => simp [jpCells]; rfl
  | 2, _ => simp [jpCells]; rfl
  | 3, _ => simp [jpCells]; rfl
  | 4, _ => simp [jpCells]; rfl
  | 5, _ => simp [jpCells]; rfl
  | 6, _ => simp [jpCells]; rfl

/-- The parts of two rows of pieces, and of both put together. -/
theorem joins_pure (s t : List UInt8) (j k : Nat) (hj : JOk s j) (hk : JOk t k) (h1 : j ≤ 20) (h2 : k ≤ 20) :
    ∃ (xs ys zs : List P) (mt : Bool), splitL s = (0, xs) ∧ splitL t = (0, ys) ∧ splitL (s ++ t) = (0, zs) ∧ Join3 s.length xs ys zs mt ∧ xs.length ≤ 20 ∧ ys.length ≤ 20 ∧ (∀ i (hi : i < xs.length), xs[i].s.length ≤ 240) ∧ ∀ i (hi : i < ys.length), ys[i].at_ ≤ 240 ∧ ys[i].s.length ≤ 240 := by
  obtain ⟨a1, a2, xs, a3, a4⟩ := hj
  obtain ⟨b1, _, ys, b3, b4⟩ := hk
  have hs := raw_shift s.length _ t 0 (Nat.le_refl _)
  rw [b3] at hs
  have hz := raw_append t _ s 0 xs (ys.map (sh s.length)) (Nat.le_refl _) a2 a3 hs
  have hl := merge_len xs (ys.map (sh s.length))
  rw [List.length_map] at hl
  exact ⟨xs, ys, _, _, split_of s xs a3 (by omega) (by omega), split_of t ys b3 (by omega) (by omega), split_of _ _ hz (by rw [List.length_append]; omega) (by omega), join3 _ _ _, by omega, by omega, fun i hi => by have := part_small s xs a3 i hi; omega, fun i hi => by have := part_small t ys b3 i hi; omega⟩

theorem below_dN2 {n : Nat} {w w' : World} (h : Below n w w') (k : Nat) : Below n w (w'.drewN k) := ⟨h.os, h.tape, h.output, h.size, h.block⟩

/-- The memory of the law's two loops: the pieces, written out. -/
structure JMem (w : World) (g : Nat) (wr : World) : Prop where
  bel : Below w.heap.size w wr
  lt : g < wr.heap.size
  cells : ∀ n, n < 7 → wr.cell? ⟨g, n, none⟩ = some (.string (jpB n))
theorem JMem.start {w w1 : World} (hb : Below w.heap.size w w1) (t : TypeId) : JMem w w1.heap.size (w1.alloc (.cells jpCells t)) where
  bel := hb.alloc hb.size _
  lt := by simp
  cells := fun n h => jp_cell w1 t n h
end Tx
end Go.Proofs.Ytjcmfgloojgknaa
