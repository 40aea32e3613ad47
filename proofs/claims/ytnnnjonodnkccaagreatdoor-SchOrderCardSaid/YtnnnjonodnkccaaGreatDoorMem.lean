/- Bytes that the call gathers in a slice of its own, beside a struct of four cells that it laid first. -/
import Derived.Test.YtnnnjonodnkccaaGreatDoorRows
import Derived.WalkKit
import Derived.WalkSpells
import Derived.Laws.BytesArg
namespace Go.Proofs.YtnnnjonodnkccaaGreatDoor
open Go.RowKit
namespace Sc

def B (c : UInt8) : Value := .int .u8 c.toNat

theorem info_u8 : (Tryz.prog.info? 5).map (fun i => (i.zero, i.size, i.bytes)) = some (some (.int .u8 0), 1, 1) := by kernel_rfl

/-- What an owned row's value looks like. -/
theorem own_slice {w : World} {base : Nat} {e : TypeId} {size : Nat} {v : Value} {n : Nat} {xs : List Value} (h : w.ownsRow base e size v n xs) : ∃ a c, v = .slice a n c := by
  rcases h.2 with ⟨rfl, rfl⟩ | ⟨g, cap, _, rfl, _⟩
  · exact ⟨none, 0, rfl⟩
  · exact ⟨_, _, rfl⟩

theorem strOf_B (l : List UInt8) : strOfNums (l.map fun x => (x.toNat : Int)) = ⟨l.toArray⟩ := by
  unfold strOfNums
  have : (l.map fun x => (x.toNat : Int)).map (fun n : Int => UInt8.ofNat n.toNat) = l := by
    rw [List.map_map]
    induction l with
    | nil => rfl
    | cons x r ih => simp only [List.map_cons, ih]; congr 1; simp
  simp only [List.map_map] at this ⊢
  rw [this]

theorem conv_own {w : World} {base : Nat} {v : Value} {l : List UInt8} (h : w.ownsRow base 5 1 v l.length (l.map B)) :
    (convert 63 9 v).run Tryz.prog w = .ok (.string ⟨l.toArray⟩) w := by
  have hc := h
  rcases h.2 with ⟨rfl, hn⟩ | ⟨g, cap, _, rfl, _⟩
  · obtain rfl := List.eq_nil_of_length_eq_zero hn
    exact run_convert_bytes_nil (P := Tryz.prog) w 63 5 Tryz.underlying63 Tryz.underlying5 0 0 9 Tryz.underlying9
  · have := run_convert_bytes_arg (P := Tryz.prog) w 63 5 Tryz.underlying63 Tryz.underlying5 g 0 l.length cap (l.map fun x => (x.toNat : Int)) (by simp)
      (fun i hi => by
        have := hc.cellAt i (by omega)
        rw [Nat.zero_add, this]
        simp only [List.getElem?_map, List.getD, List.getElem?_eq_getElem hi]
        rfl) 9 Tryz.underlying9
    rw [strOf_B] at this
    exact this

/-- The memory of a call that laid one struct (block b) and gathers bytes. -/
structure QMem (w wr : World) (z : Array Value) (t : TypeId) (v : Value) (acc : List UInt8) : Prop where
  own : wr.ownsRow (w.heap.size + 1) 5 1 v acc.length (acc.map B)
  blk : wr.heap[w.heap.size]? = some (.cells z t (0, 0))
  lt : w.heap.size < wr.heap.size
  bel : Below w.heap.size w wr

theorem QMem.start (w : World) (z : Array Value) (t : TypeId) : QMem w (w.alloc (.cells z t)) z t (.slice none 0 0) [] where
  own := World.ownsRow_nil _ _ _ _
  blk := heap_alloc_new w _
  lt := by simp
  bel := (Below.refl _ _).alloc (Nat.le_refl _) _

theorem QMem.same {w wr w' : World} {z : Array Value} {t : TypeId} {v : Value} {acc : List UInt8} (h : QMem w wr z t v acc) (hb : Below wr.heap.size wr w') : QMem w w' z t v acc where
  own := by
    refine h.own.kept (row := none) ⟨hb.os, hb.tape, hb.output, hb.size, fun k hk _ => hb.block k hk⟩ ?_
    rcases own_slice h.own with ⟨a, c, rfl⟩
    cases a <;> simp [Value.ownBlock]
  blk := (hb.block _ h.lt).trans h.blk
  lt := Nat.lt_of_lt_of_le h.lt hb.size
  bel := h.bel.trans (hb.mono (Nat.le_of_lt h.lt))

theorem QMem.grow {w wr w' : World} {z : Array Value} {t : TypeId} {v v' : Value} {acc : List UInt8} (h : QMem w wr z t v acc) (o : Obj) (c : UInt8)
    (hown : w'.ownsRow (w.heap.size + 1) 5 1 v' (acc.length + 1) (acc.map B ++ [B c])) (hg : (wr.alloc o).grownBy w' v.ownBlock) : QMem w w' z t v' (acc ++ [c]) where
  own := by rw [List.map_append, List.length_append]; exact hown
  blk := by
    have hne : some w.heap.size ≠ v.ownBlock := by
      rcases h.own.2 with ⟨rfl, _⟩ | ⟨g, cap, _, rfl, hg, _⟩
      · simp [Value.ownBlock]
      · simp only [Value.ownBlock]; intro e; cases e; omega
    rw [hg.block _ (by simp; have := h.lt; omega) hne, Below.heap_alloc _ _ _ h.lt]
    exact h.blk
  lt := by have h1 := hg.size; have h2 := h.lt; simp at h1; omega
  bel := by
    refine (h.bel.alloc (Nat.le_of_lt h.lt) o).grown hg (by simp; have := h.lt; omega) ?_
    intro k hk
    rcases h.own.2 with ⟨rfl, _⟩ | ⟨g, cap, _, rfl, hg, _⟩
    · simp [Value.ownBlock] at hk
    · simp only [Value.ownBlock] at hk; cases hk; omega

/-- A block of four cells, known whole. -/
theorem four_blk {w : World} {b : Nat} {t : TypeId} {v0 v1 v2 v3 : Value} (h : w.heap[b]? = some (.cells #[v0, v1, v2, v3] t (0, 0))) :
    (w.cell? ⟨b, 0, none⟩ = some v0 ∧ w.cell? ⟨b, 1, none⟩ = some v1 ∧ w.cell? ⟨b, 2, none⟩ = some v2 ∧ w.cell? ⟨b, 3, none⟩ = some v3) ∧
    (w.frozen? ⟨b, 0, none⟩ = false ∧ w.frozen? ⟨b, 1, none⟩ = false ∧ w.frozen? ⟨b, 2, none⟩ = false ∧ w.frozen? ⟨b, 3, none⟩ = false) := by
  refine ⟨⟨?_, ?_, ?_, ?_⟩, ⟨?_, ?_, ?_, ?_⟩⟩ <;> simp [World.cell?, World.frozen?, h]
end Sc
end Go.Proofs.YtnnnjonodnkccaaGreatDoor
