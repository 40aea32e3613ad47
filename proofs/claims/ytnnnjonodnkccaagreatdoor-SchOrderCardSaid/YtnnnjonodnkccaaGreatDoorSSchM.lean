/- Two rows that a schema gathers, in fields of one block: named types, functions. -/
import Derived.Test.YtnnnjonodnkccaaGreatDoorSFn
namespace Go.Proofs.YtnnnjonodnkccaaGreatDoor
open Go.RowKit
namespace Sh
open Sc

abbrev NE := List UInt8 × (C4 × Ty)
abbrev SE := List UInt8 × (G5 × Sig)

/-- The rows, in blocks that are new since w0; the block b1 holds them, rb is the reader's. -/
structure SM (w0 w : World) (rb b1 : Nat) (v1 : Value) (l1 : List NE) (v2 : Value) (l2 : List SE) : Prop where
  ty : w.ownsRow w0.heap.size 59 5 v1 l1.length (l1.flatMap encN)
  fn : w.ownsRow w0.heap.size 61 6 v2 l2.length (l2.flatMap encS)
  only : But rb (some b1) w0 w
  apart : ∀ g, v1.ownBlock = some g → v2.ownBlock ≠ some g
  far : ∃ S : Nat → Prop, (∀ g, S g → w0.heap.size ≤ g ∧ g < w.heap.size) ∧ (∀ g, v1.ownBlock = some g → ¬ S g) ∧ (∀ g, v2.ownBlock = some g → ¬ S g) ∧ (∀ y ∈ l1, TyV w S y.2.2 y.2.1) ∧ ∀ y ∈ l2, SigV w S y.2.2 y.2.1

theorem SM.start (w0 : World) (rb b1 : Nat) : SM w0 w0 rb b1 (.slice none 0 0) [] (.slice none 0 0) [] :=
  ⟨World.ownsRow_nil _ _ _ _, World.ownsRow_nil _ _ _ _, ⟨rfl, rfl, rfl, Nat.le_refl _, fun _ _ _ _ => rfl⟩, fun _ h => by simp [Value.ownBlock] at h, fun _ => False, fun _ h => h.elim, fun _ _ h => h, fun _ _ h => h, (fun _ h => by cases h), (fun _ h => by cases h)⟩

/-- Blocks ahead of the rows are written, new ones are made. -/
theorem SM.keep {w0 w w' : World} {rb b1 : Nat} {v1 v2 : Value} {l1 : List NE} {l2 : List SE} (h : SM w0 w rb b1 v1 l1 v2 l2) {b : Nat} (hw : Only b w w') (hb : b = rb ∨ b = b1) (hrb : rb < w0.heap.size) (hb1 : b1 < w0.heap.size) : SM w0 w' rb b1 v1 l1 v2 l2 := by
  have hbl : b < w0.heap.size := by rcases hb with rfl | rfl <;> assumption
  have far : ∀ {v : Value} {e : TypeId} {k n : Nat} {xs : List Value}, w.ownsRow w0.heap.size e k v n xs → w'.ownsRow w0.heap.size e k v n xs := fun {v} {e} {k} {n} {xs} ho => by
    refine ho.kept hw ?_
    cases hv : v.ownBlock with
    | none => exact .inl rfl
    | some g => refine .inr fun e => ?_; cases e; have := (ho.lt _ hv).1; omega
  refine ⟨far h.ty, far h.fn, ?_, h.apart, ?_⟩
  · refine h.only.trans ⟨hw.os, hw.tape, hw.output, hw.size, fun k hk hn ho => hw.block k hk (fun e => ?_)⟩
    rcases hb with rfl | rfl
    · exact hn (by cases e; rfl)
    · exact ho e
  · obtain ⟨S, s1, s2, s3, s4, s5⟩ := h.far
    have hk : ∀ g, S g → w'.heap[g]? = w.heap[g]? := fun g hg => hw.block g (s1 g hg).2 (fun e => by cases e; have := (s1 _ hg).1; omega)
    exact ⟨S, fun g hg => ⟨(s1 g hg).1, Nat.lt_of_lt_of_le (s1 g hg).2 hw.size⟩, s2, s3, fun y hy => (s4 y hy).keep (fun _ h => h) hk, fun y hy => (s5 y hy).keep (fun _ h => h) hk⟩

theorem SM.growT {w0 w w1 w3 : World} {rb b1 : Nat} {v1 v2 v' : Value} {l1 : List NE} {l2 : List SE} {o : Obj} {y : NE} (h : SM w0 w rb b1 v1 l1 v2 l2) (hw : Only rb w w1) (hrb : rb < w0.heap.size) (hb1 : b1 < w0.heap.size)
    (hy : TyV w1 (Span w.heap.size w1.heap.size) y.2.2 y.2.1) (hown : w3.ownsRow w0.heap.size 59 5 v' (l1.length + 1) (l1.flatMap encN ++ encN y)) (hg : (w1.alloc o).grownBy w3 v1.ownBlock)
    (hf : ∀ k, v'.ownBlock = some k → v1.ownBlock = some k ∨ (w1.alloc o).heap.size ≤ k) : SM w0 w3 rb b1 v' (l1 ++ [y]) v2 l2 := by
  have hk := h.keep hw (.inl rfl) hrb hb1
  obtain ⟨S, s1, s2, s3, s4, s5⟩ := hk.far
  have hlt := h.ty.lt
  have hlt2 := h.fn.lt
  have hws := hw.size
  have h0 := h.only.size
  have hgs := hg.size
  simp at hgs
  have same : ∀ g, (S g ∨ Span w.heap.size w1.heap.size g) → w3.heap[g]? = w1.heap[g]? := by
    intro g hh
    have hl : g < w1.heap.size := by rcases hh with hh | hh; exact (s1 g hh).2; exact hh.2
    rw [hg.block g (by simp; omega) (fun e => ?_), Below.heap_alloc _ _ _ hl]
    rcases hh with hh | hh
    · exact s2 g e.symm hh
    · have := (hlt g e.symm).2; have := hh.1; omega
  refine ⟨by simpa [List.flatMap_append] using hown, ?_, ?_, ?_, fun g => S g ∨ Span w.heap.size w1.heap.size g, ?_, ?_, ?_, ?_, ?_⟩
  · refine (hk.fn.alloc o).kept hg ?_
    cases hv : v2.ownBlock with
    | none => exact .inl rfl
    | some g => exact .inr fun e => h.apart g e.symm hv
  · refine ⟨hg.os.trans hk.only.os, hg.tape.trans hk.only.tape, hg.output.trans hk.only.output, by have := hk.only.size; omega, fun k hkk hn ho => ?_⟩
    have h1 := hk.only.size
    rw [hg.block k (by simp; omega) (fun e => by have := (hlt k e.symm).1; omega), Below.heap_alloc _ _ _ (by omega)]
    exact hk.only.block k hkk hn ho
  · intro g e hv
    have := (hlt2 g hv).2
    rcases hf g e with e | e
    · exact h.apart g e hv
    · simp at e; omega
  · intro g hh
    rcases hh with hh | hh
    · exact ⟨(s1 g hh).1, by have := (s1 g hh).2; omega⟩
    · have := hh.1; have := hh.2; exact ⟨by omega, by omega⟩
  · intro g e hh
    rcases hf g e with e | e
    · rcases hh with hh | hh
      · exact s2 g e hh
      · have := (hlt g e).2; have := hh.1; omega
    · simp at e
      rcases hh with hh | hh
      · have := (s1 g hh).2; omega
      · have := hh.2; omega
  · intro g e hh
    rcases hh with hh | hh
    · exact s3 g e hh
    · have := (hlt2 g e).2; have := hh.1; omega
  · intro z hz
    rcases List.mem_append.1 hz with hz | hz
    · exact (s4 z hz).keep (fun _ h => .inl h) (fun g hg => same g (.inl hg))
    · rw [List.mem_singleton] at hz
      subst hz
      exact hy.keep (fun _ h => .inr h) (fun g hg => same g (.inr hg))
  · intro z hz
    exact (s5 z hz).keep (fun _ h => .inl h) (fun g hg => same g (.inl hg))

theorem SM.growS {w0 w w1 w3 : World} {rb b1 : Nat} {v1 v2 v' : Value} {l1 : List NE} {l2 : List SE} {o : Obj} {y : SE} (h : SM w0 w rb b1 v1 l1 v2 l2) (hw : Only rb w w1) (hrb : rb < w0.heap.size) (hb1 : b1 < w0.heap.size)
    (hy : SigV w1 (Span w.heap.size w1.heap.size) y.2.2 y.2.1) (hown : w3.ownsRow w0.heap.size 61 6 v' (l2.length + 1) (l2.flatMap encS ++ encS y)) (hg : (w1.alloc o).grownBy w3 v2.ownBlock)
    (hf : ∀ k, v'.ownBlock = some k → v2.ownBlock = some k ∨ (w1.alloc o).heap.size ≤ k) : SM w0 w3 rb b1 v1 l1 v' (l2 ++ [y]) := by
  have hk := h.keep hw (.inl rfl) hrb hb1
  obtain ⟨S, s1, s2, s3, s4, s5⟩ := hk.far
  have hlt := h.fn.lt
  have hlt2 := h.ty.lt
  have hws := hw.size
  have h0 := h.only.size
  have hgs := hg.size
  simp at hgs
  have same : ∀ g, (S g ∨ Span w.heap.size w1.heap.size g) → w3.heap[g]? = w1.heap[g]? := by
    intro g hh
    have hl : g < w1.heap.size := by rcases hh with hh | hh; exact (s1 g hh).2; exact hh.2
    rw [hg.block g (by simp; omega) (fun e => ?_), Below.heap_alloc _ _ _ hl]
    rcases hh with hh | hh
    · exact s3 g e.symm hh
    · have := (hlt g e.symm).2; have := hh.1; omega
  refine ⟨?_, by simpa [List.flatMap_append] using hown, ?_, ?_, fun g => S g ∨ Span w.heap.size w1.heap.size g, ?_, ?_, ?_, ?_, ?_⟩
  · refine (hk.ty.alloc o).kept hg ?_
    cases hv : v1.ownBlock with
    | none => exact .inl rfl
    | some g => exact .inr fun e => h.apart g hv e.symm
  · refine ⟨hg.os.trans hk.only.os, hg.tape.trans hk.only.tape, hg.output.trans hk.only.output, by have := hk.only.size; omega, fun k hkk hn ho => ?_⟩
    have h1 := hk.only.size
    rw [hg.block k (by simp; omega) (fun e => by have := (hlt k e.symm).1; omega), Below.heap_alloc _ _ _ (by omega)]
    exact hk.only.block k hkk hn ho
  · intro g hv e
    have := (hlt2 g hv).2
    rcases hf g e with e | e
    · exact h.apart g hv e
    · simp at e; omega
  · intro g hh
    rcases hh with hh | hh
    · exact ⟨(s1 g hh).1, by have := (s1 g hh).2; omega⟩
    · have := hh.1; have := hh.2; exact ⟨by omega, by omega⟩
  · intro g e hh
    rcases hh with hh | hh
    · exact s2 g e hh
    · have := (hlt2 g e).2; have := hh.1; omega
  · intro g e hh
    rcases hf g e with e | e
    · rcases hh with hh | hh
      · exact s3 g e hh
      · have := (hlt g e).2; have := hh.1; omega
    · simp at e
      rcases hh with hh | hh
      · have := (s1 g hh).2; omega
      · have := hh.2; omega
  · intro z hz
    exact (s4 z hz).keep (fun _ h => .inl h) (fun g hg => same g (.inl hg))
  · intro z hz
    rcases List.mem_append.1 hz with hz | hz
    · exact (s5 z hz).keep (fun _ h => .inl h) (fun g hg => same g (.inl hg))
    · rw [List.mem_singleton] at hz
      subst hz
      exact hy.keep (fun _ h => .inr h) (fun g hg => same g (.inr hg))
end Sh
end Go.Proofs.YtnnnjonodnkccaaGreatDoor
