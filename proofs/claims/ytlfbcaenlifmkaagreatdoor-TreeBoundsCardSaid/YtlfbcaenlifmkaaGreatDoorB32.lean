/- A row that grows by one thing, and the variable that it is stored in: what memory holds while the statement is run, in whatever order. -/
import Derived.Test.YtlfbcaenlifmkaaGreatDoorB31
namespace Go.Proofs.YtlfbcaenlifmkaaGreatDoor
open Go.RowKit
namespace Tr
open Sc Sh Sp
/-- What is told of the statement: the literal is laid (l5), it is put behind (l6), the thing itself is stored (l8), the row is stored (l10). -/
structure ApM (w0 : World) (base : Nat) (e : TypeId) (sz : Nat) (pb po : Nat) (v : Value) (n : Nat) (xs zr nw : List Value) (l5 l6 l8 l10 : Bool) (x : Nat × Nat × Nat) (W : World) : Prop where
  os : W.os = w0.os
  tape : W.tape = w0.tape
  output : W.output = w0.output
  size : w0.heap.size ≤ W.heap.size
  chg : ∀ g, g < w0.heap.size → (l10 = true → g ≠ pb) → (l6 = true → some g ≠ v.ownBlock) → W.heap[g]? = w0.heap[g]?
  slot : l10 = true → W.heap[pb]? = (w0.setCell ⟨pb, po, none⟩ (.slice (some ⟨x.2.1, 0, none⟩) (n + 1) x.2.2)).heap[pb]?
  lit : l5 = true → l6 = false → W.heap[x.1]? = some (.cells zr.toArray e (0, 0)) ∧ w0.heap.size ≤ x.1
  own : l6 = true → W.ownsRow base e sz (.slice (some ⟨x.2.1, 0, none⟩) (n + 1) x.2.2) (n + 1) (xs ++ if l8 then nw else zr)
  new : l6 = true → v.ownBlock = some x.2.1 ∨ w0.heap.size ≤ x.2.1
section
variable {w0 W W' : World} {base : Nat} {e : TypeId} {sz pb po n : Nat} {v : Value} {xs zr nw : List Value} {l5 l6 l8 l10 : Bool} {x : Nat × Nat × Nat}
theorem ApM.startD : ApM w0 base e sz pb po v n xs zr nw false false false false x w0.drew :=
  ⟨rfl, rfl, rfl, Nat.le_refl _, fun _ _ _ _ => rfl, (fun h => by cases h), (fun h => by cases h), (fun h => by cases h), (fun h => by cases h)⟩
theorem ApM.startDD : ApM w0 base e sz pb po v n xs zr nw false false false false x w0.drew.drew :=
  ⟨rfl, rfl, rfl, Nat.le_refl _, fun _ _ _ _ => rfl, (fun h => by cases h), (fun h => by cases h), (fun h => by cases h), (fun h => by cases h)⟩
theorem ApM.lay (h : ApM w0 base e sz pb po v n xs zr nw false false l8 false x W) : ApM w0 base e sz pb po v n xs zr nw true false l8 false (W.heap.size, x.2) (W.alloc (.cells zr.toArray e)) :=
  ⟨h.os, h.tape, h.output, by have := h.size; simp; omega, fun g hg h1 h2 => (Below.heap_alloc _ _ _ (by have := h.size; omega)).trans (h.chg g hg h1 h2), (fun h => by cases h), fun _ _ => ⟨heap_alloc_new W _, h.size⟩, (fun h => by cases h), (fun h => by cases h)⟩
/-- The row itself, ahead of append. -/
theorem ApM.row (h : ApM w0 base e sz pb po v n xs zr nw l5 false l8 false x W) (ho : w0.ownsRow base e sz v n xs) : W.ownsRow base e sz v n xs :=
  ownsRow_same ho (fun g hg => h.chg g (ho.lt g hg).2 (fun e => by cases e) (fun e => by cases e))
theorem ApM.app {g c : Nat} (h : ApM w0 base e sz pb po v n xs zr nw true false false false x W) (hown : W'.ownsRow base e sz (.slice (some ⟨g, 0, none⟩) (n + 1) c) (n + 1) (xs ++ zr)) (hg : W.grownBy W' v.ownBlock) (hf : v.ownBlock = some g ∨ W.heap.size ≤ g) :
    ApM w0 base e sz pb po v n xs zr nw true true false false (x.1, g, c) W' :=
  ⟨hg.os.trans h.os, hg.tape.trans h.tape, hg.output.trans h.output, Nat.le_trans h.size hg.size, fun k hk h1 h2 => (hg.block k (Nat.lt_of_lt_of_le hk h.size) (h2 rfl)).trans (h.chg k hk h1 (fun e => by cases e)), (fun h => by cases h), (fun _ h => by cases h), fun _ => hown,
    fun _ => hf.imp id (fun h2 => by have := h.size; simp only; omega)⟩
theorem ApM.node (h : ApM w0 base e sz pb po v n xs zr nw l5 true false l10 x W) (hpb : pb < w0.heap.size) (hv : v.ownBlock ≠ some pb) (hW : W'.ownsRow base e sz (.slice (some ⟨x.2.1, 0, none⟩) (n + 1) x.2.2) (n + 1) (xs ++ nw)) (ho : Only x.2.1 W W') :
    ApM w0 base e sz pb po v n xs zr nw l5 true true l10 x W' := by
  have hs := h.size
  have hn := h.new rfl
  have ne : ∀ k, k < w0.heap.size → some k ≠ v.ownBlock → k ≠ x.2.1 := fun k hk h1 e => by
    rcases hn with hn | hn
    · exact h1 (by rw [hn, e])
    · omega
  refine ⟨ho.os.trans h.os, ho.tape.trans h.tape, ho.output.trans h.output, Nat.le_trans hs ho.size, fun k hk h1 h2 => (ho.block k (by omega) (fun e => ne k hk (h2 rfl) (by cases e; rfl))).trans (h.chg k hk h1 h2), fun e1 => ?_, (fun _ h => by cases h), fun _ => hW, fun _ => hn⟩
  exact (ho.block pb (by omega) (fun e => ne pb hpb (fun e2 => hv e2.symm) (by cases e; rfl))).trans (h.slot e1)
theorem ApM.put (h : ApM w0 base e sz pb po v n xs zr nw l5 true l8 false x W) (hpb : pb < w0.heap.size) (hv : v.ownBlock ≠ some pb) :
    ApM w0 base e sz pb po v n xs zr nw l5 true l8 true x (W.setCell ⟨pb, po, none⟩ (.slice (some ⟨x.2.1, 0, none⟩) (n + 1) x.2.2)) := by
  have hs := h.size
  have ho := (Only.refl pb W).setCell po (.slice (some ⟨x.2.1, 0, none⟩) (n + 1) x.2.2)
  have hn := h.new rfl
  have hne : x.2.1 ≠ pb := fun e => by
    rcases hn with hn | hn
    · exact hv (by rw [hn, e])
    · omega
  have hb : W.heap[pb]? = w0.heap[pb]? := h.chg pb hpb (fun e => by cases e) (fun _ e => hv e.symm)
  refine ⟨h.os, h.tape, h.output, by simpa using hs, fun k hk h1 h2 => (ho.block k (by omega) (fun e => h1 rfl (by cases e; rfl))).trans (h.chg k hk (fun e => by cases e) h2), fun _ => ?_, (fun _ h => by cases h), fun _ => ownsRow_same (h.own rfl) (fun g hg => ?_), fun _ => hn⟩
  · unfold World.setCell; simp only [Array.getElem?_modify]; rw [hb]
  · cases hg; exact ho.block _ (by have := (h.own rfl).lt x.2.1 rfl; exact this.2) (fun e => hne (by cases e; rfl))
end
/-- What is left behind a row's growing by one thing, where it is stored in the cell at po of block pb. -/
structure PutW (base : Nat) (e : TypeId) (sz pb po : Nat) (v : Value) (n : Nat) (ys : List Value) (w w' : World) (g c : Nat) : Prop where
  os : w'.os = w.os
  tape : w'.tape = w.tape
  output : w'.output = w.output
  size : w.heap.size ≤ w'.heap.size
  chg : ∀ k, k < w.heap.size → k ≠ pb → some k ≠ v.ownBlock → w'.heap[k]? = w.heap[k]?
  slot : w'.heap[pb]? = (w.setCell ⟨pb, po, none⟩ (.slice (some ⟨g, 0, none⟩) (n + 1) c)).heap[pb]?
  own : w'.ownsRow base e sz (.slice (some ⟨g, 0, none⟩) (n + 1) c) (n + 1) ys
  new : v.ownBlock = some g ∨ w.heap.size ≤ g
theorem ApM.done {w w0 W : World} {base : Nat} {e : TypeId} {sz pb po n : Nat} {v : Value} {xs zr nw : List Value} {x : Nat × Nat × Nat} (h : ApM w0 base e sz pb po v n xs zr nw true true true true x W) (hb : Below w.heap.size w w0) (hpb : pb < w.heap.size) : PutW base e sz pb po v n (xs ++ nw) w W x.2.1 x.2.2 := by
  have hs := hb.size
  refine ⟨h.os.trans hb.os, h.tape.trans hb.tape, h.output.trans hb.output, Nat.le_trans hs h.size, fun k hk h1 h2 => (h.chg k (by omega) (fun _ => h1) (fun _ => h2)).trans (hb.block k hk), ?_, h.own rfl, (h.new rfl).imp id (fun h => by omega)⟩
  rw [h.slot rfl]
  unfold World.setCell; simp only [Array.getElem?_modify]; rw [hb.block pb hpb]
/-- A thing is stored in the last place of a row. -/
theorem exec_store_at {P : Program} {w : World} {ρ : Operand → Value} {o : Oper} (ty : TypeId) (x y : Operand) (ho : o.op = .store ty x y) (g off : Nat) (cells : Array Value) (hx : ρ x = .pointer (some ⟨g, off, none⟩)) (hy : ρ y = .agg cells)
    (t : TypeId) (cur : Array Value) (hg : w.heap[g]? = some (.cells cur t (0, 0))) (hi : (P.info? ty).map (·.size) = some cells.size) (hl : off + cells.size ≤ cur.size) (h1 : cells.all (·.oneCell') = true) :
    (execOp ρ o).run P w = .ok .skip (w.setRow g (cur.toList.take off ++ cells.toList ++ cur.toList.drop (off + cells.size)).toArray) := by
  have hst := run_storeCells_at P g off t cells.toList 0 cur w hg (by simpa using hl) (fun v hv => (Array.all_eq_true_iff_forall_mem.1 h1) v (by simpa using hv))
  unfold execOp
  cases hq : P.info? ty with
  | none => simp [hq] at hi
  | some i =>
    have hs : cells.size = i.size := by simp [hq] at hi; omega
    simp only [Nat.add_zero, Array.length_toList] at hst
    simp [ho, hx, hy, Instr.storeAt, Instr.sureAddr, storeVar, sizeOf, typeInfo, hq, Value.cells, hs, hst]
theorem last_stored {w : World} {base g c n sz : Nat} {e : TypeId} {xs zr : List Value} {cur : Array Value} (h : w.ownsRow base e sz (.slice (some ⟨g, 0, none⟩) (n + 1) c) (n + 1) (xs ++ zr)) (hg : w.heap[g]? = some (.cells cur e (0, 0))) (hx : xs.length = n * sz) (cells : Array Value) (hc : cells.size = sz) :
    (w.setRow g (cur.toList.take (n * sz) ++ cells.toList ++ cur.toList.drop (n * sz + cells.size)).toArray).ownsRow base e sz (.slice (some ⟨g, 0, none⟩) (n + 1) c) (n + 1) (xs ++ cells.toList) ∧ n * sz + cells.size ≤ cur.size := by
  have hm : (n + 1) * sz = n * sz + sz := Nat.succ_mul n sz
  rcases h.2 with ⟨h1, _⟩ | ⟨g', cap, cur', h1, hb, hg', hn, hcm, hcs, ht⟩
  · cases h1
  · cases h1
    rw [hg'] at hg
    cases hg
    have h2 : (n + 1) * sz ≤ c * sz := Nat.mul_le_mul_right _ hn
    have hle : n * sz + cells.size ≤ cur.size := by omega
    refine ⟨⟨by rw [List.length_append, hx, Array.length_toList, hc, hm], .inr ⟨g, c, _, rfl, hb, setRow_heap w g cur _ e _ hg', hn, hcm, ?_, ?_⟩⟩, hle⟩
    · simp only [List.size_toArray, List.length_append, List.length_take, List.length_drop, Array.length_toList]; omega
    · have e1 : cur.toList.take (n * sz) = xs := by
        have := congrArg (List.take (n * sz)) ht
        rw [List.take_take, List.take_append_of_le_length (by omega), List.take_of_length_le (by omega : xs.length ≤ n * sz)] at this
        rwa [show min (n * sz) ((n + 1) * sz) = n * sz by omega] at this
      have hlen : (xs ++ cells.toList).length = (n + 1) * sz := by rw [List.length_append, hx, hm, show cells.toList.length = cells.size from rfl, hc]
      simp only
      rw [e1, List.take_append_of_le_length (Nat.le_of_eq hlen.symm), List.take_of_length_le (Nat.le_of_eq hlen)]
end Tr
end Go.Proofs.YtlfbcaenlifmkaaGreatDoor
