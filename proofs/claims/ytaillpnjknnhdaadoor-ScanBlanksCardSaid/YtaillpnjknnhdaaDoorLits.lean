/- Slices of integers that came in, and slices written out: what a walk asks of their cells. -/
import Derived.Test.YtaillpnjknnhdaaDoorLawA
import Derived.Test.YtaillpnjknnhdaaDoorRow
namespace Go.Proofs.YtaillpnjknnhdaaDoor
open Go.RowKit
namespace Sc

/-- A slice of integers that came in, as a walk asks of it. -/
def Ints (k : IntKind) (w : World) (a : Option Addr) (len : Nat) (f : Nat → Int) : Prop :=
  len ≤ maxLen ∧ (0 < len → ∃ b off, a = some ⟨b, off, none⟩ ∧ b < w.heap.size ∧ ∀ i, i < len → w.cell? ⟨b, off + i, none⟩ = some (.int k (f i)) ∧ (Lit.int k (f i)).wf = true)
theorem ints_of_row {k : IntKind} {w : World} {a : Option Addr} {len cap : Nat} {zs : List Int} (h : IsRow k w a len cap zs) : Ints k w a len (fun i => zs.getD i 0) := by
  rcases h with ⟨rfl, rfl, _⟩ | ⟨x, rfl, hl, hm, hz, hc, hw⟩
  · exact ⟨by simp, fun h => absurd h (Nat.lt_irrefl _)⟩
  · refine ⟨Nat.le_trans hl hm, fun h0 => ?_⟩
    obtain ⟨b, off, rfl, hcell⟩ := ints_at hc (by omega)
    refine ⟨b, off, rfl, World.block_lt_of_cell? _ _ (hcell 0 (by omega)), fun i hi => ⟨hcell i (by omega), ?_⟩⟩
    have : i < zs.length := by omega
    have e : zs.getD i 0 = zs[i] := by simp [List.getD, List.getElem?_eq_getElem this]
    show (Lit.int k (zs.getD i 0)).wf = true
    rw [e]; exact hw _ (List.getElem_mem this)
theorem Ints.below {k : IntKind} {w w' : World} {a : Option Addr} {len : Nat} {f : Nat → Int} (h : Ints k w a len f) (hb : Below w.heap.size w w') : Ints k w' a len f :=
  ⟨h.1, fun h0 => (h.2 h0).elim fun b ⟨off, e, hlt, hc⟩ => ⟨b, off, e, Nat.lt_of_lt_of_le hlt hb.size, fun i hi => ⟨(hb.cell (p := ⟨b, off + i, none⟩) hlt).trans (hc i hi).1, (hc i hi).2⟩⟩⟩

/-- A value out of five. -/
def at5 {α : Type} (v0 v1 v2 v3 v4 : α) (n : Nat) : α := match n with | 0 => v0 | 1 => v1 | 2 => v2 | 3 => v3 | _ => v4
theorem lit5 (w : World) (v0 v1 v2 v3 v4 : Value) (t : TypeId) (n : Nat) (h : n < 5) : (w.alloc (.cells #[v0, v1, v2, v3, v4] t)).cell? ⟨w.heap.size, n, none⟩ = some (at5 v0 v1 v2 v3 v4 n) := by
  match n, h with
  | 0, _ => simp [at5]
  | 1, _ => simp [at5]
  | 2, _ => simp [at5]
  | 3, _ => simp [at5]
  | 4, _ => simp [at5]

theorem cat_bytes (a b : ByteArray) : (a ++ b).data.toList = a.data.toList ++ b.data.toList := by
  rw [ByteArray.data_append, Array.toList_append]
end Sc
end Go.Proofs.YtaillpnjknnhdaaDoor
