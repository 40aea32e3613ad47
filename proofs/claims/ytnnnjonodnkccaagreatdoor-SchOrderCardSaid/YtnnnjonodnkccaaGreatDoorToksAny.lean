/- Tokens at every source; the words of a row; the two tables. -/
import Derived.Test.YtnnnjonodnkccaaGreatDoorScanG
import Derived.KernelRfl
namespace Go.Proofs.YtnnnjonodnkccaaGreatDoor
open Go.RowKit
namespace Sc

set_option maxHeartbeats 400000 in
theorem Tokens_long (s : ByteArray) (w : World) (hs : s.size ≤ maxLen) (h : 1500 < s.size) :
    Calls Tryz.prog 27 #[.string s] w (ToksPost w s.data.toList) := by
  have hT : toks s.data.toList = (4, []) := by unfold toks; rw [if_pos (by rw [bytes_len]; exact h)]
  have HT := Lib.hid hT; clear hT
  unfold maxLen at hs
  go_enter Tryz.func27, Tryz.ntmps27
  go_wp2
  go_ret2
  refine ⟨Below.refl _ _, .slice none 0 0, ?_, ?_⟩
  · rw [HT.out]; rfl
  · rw [HT.out]; exact World.ownsRow_nil _ _ _ _

theorem Tokens_any (s : ByteArray) (w : World) (hs : s.size ≤ maxLen) (hS : SignTab w) (hE : ErrTab w) :
    Calls Tryz.prog 27 #[.string s] w (ToksPost w s.data.toList) := by
  by_cases h : 1500 < s.size
  · exact Tokens_long s w hs h
  · exact Tokens_in s w (by omega) hS hE

/-- The two tables that scan leans on. -/
def Tabs (w : World) : Prop := SignTab w ∧ ErrTab w
theorem Tabs.below {w w' : World} (h : Tabs w) (hb : Below w.heap.size w w') : Tabs w' := ⟨h.1.below hb, h.2.below hb⟩

/-- A word of the row, in memory. -/
theorem row_at {w : World} {base g cap : Nat} {ts : List T} (h : w.ownsRow base 96 4 (.slice (some ⟨g, 0, none⟩) ts.length cap) ts.length (ts.flatMap tokCells)) (i : Nat) (hi : i < ts.length) :
    w.cell? ⟨g, i * 4, none⟩ = some (.int .i64 ts[i].kind) ∧ w.cell? ⟨g, i * 4 + 1, none⟩ = some (.string ⟨ts[i].text.toArray⟩) ∧ w.cell? ⟨g, i * 4 + 2, none⟩ = some (.int .i64 ts[i].n) ∧ w.cell? ⟨g, i * 4 + 3, none⟩ = some (.int .i64 ts[i].at_) := by
  have hx : ∀ (l : List T) (i : Nat) (hi : i < l.length) (j : Nat), j < 4 → (l.flatMap tokCells)[i * 4 + j]? = (tokCells l[i])[j]? := by
    intro l
    induction l with
    | nil => intro i hi; simp at hi
    | cons t r ih =>
      intro i hi j hj
      rw [List.flatMap_cons]
      cases i with
      | zero => rw [List.getElem?_append_left (by simp [tokCells]; omega)]; simp
      | succ i =>
        rw [List.getElem?_append_right (by simp [tokCells]; omega)]
        have := ih i (by simpa using hi) j hj
        simp only [List.getElem_cons_succ]
        rw [← this]
        congr 1
        simp [tokCells]; omega
  refine ⟨?_, ?_, ?_, ?_⟩
  · have := h.cellAt (i * 4) (by omega); rw [this]; exact hx ts i hi 0 (by omega)
  · have := h.cellAt (i * 4 + 1) (by omega); rw [this]; exact hx ts i hi 1 (by omega)
  · have := h.cellAt (i * 4 + 2) (by omega); rw [this]; exact hx ts i hi 2 (by omega)
  · have := h.cellAt (i * 4 + 3) (by omega); rw [this]; exact hx ts i hi 3 (by omega)

theorem row_some {w : World} {base : Nat} {v : Value} {ts : List T} (h : w.ownsRow base 96 4 v ts.length (ts.flatMap tokCells)) (h0 : 0 < ts.length) : ∃ g cap, v = .slice (some ⟨g, 0, none⟩) ts.length cap ∧ base ≤ g ∧ g < w.heap.size := by
  rcases h.2 with ⟨_, hn⟩ | ⟨g, cap, cur, rfl, hb, hg, _⟩
  · omega
  · exact ⟨g, cap, rfl, hb, (Array.getElem?_eq_some_iff.1 hg).1⟩

end Sc
end Go.Proofs.YtnnnjonodnkccaaGreatDoor
