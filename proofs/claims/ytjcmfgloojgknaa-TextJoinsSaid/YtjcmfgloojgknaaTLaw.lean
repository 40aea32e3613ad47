/- What the laws of chapter 2 share: known, within, a part of a row in memory, slices of integers that came in. -/
import Derived.Test.YtjcmfgloojgknaaTRef
import Derived.ProofKit
import Derived.OpenShut
import Derived.KernelRfl
namespace Go.Proofs.Ytjcmfgloojgknaa
open Go.RowKit Go.WideShapes Go.ChangeShapes
namespace Tx

/-- A part of the row, in memory. -/
theorem row_at {T : TypeId} {w : World} {base g cap : Nat} {ps : List P} (h : w.ownsRow base T 3 (.slice (some ⟨g, 0, none⟩) ps.length cap) ps.length (ps.flatMap partCells)) (i : Nat) (hi : i < ps.length) :
    w.cell? ⟨g, i * 3, none⟩ = some (.bool ps[i].act) ∧ w.cell? ⟨g, i * 3 + 1, none⟩ = some (.string ⟨ps[i].s.toArray⟩) ∧ w.cell? ⟨g, i * 3 + 2, none⟩ = some (.int .i64 ps[i].at_) := by
  have hx : ∀ (l : List P) (i : Nat) (hi : i < l.length) (j : Nat), j < 3 → (l.flatMap partCells)[i * 3 + j]? = (partCells l[i])[j]? := by
    intro l
    induction l with
    | nil => intro i hi; simp at hi
    | cons t r ih =>
      intro i hi j hj
      rw [List.flatMap_cons]
      cases i with
      | zero => rw [List.getElem?_append_left (by simp [partCells]; omega)]; simp
      | succ i =>
        rw [List.getElem?_append_right (by simp [partCells]; omega)]
        have := ih i (by simpa using hi) j hj
        simp only [List.getElem_cons_succ]
        rw [← this]
        congr 1
        simp [partCells]; omega
  refine ⟨?_, ?_, ?_⟩
  · have := h.cellAt (i * 3) (by omega); rw [this]; exact hx ps i hi 0 (by omega)
  · have := h.cellAt (i * 3 + 1) (by omega); rw [this]; exact hx ps i hi 1 (by omega)
  · have := h.cellAt (i * 3 + 2) (by omega); rw [this]; exact hx ps i hi 2 (by omega)

theorem row_some {T : TypeId} {w : World} {base : Nat} {v : Value} {ps : List P} (h : w.ownsRow base T 3 v ps.length (ps.flatMap partCells)) (h0 : 0 < ps.length) : ∃ g cap, v = .slice (some ⟨g, 0, none⟩) ps.length cap ∧ base ≤ g ∧ g < w.heap.size := by
  rcases h.2 with ⟨_, hn⟩ | ⟨g, cap, cur, rfl, hb, hg, _⟩
  · omega
  · exact ⟨g, cap, rfl, hb, (Array.getElem?_eq_some_iff.1 hg).1⟩

theorem known1 : splitL [97, 123, 123, 32, 34, 125, 125, 34, 32, 125, 125, 98] = (0, [⟨false, [97], 0⟩, ⟨true, [32, 34, 125, 125, 34, 32], 1⟩, ⟨false, [98], 11⟩]) := by kernel_rfl

set_option maxRecDepth 100000 in
set_option maxHeartbeats 800000 in
theorem known_any (w : World) (hM : MaxTab w) :
    Calls Try.prog 9 #[] w fun e w' => e = .returned (.bool true) ∧ Below w.heap.size w w' := by
  have c1 := Split_any ⟨#[97, 123, 123, 32, 34, 125, 125, 34, 32, 125, 125, 98]⟩ w (by decide) hM
  rw [show (⟨#[97, 123, 123, 32, 34, 125, 125, 34, 32, 125, 125, 98]⟩ : ByteArray).data.toList = [97, 123, 123, 32, 34, 125, 125, 34, 32, 125, 125, 98] from rfl] at c1
  unfold SplitPost at c1
  rw [known1] at c1
  have C1 := Lib.hid c1
  clear c1 hM
  go_enter Try.func9, Try.ntmps9
  go_wp2_with fail
  refine C1.out.mono ?_
  rintro e w1 ⟨hb1, v, rfl, ho⟩
  obtain ⟨g, cap, rfl, hgb, hgw⟩ := row_some ho (by decide)
  have r1 := (row_at ho 1 (by decide)).1
  have r1' : w1.cell? ⟨g, 3, none⟩ = some (.bool true) := r1
  have r2 := (row_at ho 1 (by decide)).2.1
  have r2' : w1.cell? ⟨g, 4, none⟩ = some (.string ⟨#[32, 34, 125, 125, 34, 32]⟩) := r2
  have r3 := (row_at ho 2 (by decide)).2.2
  have r3' : w1.cell? ⟨g, 8, none⟩ = some (.int .i64 11) := r3
  clear r1 r2 r3 ho C1
  go_wp2
  go_ret
  exact ⟨rfl, hb1⟩

set_option maxHeartbeats 400000 in
/-- within: the remainder from 0 on. -/
theorem within_any (a n : Int) (w : World) (hn : 0 < n) (hn2 : n ≤ 1000000) (h1 : -9223372036854775808 ≤ a) (h2 : a ≤ 9223372036854775807) :
    Calls Try.prog 13 #[.int .i64 a, .int .i64 n] w fun e w' => e = .returned (.int .i64 (a % n)) ∧ w = w' := by
  have hb1 := Int.emod_nonneg a (show n ≠ 0 by omega)
  have hb2 := Int.emod_lt_of_pos a hn
  by_cases h0 : 0 ≤ a
  · go_enter Try.func13, Try.ntmps13
    go_wp2
    go_ret
    exact ⟨rfl, rfl⟩
  · have ht : a.tmod n = a % n - if 0 ≤ a ∨ n ∣ a then 0 else (n.natAbs : Int) := by rw [Int.tmod_eq_emod]; split <;> rfl
    by_cases hd : n ∣ a
    · have e0 : a % n = 0 := Int.emod_eq_zero_of_dvd hd
      rw [if_pos (Or.inr hd), e0] at ht
      rw [e0]
      clear hd e0
      have l1 : 0 ≤ a.tmod n := by omega
      have l2 : a.tmod n ≤ 0 := by omega
      clear hb1 hb2
      have HT := Lib.hid ht; clear ht
      go_enter Try.func13, Try.ntmps13
      go_wp2
      go_ret
      exact ⟨ret_int (by have := HT.out; omega), rfl⟩
    · rw [if_neg (fun h => h.elim h0 hd)] at ht
      have e0 : 0 < a % n := by
        rcases Int.lt_or_eq_of_le hb1 with h | h
        · exact h
        · exact absurd (Int.dvd_of_emod_eq_zero h.symm) hd
      have l1 : a.tmod n < 0 := by omega
      have l2 : -n < a.tmod n := by omega
      have l3 : a.tmod n + n = a % n := by omega
      clear hb1 hb2 ht hd e0
      have HT := Lib.hid l3; clear l3
      go_enter Try.func13, Try.ntmps13
      go_wp2
      go_ret
      exact ⟨ret_int (by have := HT.out; omega), rfl⟩

/-- What a walk is told of a slice of integers that came in: it is nil; or it leads to a row of 'cap' cells, the numbers 'zs' (the first 'len' are its elements). -/
def IsRow (k : IntKind) (w : World) (a : Option Addr) (len cap : Nat) (zs : List Int) : Prop :=
  (a = none ∧ len = 0 ∧ cap = 0 ∧ zs = []) ∨
  ∃ x, a = some x ∧ len ≤ cap ∧ cap ≤ maxLen ∧ zs.length = cap ∧ (∀ i, i < zs.length → w.cell? (x.add i) = some (.int k (zs.getD i 0))) ∧ ∀ n ∈ zs, (Lit.int k n).wf = true
/-- .. and as a walk asks of it. -/
def Ints (k : IntKind) (w : World) (a : Option Addr) (len : Nat) (f : Nat → Int) : Prop :=
  len ≤ maxLen ∧ (0 < len → ∃ b off, a = some ⟨b, off, none⟩ ∧ b < w.heap.size ∧ ∀ i, i < len → w.cell? ⟨b, off + i, none⟩ = some (.int k (f i)) ∧ (Lit.int k (f i)).wf = true)
theorem ints_of_row {k : IntKind} {w : World} {a : Option Addr} {len cap : Nat} {zs : List Int} (h : IsRow k w a len cap zs) : Ints k w a len (fun i => zs.getD i 0) := by
  rcases h with ⟨rfl, rfl, _⟩ | ⟨x, rfl, hl, hm, hz, hc, hw⟩
  · exact ⟨by simp, fun h => absurd h (Nat.lt_irrefl _)⟩
  · refine ⟨Nat.le_trans hl hm, fun h0 => ?_⟩
    obtain ⟨b, off, rfl, hcell⟩ := ints_at hc (by omega)
    refine ⟨b, off, rfl, World.block_lt_of_cell? _ _ (hcell 0 (by omega)), fun i hi => ⟨hcell i (by omega), ?_⟩⟩
    have : i < zs.length := by omega
    have e : zs.getD i 0 = zs[i] := by simp [List.getD, List.getElem?_eq_getElem this]
    show (Lit.int k (zs.getD i 0)).wf = true
    rw [e]; exact hw _ (List.getElem_mem this)

theorem Ints.below {k : IntKind} {w w' : World} {a : Option Addr} {len : Nat} {f : Nat → Int} (h : Ints k w a len f) (hb : Below w.heap.size w w') : Ints k w' a len f :=
  ⟨h.1, fun h0 => (h.2 h0).elim fun b ⟨off, e, hlt, hc⟩ => ⟨b, off, e, Nat.lt_of_lt_of_le hlt hb.size, fun i hi => ⟨(hb.cell (p := ⟨b, off + i, none⟩) hlt).trans (hc i hi).1, (hc i hi).2⟩⟩⟩

theorem own : ownKnob Try.prog.godebug = none := by kernel_rfl
theorem laidOut : laidOutB Try.prog = true := by kernel_rfl
theorem max_of_shape {W : World} (h : W.ShapedOpen Try.prog) : MaxTab W := by
  obtain ⟨m, hm⟩ := Try.laysM143.s1_3 W h
  exact ⟨World.block_lt_of_cell? _ _ hm, m, hm⟩
theorem rep_snoc (p : List UInt8) (j : Nat) (u : UInt8) : p ++ List.replicate (j + 1) u = (p ++ List.replicate j u) ++ [u] := by
  rw [List.replicate_succ', List.append_assoc]
end Tx
end Go.Proofs.Ytjcmfgloojgknaa
