/- What the cards of chapter 1 share: the tables of signs and errors out of what the row lists. -/
import Derived.Test.YtaillpnjknnhdaaDoorRows
import Derived.Test.YtaillpnjknnhdaaDoorScanD
import Derived.ProofKit
import Derived.OpenShut
import Derived.LaidMore
import Derived.Lay
import Derived.Stop.Joined
import Derived.Stop.LaidErr
namespace Go.Proofs.YtaillpnjknnhdaaDoor
open Go.ChangeShapes Go.WideShapes Go.ChangeAt Go.RowKit
namespace Sc

theorem own : ownKnob Tryd.prog.godebug = none := by kernel_rfl
theorem laidOut : laidOutB Tryd.prog = true := by kernel_rfl

/-- What a walk is told of a slice of integers that came in: it is nil; or it leads to a row of 'cap' cells, the numbers 'zs' (the first 'len' are its elements). -/
def IsRow (k : IntKind) (w : World) (a : Option Addr) (len cap : Nat) (zs : List Int) : Prop :=
  (a = none ∧ len = 0 ∧ cap = 0 ∧ zs = []) ∨
  ∃ x, a = some x ∧ len ≤ cap ∧ cap ≤ maxLen ∧ zs.length = cap ∧ (∀ i, i < zs.length → w.cell? (x.add i) = some (.int k (zs.getD i 0))) ∧ ∀ n ∈ zs, (Lit.int k n).wf = true

/-- What every row of this chapter lists. -/
def laidL : List (String × DataW Unit) := Rows.scanTokensRow.laid

theorem blk_of_var {P : Program} {w : World} {n : String} {g : Nat} {cs : Array Value} (hg : P.globalNamed n = some g) (h : w.var? P n = some cs) : g < w.heap.size ∧ ∃ t fr, w.heap[g]? = some (.cells cs t fr) := by
  simp only [World.var?, hg, Option.bind_some] at h
  split at h
  · rename_i cs' t fr e
    obtain rfl := Option.some.inj h
    exact ⟨(Array.getElem?_eq_some_iff.1 e).1, t, fr, e⟩
  · cases h

theorem gSigns : Tryd.prog.globalNamed "sprue/scan.signs" = some 0 := by kernel_rfl
theorem gRange : Tryd.prog.globalNamed "strconv.ErrRange" = some 4 := by kernel_rfl
theorem gSyntax : Tryd.prog.globalNamed "strconv.ErrSyntax" = some 3 := by kernel_rfl
theorem tSigns : (Tryd.prog.globals[0]?).map (·.type) = some 70 := by kernel_rfl
theorem tRange : (Tryd.prog.globals[4]?).map (·.type) = some 73 := by kernel_rfl
theorem tSyntax : (Tryd.prog.globals[3]?).map (·.type) = some 73 := by kernel_rfl

theorem starErr : "*" ++ "errors.errorString" = "*errors.errorString" := by decide
theorem rowErr (u : TypeId) (h : Tryd.prog.typeName? 3 u = some "*errors.errorString") : u = 101 :=
  typeName_ptr_named (nm := "errors.errorString") (by rw [starErr]; kernel_rfl) (by kernel_rfl) (by decide) u (by rw [starErr]; exact h)
theorem iface_of_laid {n : String} {text : List UInt8} {r : List (String × DataW Unit)} {W : World} {g : Nat}
    (h : laidMet Tryd.prog ((n, .iface "*errors.errorString" (.ptr (.agg [.lit (.string text)]))) :: r) W) (hg : Tryd.prog.globalNamed n = some g) (ht : (Tryd.prog.globals[g]?).map (·.type) = some 73) :
    g < W.heap.size ∧ ∃ te pe, W.cell? ⟨g, 0, none⟩ = some (.iface te pe) := by
  obtain ⟨a, s, hv, _⟩ := laid_sentinel h hg ht Tryd.underlying73 rowErr Tryd.underlying101 Tryd.underlying103 rfl rfl Tryd.underlying9 (by kernel_rfl) (by kernel_rfl)
  exact ⟨(blk_of_var hg hv).1, _, _, World.var?_cell hg hv 0⟩

theorem signs_of_laid {r : List (String × DataW Unit)} {W : World} (h : laidMet Tryd.prog (("sprue/scan.signs", Rows.laid_sprue_scan_signs) :: r) W) : SignTab W := by
  obtain ⟨ps, ⟨g0, t0, cs0, f0, p0, q0, hg0, ht0, hv0, hd0, _, _⟩, _, _⟩ := h
  obtain rfl := Option.some.inj (gSigns.symm.trans hg0)
  obtain rfl := Option.some.inj (tSigns.symm.trans ht0)
  obtain ⟨hlt, t, fr, hb⟩ := blk_of_var hg0 hv0
  refine ⟨hlt, t, fr, ?_⟩
  obtain ⟨xs, m, _, ex, hcl, hl, hel⟩ := DataW.trod_array Tryd.underlying70 hd0
  have c9 : Tryd.prog.cellsOf 9 = 1 := by kernel_rfl
  have c70 : Tryd.prog.cellsOf 70 = 15 := by kernel_rfl
  rw [c70] at hcl
  have e3 : (xs.map (·.1)) = signs.map fun l => (.lit (.string l) : DataW Unit) := (DataW.agg.inj (Prod.mk.inj ex).1).symm
  have hcell : ∀ k, k < 15 → cs0.toList[k]? = some (.string (sg k)) := by
    intro k hk
    have hE := hel k hk
    rw [c9, Nat.mul_one, List.getElem?_eq_getElem (by omega)] at hE
    obtain ⟨s, e1, e2, _⟩ := DataW.trod_string Tryd.underlying9 hE
    have e4 : (xs.map (·.1))[k]? = (signs.map fun l => (.lit (.string l) : DataW Unit))[k]? := by rw [e3]
    have hks : k < signs.length := hk
    rw [List.getElem?_map, List.getElem?_map, List.getElem?_eq_getElem (by omega : k < xs.length), List.getElem?_eq_getElem hks, e2] at e4
    simp only [Option.map_some, Option.some.injEq, DataW.lit.injEq, Lit.string.injEq] at e4
    have hs : s = sg k := by
      unfold sg
      rw [List.getD, List.getElem?_eq_getElem hks]
      simp only [Option.getD_some]
      rw [← e4]
    have h0 : ((cs0.toList.drop k).take 1)[0]? = some (.string s) := by rw [e1]; rfl
    rw [← hs]
    simpa using h0
  have : cs0 = sgs := by
    apply Array.ext'
    apply List.ext_getElem?
    intro k
    by_cases hk : k < 15
    · rw [hcell k hk]
      match k, hk with
      | 0, _ => rfl
      | 1, _ => rfl
      | 2, _ => rfl
      | 3, _ => rfl
      | 4, _ => rfl
      | 5, _ => rfl
      | 6, _ => rfl
      | 7, _ => rfl
      | 8, _ => rfl
      | 9, _ => rfl
      | 10, _ => rfl
      | 11, _ => rfl
      | 12, _ => rfl
      | 13, _ => rfl
      | 14, _ => rfl
    · rw [List.getElem?_eq_none (by omega), List.getElem?_eq_none (by simp [sgs]; omega)]
  rw [this] at hb
  exact hb

theorem tabs_of_laid {W : World} (h : laidMetH Tryd.prog laidL W) : SignTab W ∧ ErrTab W := by
  rw [MakeChecks.laidMetH_plain _ _ _ (by kernel_rfl)] at h
  have h4 := h.tail.tail.tail.tail
  have h5 := h4.tail
  have h6 := h5.tail
  have r1 := iface_of_laid h4 gRange tRange
  have r2 := iface_of_laid h5 gSyntax tSyntax
  exact ⟨signs_of_laid h6, r2.1, r1.1, r2.2, r1.2⟩
end Sc
end Go.Proofs.YtaillpnjknnhdaaDoor
