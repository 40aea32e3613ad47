/- What the cards of chapter 3 share: the tables of signs, errors and looks out of what the row lists. -/
import Derived.Test.YtnnnjonodnkccaaGreatDoorRows
import Derived.Test.YtnnnjonodnkccaaGreatDoorSLawA
import Derived.ProofKit
import Derived.OpenShut
import Derived.LaidMore
import Derived.Lay
import Derived.Stop.Joined
import Derived.Stop.LaidErr
namespace Go.Proofs.YtnnnjonodnkccaaGreatDoor
open Go.ChangeShapes Go.WideShapes Go.ChangeAt Go.RowKit
namespace Sc

theorem own : ownKnob Tryz.prog.godebug = none := by kernel_rfl
theorem laidOut : laidOutB Tryz.prog = true := by kernel_rfl

/-- What a walk is told of a slice of integers that came in: it is nil; or it leads to a row of 'cap' cells, the numbers 'zs' (the first 'len' are its elements). -/
def IsRow (k : IntKind) (w : World) (a : Option Addr) (len cap : Nat) (zs : List Int) : Prop :=
  (a = none ∧ len = 0 ∧ cap = 0 ∧ zs = []) ∨
  ∃ x, a = some x ∧ len ≤ cap ∧ cap ≤ maxLen ∧ zs.length = cap ∧ (∀ i, i < zs.length → w.cell? (x.add i) = some (.int k (zs.getD i 0))) ∧ ∀ n ∈ zs, (Lit.int k n).wf = true

/-- What every row of this chapter lists. -/
def laidL : List (String × DataW Unit) := Rows.schOrderRow.laid

theorem blk_of_var {P : Program} {w : World} {n : String} {g : Nat} {cs : Array Value} (hg : P.globalNamed n = some g) (h : w.var? P n = some cs) : g < w.heap.size ∧ ∃ t fr, w.heap[g]? = some (.cells cs t fr) := by
  simp only [World.var?, hg, Option.bind_some] at h
  split at h
  · rename_i cs' t fr e
    obtain rfl := Option.some.inj h
    exact ⟨(Array.getElem?_eq_some_iff.1 e).1, t, fr, e⟩
  · cases h

theorem gSigns : Tryz.prog.globalNamed "sprue/scan.signs" = some 1 := by kernel_rfl
theorem gRange : Tryz.prog.globalNamed "strconv.ErrRange" = some 6 := by kernel_rfl
theorem gSyntax : Tryz.prog.globalNamed "strconv.ErrSyntax" = some 5 := by kernel_rfl
theorem tSigns : (Tryz.prog.globals[1]?).map (·.type) = some 135 := by kernel_rfl
theorem tRange : (Tryz.prog.globals[6]?).map (·.type) = some 123 := by kernel_rfl
theorem tSyntax : (Tryz.prog.globals[5]?).map (·.type) = some 123 := by kernel_rfl

theorem starErr : "*" ++ "errors.errorString" = "*errors.errorString" := by decide
theorem rowErr (u : TypeId) (h : Tryz.prog.typeName? 3 u = some "*errors.errorString") : u = 194 :=
  typeName_ptr_named (nm := "errors.errorString") (by rw [starErr]; kernel_rfl) (by kernel_rfl) (by decide) u (by rw [starErr]; exact h)
theorem iface_of_laid {n : String} {text : List UInt8} {r : List (String × DataW Unit)} {W : World} {g : Nat}
    (h : laidMet Tryz.prog ((n, .iface "*errors.errorString" (.ptr (.agg [.lit (.string text)]))) :: r) W) (hg : Tryz.prog.globalNamed n = some g) (ht : (Tryz.prog.globals[g]?).map (·.type) = some 123) :
    g < W.heap.size ∧ ∃ te pe, W.cell? ⟨g, 0, none⟩ = some (.iface te pe) := by
  obtain ⟨a, s, hv, _⟩ := laid_sentinel h hg ht Tryz.underlying123 rowErr Tryz.underlying194 Tryz.underlying196 rfl rfl Tryz.underlying9 (by kernel_rfl) (by kernel_rfl)
  exact ⟨(blk_of_var hg hv).1, _, _, World.var?_cell hg hv 0⟩

theorem signs_of_laid {r : List (String × DataW Unit)} {W : World} (h : laidMet Tryz.prog (("sprue/scan.signs", Rows.laid_sprue_scan_signs) :: r) W) : SignTab W := by
  obtain ⟨ps, ⟨g0, t0, cs0, f0, p0, q0, hg0, ht0, hv0, hd0, _, _⟩, _, _⟩ := h
  obtain rfl := Option.some.inj (gSigns.symm.trans hg0)
  obtain rfl := Option.some.inj (tSigns.symm.trans ht0)
  obtain ⟨hlt, t, fr, hb⟩ := blk_of_var hg0 hv0
  refine ⟨hlt, t, fr, ?_⟩
  obtain ⟨xs, m, _, ex, hcl, hl, hel⟩ := DataW.trod_array Tryz.underlying135 hd0
  have c9 : Tryz.prog.cellsOf 9 = 1 := by kernel_rfl
  have c70 : Tryz.prog.cellsOf 135 = 15 := by kernel_rfl
  rw [c70] at hcl
  have e3 : (xs.map (·.1)) = signs.map fun l => (.lit (.string l) : DataW Unit) := (DataW.agg.inj (Prod.mk.inj ex).1).symm
  have hcell : ∀ k, k < 15 → cs0.toList[k]? = some (.string (sg k)) := by
    intro k hk
    have hE := hel k hk
    rw [c9, Nat.mul_one, List.getElem?_eq_getElem (by omega)] at hE
    obtain ⟨s, e1, e2, _⟩ := DataW.trod_string Tryz.underlying9 hE
    have e4 : (xs.map (·.1))[k]? = (signs.map fun l => (.lit (.string l) : DataW Unit))[k]? := by rw [e3]
    have hks : k < signs.length := hk
    rw [List.getElem?_map, List.getElem?_map, List.getElem?_eq_getElem (by omega : k < xs.length), List.getElem?_eq_getElem hks, e2] at e4
    simp only [Option.map_some, Option.some.injEq, DataW.lit.injEq, Lit.string.injEq] at e4
    have hs : s = sg k := by
      unfold sg
      rw [List.getD, List.getElem?_eq_getElem hks]
      simp only [Option.getD_some]
      rw [← e4]
    have h0 : ((cs0.toList.drop k).take 1)[0]? = some (.string s) := by rw [e1]; rfl
    rw [← hs]
    simpa using h0
  have : cs0 = sgs := by
    apply Array.ext'
    apply List.ext_getElem?
    intro k
    by_cases hk : k < 15
    · rw [hcell k hk]
      match k, hk with
      | 0, _ => rfl
      | 1, _ => rfl
      | 2, _ => rfl
      | 3, _ => rfl
      | 4, _ => rfl
      | 5, _ => rfl
      | 6, _ => rfl
      | 7, _ => rfl
      | 8, _ => rfl
      | 9, _ => rfl
      | 10, _ => rfl
      | 11, _ => rfl
      | 12, _ => rfl
      | 13, _ => rfl
      | 14, _ => rfl
    · rw [List.getElem?_eq_none (by omega), List.getElem?_eq_none (by simp [sgs]; omega)]
  rw [this] at hb
  exact hb

theorem gLooks : Tryz.prog.globalNamed "sprue/sch.looks" = some 0 := by kernel_rfl
theorem tLooks : (Tryz.prog.globals[0]?).map (·.type) = some 116 := by kernel_rfl

theorem len2 {α : Type} : ∀ {l : List α}, l.length = 2 → ∃ a b, l = [a, b]
  | [a, b], _ => ⟨a, b, rfl⟩
  | [], h => by simp at h
  | [_], h => by simp at h
  | _ :: _ :: _ :: _, h => by simp at h

set_option maxRecDepth 100000 in
theorem look_elem {H : Type} {enc : TypeId × Value → H} {w : World} {base : Nat} {spare : Nat → Bool} {held : Bool} {fuel : Nat} {cs : List Value} {l : List UInt8} {f : Int} {ps : List MemPlace}
    (h : DataW.trod enc Tryz.prog w base spare held fuel 103 cs = some (.agg [.lit (.string l), .lit (.int .i64 f)], ps)) : cs = [.string ⟨l.toArray⟩, .int .i64 f] := by
  obtain ⟨ys, n, _, ex, hlen, hys, hel⟩ := DataW.trod_struct Tryz.underlying103 h
  have c2 : Tryz.prog.cellsOf 103 = 2 := by kernel_rfl
  have cs1 : Tryz.prog.cellsOf 9 = 1 := by kernel_rfl
  have ci1 : Tryz.prog.cellsOf 101 = 1 := by kernel_rfl
  rw [c2] at hlen
  have hy : ys.map (·.1) = [.lit (.string l), .lit (.int .i64 f)] := (DataW.agg.inj (Prod.mk.inj ex).1).symm
  obtain ⟨a, b, rfl⟩ := len2 hlen
  obtain ⟨y0, y1, rfl⟩ : ∃ y0 y1, ys = [y0, y1] := by
    have : ys.length = 2 := by have := congrArg List.length hy; simpa using this
    exact len2 this
  have h0 := hel 0 _ rfl
  have h1 := hel 1 _ rfl
  simp only [cs1, ci1, List.drop_zero, List.take_succ_cons, List.take_zero, List.drop_succ_cons, List.getElem?_cons_zero, List.getElem?_cons_succ, List.map_cons, List.map_nil, List.cons.injEq, and_true] at h0 h1 hy
  obtain ⟨s, e1, e2, _⟩ := DataW.trod_string Tryz.underlying9 h0
  obtain ⟨z, e3, e4, _⟩ := DataW.trod_int Tryz.underlying101 h1
  rw [e2, e4] at hy
  simp only [DataW.lit.injEq, Lit.string.injEq, Lit.int.injEq, true_and] at hy
  obtain ⟨rfl, rfl⟩ := hy
  cases e1; cases e3; rfl

theorem looks_of_laid {r : List (String × DataW Unit)} {W : World} (h : laidMet Tryz.prog (("sprue/sch.looks", Rows.laid_sprue_sch_looks) :: r) W) : Sh.LookTab W := by
  obtain ⟨ps, ⟨g0, t0, cs0, f0, p0, q0, hg0, ht0, hv0, hd0, _, _⟩, _, _⟩ := h
  obtain rfl := Option.some.inj (gLooks.symm.trans hg0)
  obtain rfl := Option.some.inj (tLooks.symm.trans ht0)
  obtain ⟨hlt, t, fr, hb⟩ := blk_of_var hg0 hv0
  refine ⟨t, fr, ?_⟩
  obtain ⟨xs, m, _, ex, hcl, hl, hel⟩ := DataW.trod_array Tryz.underlying116 hd0
  have c2 : Tryz.prog.cellsOf 103 = 2 := by kernel_rfl
  have c20 : Tryz.prog.cellsOf 116 = 20 := by kernel_rfl
  rw [c20] at hcl
  have e3 : xs.map (·.1) = (List.range 10).map fun k => (.agg [.lit (.string (Sh.lkw k)), .lit (.int .i64 (Sh.lkf k))] : DataW Unit) := (DataW.agg.inj (Prod.mk.inj ex).1).symm
  have hcell : ∀ k, k < 10 → (cs0.toList.drop (k * 2)).take 2 = [.string ⟨(Sh.lkw k).toArray⟩, .int .i64 (Sh.lkf k)] := by
    intro k hk
    have hE := hel k hk
    rw [c2, List.getElem?_eq_getElem (by omega)] at hE
    have e4 : (xs.map (·.1))[k]? = ((List.range 10).map fun k => (.agg [.lit (.string (Sh.lkw k)), .lit (.int .i64 (Sh.lkf k))] : DataW Unit))[k]? := by rw [e3]
    rw [List.getElem?_map, List.getElem?_map, List.getElem?_eq_getElem (by omega : k < xs.length), List.getElem?_range hk] at e4
    simp only [Option.map_some, Option.some.injEq] at e4
    obtain ⟨pl, hpl⟩ : ∃ pl, xs[k]'(by omega) = (.agg [.lit (.string (Sh.lkw k)), .lit (.int .i64 (Sh.lkf k))], pl) := ⟨(xs[k]'(by omega)).2, by rw [← e4]⟩
    rw [hpl] at hE
    exact look_elem hE
  have : cs0 = Sh.lks := by
    apply Array.ext'
    apply List.ext_getElem?
    intro j
    by_cases hj : j < 20
    · have hc := congrArg (fun l : List Value => l[j % 2]?) (hcell (j / 2) (by omega))
      rw [List.getElem?_take_of_lt (by omega), List.getElem?_drop, show j / 2 * 2 + j % 2 = j by omega] at hc
      rw [hc]
      match j, hj with
      | 0, _ => rfl
      | 1, _ => rfl
      | 2, _ => rfl
      | 3, _ => rfl
      | 4, _ => rfl
      | 5, _ => rfl
      | 6, _ => rfl
      | 7, _ => rfl
      | 8, _ => rfl
      | 9, _ => rfl
      | 10, _ => rfl
      | 11, _ => rfl
      | 12, _ => rfl
      | 13, _ => rfl
      | 14, _ => rfl
      | 15, _ => rfl
      | 16, _ => rfl
      | 17, _ => rfl
      | 18, _ => rfl
      | 19, _ => rfl
      | j + 20, hj => exact absurd hj (by omega)
    · rw [List.getElem?_eq_none (by omega), List.getElem?_eq_none (by simp [Sh.lks]; omega)]
  rw [this] at hb
  exact hb

theorem tabs_of_laid {W : World} (h : laidMetH Tryz.prog laidL W) : Sh.Tab3 W := by
  rw [MakeChecks.laidMetH_plain _ _ _ (by kernel_rfl)] at h
  have h4 := h.tail.tail.tail.tail
  have h5 := h4.tail
  have h6 := h5.tail
  have h7 := h6.tail
  have r1 := iface_of_laid h4 gRange tRange
  have r2 := iface_of_laid h5 gSyntax tSyntax
  exact ⟨⟨signs_of_laid h6, r2.1, r1.1, r2.2, r1.2⟩, looks_of_laid h7⟩
end Sc
end Go.Proofs.YtnnnjonodnkccaaGreatDoor
