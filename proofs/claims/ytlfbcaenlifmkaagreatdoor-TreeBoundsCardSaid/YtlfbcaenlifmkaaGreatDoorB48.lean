/- What the cards of chapter 7 share: the tables of signs, errors and verbs out of what the row lists; a library variable out of the world's shape. -/
import Derived.Test.YtlfbcaenlifmkaaGreatDoorRows
import Derived.Test.YtlfbcaenlifmkaaGreatDoorB47
import Derived.HandedShaped
import Derived.ProofKit
import Derived.OpenShut
import Derived.LaidMore
import Derived.Lay
import Derived.Stop.Joined
import Derived.Stop.LaidErr
namespace Go.Proofs.YtlfbcaenlifmkaaGreatDoor
open Go.ChangeShapes Go.WideShapes Go.ChangeAt Go.RowKit
namespace Sc
theorem own : ownKnob Tryz.prog.godebug = none := by kernel_rfl
theorem laidOut : laidOutB Tryz.prog = true := by kernel_rfl
/-- What every row of this chapter lists. -/
def laidL : List (String × DataW Unit) := Rows.treeBoundsRow.laid
theorem blk_of_var {P : Program} {w : World} {n : String} {g : Nat} {cs : Array Value} (hg : P.globalNamed n = some g) (h : w.var? P n = some cs) : g < w.heap.size ∧ ∃ t fr, w.heap[g]? = some (.cells cs t fr) := by
  simp only [World.var?, hg, Option.bind_some] at h
  split at h
  · rename_i cs' t fr e
    obtain rfl := Option.some.inj h
    exact ⟨(Array.getElem?_eq_some_iff.1 e).1, t, fr, e⟩
  · cases h
theorem gSigns : Tryz.prog.globalNamed "sprue/scan.signs" = some 0 := by kernel_rfl
theorem gRange : Tryz.prog.globalNamed "strconv.ErrRange" = some 7 := by kernel_rfl
theorem gSyntax : Tryz.prog.globalNamed "strconv.ErrSyntax" = some 6 := by kernel_rfl
theorem tSigns : (Tryz.prog.globals[0]?).map (·.type) = some 217 := by kernel_rfl
theorem tRange : (Tryz.prog.globals[7]?).map (·.type) = some 197 := by kernel_rfl
theorem tSyntax : (Tryz.prog.globals[6]?).map (·.type) = some 197 := by kernel_rfl
theorem starErr : "*" ++ "errors.errorString" = "*errors.errorString" := by decide
theorem rowErr (u : TypeId) (h : Tryz.prog.typeName? 3 u = some "*errors.errorString") : u = 297 :=
  typeName_ptr_named (nm := "errors.errorString") (by rw [starErr]; kernel_rfl) (by kernel_rfl) (by decide) u (by rw [starErr]; exact h)
theorem iface_of_laid {n : String} {text : List UInt8} {r : List (String × DataW Unit)} {W : World} {g : Nat}
    (h : laidMet Tryz.prog ((n, .iface "*errors.errorString" (.ptr (.agg [.lit (.string text)]))) :: r) W) (hg : Tryz.prog.globalNamed n = some g) (ht : (Tryz.prog.globals[g]?).map (·.type) = some 197) :
    g < W.heap.size ∧ ∃ te pe, W.cell? ⟨g, 0, none⟩ = some (.iface te pe) := by
  obtain ⟨a, s, hv, _⟩ := laid_sentinel h hg ht Tryz.underlying197 rowErr Tryz.underlying297 Tryz.underlying299 rfl rfl Tryz.underlying9 (by kernel_rfl) (by kernel_rfl)
  exact ⟨(blk_of_var hg hv).1, _, _, World.var?_cell hg hv 0⟩
theorem signs_of_laid {r : List (String × DataW Unit)} {W : World} (h : laidMet Tryz.prog (("sprue/scan.signs", Rows.laid_sprue_scan_signs) :: r) W) : SignTab W := by
  obtain ⟨ps, ⟨g0, t0, cs0, f0, p0, q0, hg0, ht0, hv0, hd0, _, _⟩, _, _⟩ := h
  obtain rfl := Option.some.inj (gSigns.symm.trans hg0)
  obtain rfl := Option.some.inj (tSigns.symm.trans ht0)
  obtain ⟨hlt, t, fr, hb⟩ := blk_of_var hg0 hv0
  refine ⟨hlt, t, fr, ?_⟩
  obtain ⟨xs, m, _, ex, hcl, hl, hel⟩ := DataW.trod_array Tryz.underlying217 hd0
  have c9 : Tryz.prog.cellsOf 9 = 1 := by kernel_rfl
  have c70 : Tryz.prog.cellsOf 217 = 15 := by kernel_rfl
  rw [c70] at hcl
  have e3 : (xs.map (·.1)) = signs.map fun l => (.lit (.string l) : DataW Unit) := (DataW.agg.inj (Prod.mk.inj ex).1).symm
  have hcell : ∀ k, k < 15 → cs0.toList[k]? = some (.string (sg k)) := by
    intro k hk
    have hE := hel k hk
    rw [c9, Nat.mul_one, List.getElem?_eq_getElem (by omega)] at hE
    obtain ⟨s, e1, e2, _⟩ := DataW.trod_string Tryz.underlying9 hE
    have e4 : (xs.map (·.1))[k]? = (signs.map fun l => (.lit (.string l) : DataW Unit))[k]? := by rw [e3]
    have hks : k < signs.length := hk
    rw [List.getElem?_map, List.getElem?_map, List.getElem?_eq_getElem (by omega : k < xs.length), List.getElem?_eq_getElem hks, e2] at e4
    simp only [Option.map_some, Option.some.injEq, DataW.lit.injEq, Lit.string.injEq] at e4
    have hs : s = sg k := by
      unfold sg
      rw [List.getD, List.getElem?_eq_getElem hks]
      simp only [Option.getD_some]
      rw [← e4]
    have h0 : ((cs0.toList.drop k).take 1)[0]? = some (.string s) := by rw [e1]; rfl
    rw [← hs]
    simpa using h0
  have : cs0 = sgs := by
    apply Array.ext'
    apply List.ext_getElem?
    intro k
    by_cases hk : k < 15
    · rw [hcell k hk]
      match k, hk with
      | 0, _ => rfl
      | 1, _ => rfl
      | 2, _ => rfl
      | 3, _ => rfl
      | 4, _ => rfl
      | 5, _ => rfl
      | 6, _ => rfl
      | 7, _ => rfl
      | 8, _ => rfl
      | 9, _ => rfl
      | 10, _ => rfl
      | 11, _ => rfl
      | 12, _ => rfl
      | 13, _ => rfl
      | 14, _ => rfl
    · rw [List.getElem?_eq_none (by omega), List.getElem?_eq_none (by simp [sgs]; omega)]
  rw [this] at hb
  exact hb
theorem gVerbs : Tryz.prog.globalNamed "sprue/tree.verbs" = some 1 := by kernel_rfl
theorem tVerbs : (Tryz.prog.globals[1]?).map (·.type) = some 231 := by kernel_rfl
theorem len2 {α : Type} : ∀ {l : List α}, l.length = 2 → ∃ a b, l = [a, b]
  | [a, b], _ => ⟨a, b, rfl⟩
  | [], h => by simp at h
  | [_], h => by simp at h
  | _ :: _ :: _ :: _, h => by simp at h
set_option maxRecDepth 100000 in
theorem verb_elem {H : Type} {enc : TypeId × Value → H} {w : World} {base : Nat} {spare : Nat → Bool} {held : Bool} {fuel : Nat} {cs : List Value} {l : List UInt8} {f : Int} {ps : List MemPlace}
    (h : DataW.trod enc Tryz.prog w base spare held fuel 230 cs = some (.agg [.lit (.string l), .lit (.int .i64 f)], ps)) : cs = [.string ⟨l.toArray⟩, .int .i64 f] := by
  obtain ⟨ys, n, _, ex, hlen, hys, hel⟩ := DataW.trod_struct Tryz.underlying230 h
  have c2 : Tryz.prog.cellsOf 230 = 2 := by kernel_rfl
  have cs1 : Tryz.prog.cellsOf 9 = 1 := by kernel_rfl
  have ci1 : Tryz.prog.cellsOf 3 = 1 := by kernel_rfl
  rw [c2] at hlen
  have hy : ys.map (·.1) = [.lit (.string l), .lit (.int .i64 f)] := (DataW.agg.inj (Prod.mk.inj ex).1).symm
  obtain ⟨a, b, rfl⟩ := len2 hlen
  obtain ⟨y0, y1, rfl⟩ : ∃ y0 y1, ys = [y0, y1] := by
    have : ys.length = 2 := by have := congrArg List.length hy; simpa using this
    exact len2 this
  have h0 := hel 0 _ rfl
  have h1 := hel 1 _ rfl
  simp only [List.getElem?_cons_zero, List.getElem?_cons_succ, List.map_cons, List.map_nil, List.cons.injEq, and_true] at h0 h1 hy
  obtain ⟨s, e1, e2, _⟩ := DataW.trod_string Tryz.underlying9 h0
  obtain ⟨z, e3, e4, _⟩ := DataW.trod_int Tryz.underlying3 h1
  rw [e2, e4] at hy
  simp only [DataW.lit.injEq, Lit.string.injEq, Lit.int.injEq, true_and] at hy
  obtain ⟨rfl, rfl⟩ := hy
  cases e1; cases e3; rfl
theorem verbs_of_laid {r : List (String × DataW Unit)} {W : World} (h : laidMet Tryz.prog (("sprue/tree.verbs", Rows.laid_sprue_tree_verbs) :: r) W) : Tr.VerbTab W := by
  obtain ⟨ps, ⟨g0, t0, cs0, f0, p0, q0, hg0, ht0, hv0, hd0, _, _⟩, _, _⟩ := h
  obtain rfl := Option.some.inj (gVerbs.symm.trans hg0)
  obtain rfl := Option.some.inj (tVerbs.symm.trans ht0)
  obtain ⟨hlt, t, fr, hb⟩ := blk_of_var hg0 hv0
  refine ⟨t, fr, ?_⟩
  obtain ⟨xs, m, _, ex, hcl, hl, hel⟩ := DataW.trod_array Tryz.underlying231 hd0
  have c2 : Tryz.prog.cellsOf 230 = 2 := by kernel_rfl
  have c18 : Tryz.prog.cellsOf 231 = 18 := by kernel_rfl
  rw [c18] at hcl
  have e3 : xs.map (·.1) = (List.range 9).map fun k => (.agg [.lit (.string (Tr.vw k)), .lit (.int .i64 (Tr.vk k))] : DataW Unit) := (DataW.agg.inj (Prod.mk.inj ex).1).symm
  have hcell : ∀ k, k < 9 → (cs0.toList.drop (k * 2)).take 2 = [.string ⟨(Tr.vw k).toArray⟩, .int .i64 (Tr.vk k)] := by
    intro k hk
    have hE := hel k hk
    rw [c2, List.getElem?_eq_getElem (by omega)] at hE
    have e4 : (xs.map (·.1))[k]? = ((List.range 9).map fun k => (.agg [.lit (.string (Tr.vw k)), .lit (.int .i64 (Tr.vk k))] : DataW Unit))[k]? := by rw [e3]
    rw [List.getElem?_map, List.getElem?_map, List.getElem?_eq_getElem (by omega : k < xs.length), List.getElem?_range hk] at e4
    simp only [Option.map_some, Option.some.injEq] at e4
    obtain ⟨pl, hpl⟩ : ∃ pl, xs[k]'(by omega) = (.agg [.lit (.string (Tr.vw k)), .lit (.int .i64 (Tr.vk k))], pl) := ⟨(xs[k]'(by omega)).2, by rw [← e4]⟩
    rw [hpl] at hE
    exact verb_elem hE
  have : cs0 = Tr.vbs := by
    apply Array.ext'
    apply List.ext_getElem?
    intro j
    by_cases hj : j < 18
    · have hc := congrArg (fun l : List Value => l[j % 2]?) (hcell (j / 2) (by omega))
      rw [List.getElem?_take_of_lt (by omega), List.getElem?_drop, show j / 2 * 2 + j % 2 = j by omega] at hc
      rw [hc]
      match j, hj with
      | 0, _ => rfl
      | 1, _ => rfl
      | 2, _ => rfl
      | 3, _ => rfl
      | 4, _ => rfl
      | 5, _ => rfl
      | 6, _ => rfl
      | 7, _ => rfl
      | 8, _ => rfl
      | 9, _ => rfl
      | 10, _ => rfl
      | 11, _ => rfl
      | 12, _ => rfl
      | 13, _ => rfl
      | 14, _ => rfl
      | 15, _ => rfl
      | 16, _ => rfl
      | 17, _ => rfl
      | j + 18, hj => exact absurd hj (by omega)
    · rw [List.getElem?_eq_none (by omega), List.getElem?_eq_none (by simp [Tr.vbs]; omega)]
  rw [this] at hb
  exact hb
theorem tabs_of_laid {W : World} (h : laidMetH Tryz.prog laidL W) (hs : W.ShapedOpen Tryz.prog) : Tr.Lean W ∧ Tx.MaxTab W := by
  rw [MakeChecks.laidMetH_plain _ _ _ (by kernel_rfl)] at h
  have h4 := h.tail.tail.tail.tail
  have h5 := h4.tail
  have h6 := h5.tail
  have h7 := h6.tail
  have r1 := iface_of_laid h4 gRange tRange
  have r2 := iface_of_laid h5 gSyntax tSyntax
  obtain ⟨m, hm⟩ := Tryz.laysM143.s1_3 W hs
  exact ⟨⟨⟨signs_of_laid h6, r2.1, r1.1, r2.2, r1.2⟩, verbs_of_laid h7⟩, World.block_lt_of_cell? _ _ hm, m, hm⟩
/-- The wrap of a row that lists variables, the world's shape kept. -/
theorem returnsInHanded_of_change_andS {H : Type} {enc : TypeId × Value → H} {a : Assume} {C : Checked} {os : Os} {f : FuncId} {fn : Func} {s : ChangeSpec} {conds : List PathCond} {apart fresh handsOn again : Bool} {X : World → Array Value → Prop}
    (hX : ∀ (w w' : World) (args : Array Value), w.heap = w'.heap → X w args → X w' args)
    (own : ownKnob C.prog.godebug = none) (started : os.Started) (noInit : C.prog.inits.idxOf? f = none) (hfn : C.prog.funcs[f]? = some fn)
    (witness : ∃ (w : World) (tape : Tape) (i : Input), w.os = os ∧ (w.forCall tape i).Shaped C.prog ∧ i.vars = [] ∧ Input.okWide C.prog (w.forCall tape i) .any w.heap.size f i ∧
      ((s.pre enc C.prog fn conds apart (w.forCall tape i).memory i.args ∧ X (w.forCall tape i).memory i.args) ∧ sizedMet enc C.prog fn (OpenSpec.ofChange s) apart (w.forCall tape i).memory i.args) ∧ a.holds C.prog (lone (Frame.enter C.prog f i.args .normal) [] (w.forCall tape i)))
    (contract : ∀ (W : World) (base : Nat) (args : Array Value) (ds gs : List (DataW H)) (before : List MemPlace),
      (∀ (j : Nat) t v, fn.params[j]? = some t → args[j]? = some v → Value.okWide C.prog W .any base t v) →
      DataW.Whole enc C.prog fn.params.toList s.vars apart W args.toList ds gs before →
      conds.all (PathCond.test C.prog ⟨fn.params.toList, ds, s.plain.varTypes C.prog, gs⟩) = true →
      (DataW.weightsEach C.prog (fn.params.toList ++ s.plain.varTypes C.prog) (ds ++ gs)).all (· ≤ reachBytes) = true → X W args → W.ShapedOpen C.prog →
      a.holds C.prog (lone (Frame.enter C.prog f args .normal) [] W) →
      Calls C.prog f args W fun e W' => ∃ v, e = .returned v ∧ s.post enc C.prog fn apart fresh handsOn again W args v W') :
    ReturnsInHanded a C os f .any (fun w args => (s.pre enc C.prog fn conds apart w args ∧ X w args) ∧ sizedMet enc C.prog fn (OpenSpec.ofChange s) apart w args) (s.post enc C.prog fn apart fresh handsOn again) := by
  refine returnsInHanded_of_calls own started noInit witness ?_
  intro w tape i _ hsh _ hok hpre hholds
  obtain ⟨_, _, _, fn', hfn', _, _, _, _, hval⟩ := hok
  have e : fn' = fn := Option.some.inj (hfn'.symm.trans hfn)
  subst e
  obtain ⟨⟨⟨ds, gs, before, hw, hc⟩, hx⟩, hz⟩ := hpre
  have hw' := DataW.Whole.of_heap (w' := w.forCall tape i) (by rfl) hw
  refine (contract (w.forCall tape i) w.heap.size i.args ds gs before hval hw' hc (hz.weights hw) (hX _ _ _ (by rfl) hx) hsh hholds).mono fun e W' ⟨v, he, hp⟩ => ?_
  subst he
  exact ChangeSpec.post_blind hp
end Sc
end Go.Proofs.YtlfbcaenlifmkaaGreatDoor
