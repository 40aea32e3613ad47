/- A region that draws its order, its operations' answers told as one function of what is chosen; guarded operations, calls. No program is named here. -/
import Derived.Test.YteooafgdmpbjeabT18
import Derived.Test.YteooafgdmpbjeabT15
import Derived.ProofKit
import Derived.OpenShut
import Derived.ChangeOld
import Derived.ChangeArms
namespace Go.Proofs.Yteooafgdmpbjeab
namespace Sp
variable {P : Program} {ops : Array Oper} {Q : Exit → Act → World → Prop}
theorem wanted_none {o : Oper} {y : Nat → Option Bool} (hg : o.guard = none) : Region.wanted o y = true := by unfold Region.wanted; rw [hg]
theorem wanted_of {o : Oper} {a : Act} {j d : Nat} {want b : Bool} (hg : o.guard = some (j, want)) (hd : dstOf ops j = some d) (ht : a.tmps[d]? = some (.bool b)) : Region.wanted o (yielded ops a.tmps) = (b == want) := by
  unfold Region.wanted yielded
  unfold dstOf at hd
  rw [hg]
  simp only [hd, Option.bind_some, ht]
  rfl
theorem wpOp_wpG {i : Nat} {o : Oper} {a : Act} {w : World} {K : Act → World → Prop} (hi : ops[i]? = some o) (hg : Region.wanted o (yielded ops a.tmps) = true) (h : o.wp P a w K Q) : wpOp P ops Q i K a w := by
  unfold wpOp
  rw [hi]
  simp only [hg, if_true]
  exact .inl h
structure QJ {α : Type} (vals : α → Nat → Value) (M : α → Array Bool → World → Prop) (ops : Array Oper) (a0 : Act) (listed : Array Bool) (b : Act) (v : World) : Prop where
  size : listed.size = ops.size
  closed : Closed ops listed
  rest : ∃ x, Fr ops a0 (vals x) listed b ∧ M x listed v
section
variable {α : Type} {vals : α → Nat → Value} {M : α → Array Bool → World → Prop} {a0 b : Act} {listed : Array Bool} {v : World} {i : Nat} {o : Oper} {x : α}
/-- An operation that only reads. -/
theorem QJ.quiet (hz : listed.size = ops.size) (hC : Closed ops listed) (hi : i ∈ Region.ready .any ops listed) (hF : Fr ops a0 (vals x) listed b) (hs : Slots ops a0.tmps.size) (ho : ops[i]? = some o) (hg : Region.wanted o (yielded ops b.tmps) = true) (hM : M x (listed.setIfInBounds i true) v)
    (hr : (execOp b.eval o).run P v = .ok (.value (vals x i)) v) : wpOp P ops Q i (fun b' v' => QJ vals M ops a0 (listed.setIfInBounds i true) b' v') b v := by
  refine wpOp_wpG ho hg ?_
  unfold Oper.wp
  rw [hr]
  exact ⟨by simp [hz], hC.put hi, x, hF.put hs hz ho, hM⟩
/-- One that makes memory. -/
theorem QJ.make {v' : World} {x' : α} (hz : listed.size = ops.size) (hC : Closed ops listed) (hi : i ∈ Region.ready .any ops listed) (hF : Fr ops a0 (vals x) listed b) (hs : Slots ops a0.tmps.size) (ho : ops[i]? = some o) (hg : Region.wanted o (yielded ops b.tmps) = true) (hx : ∀ j, listed.getD j false = true → vals x' j = vals x j) (hM : M x' (listed.setIfInBounds i true) v')
    (hr : (execOp b.eval o).run P v = .ok (.value (vals x' i)) v') : wpOp P ops Q i (fun b' v' => QJ vals M ops a0 (listed.setIfInBounds i true) b' v') b v := by
  refine wpOp_wpG ho hg ?_
  unfold Oper.wp
  rw [hr]
  exact ⟨by simp [hz], hC.put hi, x', (hF.congr hx).put hs hz ho, hM⟩
/-- A call. -/
theorem QJ.call {f : FuncId} {args : Array Value} {R : Ending → World → Prop} (hz : listed.size = ops.size) (hC : Closed ops listed) (hi : i ∈ Region.ready .any ops listed) (hF : Fr ops a0 (vals x) listed b) (hs : Slots ops a0.tmps.size) (ho : ops[i]? = some o) (hg : Region.wanted o (yielded ops b.tmps) = true)
    (hr : (execOp b.eval o).run P v = .ok (.enter f args) v) (hR : Calls P f args v R) (hK : ∀ e w', R e w' → ∃ x', e = .returned (vals x' i) ∧ (∀ j, listed.getD j false = true → vals x' j = vals x j) ∧ M x' (listed.setIfInBounds i true) w') : wpOp P ops Q i (fun b' v' => QJ vals M ops a0 (listed.setIfInBounds i true) b' v') b v := by
  refine wpOp_wpG ho hg ?_
  unfold Oper.wp
  rw [hr, Oper.upon_enter]
  refine hR.mono fun e w' h => ?_
  obtain ⟨x', rfl, hx, hM⟩ := hK e w' h
  exact ⟨by simp [hz], hC.put hi, x', (hF.congr hx).put hs hz ho, hM⟩
end
end Sp
end Go.Proofs.Yteooafgdmpbjeab
namespace Go.Proofs.Yteooafgdmpbjeab
open Go.ChangeShapes Go.WideShapes Go.ChangeAt Go.RowKit
namespace Sp
open Sc
/-- What a type is made of. -/
inductive Rw where
  | mk (k n : Int) (ns : List Int) (ks : List Rw) : Rw
deriving Inhabited
/-- What a variable of that type holds. -/
structure R4 where
  k : Int
  n : Int
  an : Option Addr
  ln : Nat
  cn : Nat
  ak : Option Addr
  lk : Nat
  ck : Nat
deriving Inhabited
def R4.cells (c : R4) : List Value := [.int .i64 c.k, .int .i64 c.n, .slice c.an c.ln c.cn, .slice c.ak c.lk c.ck]
def I64 (n : Int) : Prop := -9223372036854775808 ≤ n ∧ n ≤ 9223372036854775807
theorem i64_of {n : Int} (h : (Lit.int .i64 n).wf = true) : I64 n := bounds_i64 h
/-- A Raw lies at these cells; all that it leads to lies in blocks that there are. -/
inductive RwV (w : World) : Rw → R4 → Prop where
  | mk (k n : Int) (ns : List Int) (ks : List Rw) (an : Option Addr) (cn : Nat) (ak : Option Addr) (ck : Nat) (us : List R4) (hk : I64 k) (hn : I64 n) (hi : ∀ i ∈ ns, I64 i) (hln : ns.length ≤ maxLen) (hlk : ks.length ≤ maxLen) (hl : us.length = ks.length)
      (ha : RowV w (Any w) an 1 (ns.map fun i => [.int .i64 i])) (hb : RowV w (Any w) ak 4 (us.map R4.cells)) (hu : ∀ i (h : i < ks.length) (h' : i < us.length), RwV w ks[i] us[i]) :
      RwV w (.mk k n ns ks) ⟨k, n, an, ns.length, cn, ak, ks.length, ck⟩
theorem RwV.later {w w' : World} {r : Rw} {c : R4} (h : RwV w r c) (hb : Below w.heap.size w w') : RwV w' r c := by
  induction h with
  | mk k n ns ks an cn ak ck us hk hn hi hln hlk hl ha hb' hu ih =>
    exact .mk k n ns ks an cn ak ck us hk hn hi hln hlk hl (ha.keep (fun _ hg => Nat.lt_of_lt_of_le hg hb.size) (fun g hg => hb.block g hg)) (hb'.keep (fun _ hg => Nat.lt_of_lt_of_le hg hb.size) (fun g hg => hb.block g hg)) ih
/-- Cells that are read at an address: a plain one. -/
theorem addr_plain {w : World} {a : Addr} {i : Nat} {v : Value} (h : w.cell? (a.add i) = some v) (hi : i = 0) : ∃ b o, a = ⟨b, o, none⟩ ∧ b < w.heap.size := by
  obtain ⟨b, o, spot⟩ := a
  subst hi
  have hspot : spot = none := by simpa [Addr.add] using World.cell?_spot h
  subst hspot
  exact ⟨b, o, rfl, World.block_lt_of_cell? (a := ⟨b, o, none⟩) _ (by simpa [Addr.add] using h)⟩
theorem add_addW (b o i j : Nat) : ((⟨b, o, none⟩ : Addr).add i).add j = ⟨b, o + i + j, none⟩ := by rw [Addr.add_lit, Addr.add_lit]
theorem rowV_of {w : World} {a : Addr} {k : Nat} {l : List (List Value)} (hk : 0 < k) (hl : ∀ x ∈ l, x.length = k) (h : ∀ i (hi : i < l.length) j v, (l[i])[j]? = some v → w.cell? ((a.add (i * k)).add j) = some v) : RowV w (Any w) (some a) k l := by
  by_cases h0 : l = []
  · exact .inl h0
  · have hp : 0 < l.length := List.length_pos_iff.2 h0
    have hlen := hl l[0] (List.getElem_mem hp)
    have h1 := h 0 hp 0 (l[0])[0] (List.getElem?_eq_getElem (by omega))
    obtain ⟨b, o, rfl, hb⟩ := addr_plain (i := 0) (by simpa [Addr.add] using h1) rfl
    exact .inr ⟨b, o, rfl, hb, fun i hi j v hv => by rw [← add_addW]; exact h i hi j v hv⟩
set_option maxRecDepth 100000 in
theorem open_raw {H : Type} {enc : TypeId × Value → H} {w : World} : ∀ (fuel : Nat) (cs : List Value) (x : DataW H × List MemPlace), DataW.trod enc Try.prog w 0 (fun _ => true) true fuel 45 cs = some x → ∃ r c, cs = R4.cells c ∧ RwV w r c := by
  intro fuel
  induction fuel using Nat.strongRecOn with
  | _ fuel ih =>
    intro cs x h
    obtain ⟨xs, n, rfl, _, hlen, hxl, hx⟩ := DataW.trod_struct Try.underlying45 h
    have hcR : Try.prog.cellsOf 45 = 4 := by kernel_rfl
    have hcI : Try.prog.cellsOf 3 = 1 := by kernel_rfl
    have hcN : Try.prog.cellsOf 22 = 1 := by kernel_rfl
    have hcK : Try.prog.cellsOf 43 = 1 := by kernel_rfl
    rw [hcR] at hlen
    obtain ⟨c0, c1, c2, c3, rfl⟩ : ∃ c0 c1 c2 c3, cs = [c0, c1, c2, c3] := match cs, hlen with | [a, b, c, d], _ => ⟨a, b, c, d, rfl⟩
    have hxl : xs.length = 4 := hxl
    have e0 := hx 0 _ rfl
    have e1 := hx 1 _ rfl
    have e2 := hx 2 _ rfl
    have e3 := hx 3 _ rfl
    rw [List.getElem?_eq_getElem (by omega)] at e0 e1 e2 e3
    simp only [List.getElem_toArray, List.getElem_cons_zero, List.getElem_cons_succ, hcI, hcN, hcK, List.drop_zero, List.drop_succ_cons, List.take_succ_cons, List.take_zero] at e0 e1 e2 e3
    obtain ⟨k, q0, _, hk⟩ := DataW.trod_int Try.underlying3 e0
    obtain ⟨m, q1, _, hm⟩ := DataW.trod_int Try.underlying3 e1
    cases q0
    cases q1
    have hnames : ∃ an ln cn ns, c2 = .slice an ln cn ∧ ln = List.length ns ∧ ns.length ≤ maxLen ∧ (∀ i ∈ ns, I64 i) ∧ RowV w (Any w) an 1 (ns.map fun i => [Value.int .i64 i]) := by
      rcases open_ints Try.underlying22 Try.underlying3 hcI e2 with ⟨hcs, _⟩ | ⟨a, l, c, zs, hcs, _, hl, hm, hz, _, hcell, hwz⟩
      · cases hcs
        exact ⟨none, 0, 0, [], rfl, rfl, by decide, (fun i h => by cases h), .inl rfl⟩
      · cases hcs
        have hz : zs.length = c := hz
        refine ⟨some a, l, c, zs.take l, rfl, by rw [List.length_take]; omega, by rw [List.length_take]; omega, fun i h => i64_of (hwz i (List.mem_of_mem_take h)), rowV_of (by decide) (fun x hx => by obtain ⟨y, _, rfl⟩ := List.mem_map.1 hx; rfl) (fun i hi j v hv => ?_)⟩
        rw [List.length_map, List.length_take] at hi
        rw [List.getElem_map, List.getElem_take] at hv
        have hj : j = 0 := by
          have := (List.getElem?_eq_some_iff.1 hv).1
          simpa using this
        subst hj
        have hv : some (Value.int .i64 zs[i]) = some v := hv
        cases hv
        rw [Addr.add_zero', Nat.mul_one, hcell i (by omega)]
        simp [List.getD, List.getElem?_eq_getElem (show i < zs.length by omega)]
    have hkids : ∃ ak lk ck, ∃ ks : List Rw, ∃ us : List R4, c3 = .slice ak lk ck ∧ lk = ks.length ∧ ks.length ≤ maxLen ∧ us.length = ks.length ∧ RowV w (Any w) ak 4 (us.map R4.cells) ∧ ∀ i (h : i < ks.length) (h' : i < us.length), RwV w ks[i] us[i] := by
      rcases DataW.trod_slice Try.underlying43 e3 with ⟨hcs, _⟩ | ⟨a, l, c, elems, rest, m', hm', hcs, _, _, hl, hmx, hel, hx3, _⟩
      · cases hcs
        exact ⟨none, 0, 0, [], [], rfl, rfl, by decide, rfl, .inl rfl, fun i h => by cases h⟩
      · cases hcs
        have each : ∀ i, i < l → ∃ r : Rw, ∃ c : R4, RwV w r c ∧ ∀ j v, c.cells[j]? = some v → w.cell? ((a.add (i * 4)).add j) = some v := fun i hi => by
          have h1 := hx3 i hi
          rw [hcR, List.getElem?_eq_getElem (by omega)] at h1
          obtain ⟨cl, h2, h3⟩ := Option.bind_eq_some_iff.1 h1
          obtain ⟨r, cc, rfl, hr⟩ := ih m' (by omega) cl _ h3
          obtain ⟨_, _, h4⟩ := World.cells?_some h2
          refine ⟨r, cc, hr, fun j v hv => ?_⟩
          have hj : j < 4 := (List.getElem?_eq_some_iff.1 hv).1
          rw [h4 j hj]; exact hv
        obtain ⟨f, hf⟩ : ∃ f : Nat → Rw × R4, ∀ i, i < l → RwV w (f i).1 (f i).2 ∧ ∀ j v, (f i).2.cells[j]? = some v → w.cell? ((a.add (i * 4)).add j) = some v :=
          ⟨fun i => if h : i < l then ((each i h).choose, (each i h).choose_spec.choose) else default, fun i hi => by simp only [dif_pos hi]; exact (each i hi).choose_spec.choose_spec⟩
        refine ⟨some a, l, c, (List.range l).map fun i => (f i).1, (List.range l).map fun i => (f i).2, rfl, by simp, by simp; omega, by simp, rowV_of (by decide) (fun x hx => by obtain ⟨y, _, rfl⟩ := List.mem_map.1 hx; rfl) (fun i hi j v hv => ?_), fun i h1 h2 => ?_⟩
        · simp only [List.length_map, List.length_range] at hi
          simp only [List.getElem_map, List.getElem_range] at hv
          exact (hf i hi).2 j v hv
        · simp only [List.length_map, List.length_range] at h1
          simp only [List.getElem_map, List.getElem_range]
          exact (hf i h1).1
    obtain ⟨an, ln, cn, ns, rfl, rfl, hnl, hni, hnr⟩ := hnames
    obtain ⟨ak, lk, ck, ks, us, rfl, rfl, hkl, hul, hkr, hku⟩ := hkids
    exact ⟨.mk k m ns ks, ⟨k, m, an, ns.length, cn, ak, ks.length, ck⟩, rfl, .mk k m ns ks an cn ak ck us (i64_of hk) (i64_of hm) hni hnl hkl hul hnr hkr hku⟩
end Sp
end Go.Proofs.Yteooafgdmpbjeab
