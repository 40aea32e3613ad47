/- A region that draws its order, its operations' answers told as one function of what is chosen; guarded operations, calls. No program is named here. -/
import Derived.Test.YtlfbcaenlifmkaaGreatDoorB8
namespace Go.Proofs.YtlfbcaenlifmkaaGreatDoor
namespace Sp
variable {P : Program} {ops : Array Oper} {Q : Exit → Act → World → Prop}
theorem wanted_none {o : Oper} {y : Nat → Option Bool} (hg : o.guard = none) : Region.wanted o y = true := by unfold Region.wanted; rw [hg]
theorem wanted_of {o : Oper} {a : Act} {j d : Nat} {want b : Bool} (hg : o.guard = some (j, want)) (hd : dstOf ops j = some d) (ht : a.tmps[d]? = some (.bool b)) : Region.wanted o (yielded ops a.tmps) = (b == want) := by
  unfold Region.wanted yielded
  unfold dstOf at hd
  rw [hg]
  simp only [hd, Option.bind_some, ht]
  rfl
theorem wpOp_wpG {i : Nat} {o : Oper} {a : Act} {w : World} {K : Act → World → Prop} (hi : ops[i]? = some o) (hg : Region.wanted o (yielded ops a.tmps) = true) (h : o.wp P a w K Q) : wpOp P ops Q i K a w := by
  unfold wpOp
  rw [hi]
  simp only [hg, if_true]
  exact .inl h
theorem wpOp_skipG {i : Nat} {o : Oper} {a : Act} {w : World} {K : Act → World → Prop} (hi : ops[i]? = some o) (hg : Region.wanted o (yielded ops a.tmps) = false) (h : K (a.put o.dst undef) w) : wpOp P ops Q i K a w := by
  unfold wpOp
  rw [hi]
  simp only [hg, Bool.false_eq_true, if_false]
  exact h
structure QJ {α : Type} (vals : α → Nat → Value) (M : α → Array Bool → World → Prop) (ops : Array Oper) (a0 : Act) (listed : Array Bool) (b : Act) (v : World) : Prop where
  size : listed.size = ops.size
  closed : Closed ops listed
  rest : ∃ x, Fr ops a0 (vals x) listed b ∧ M x listed v
section
variable {α : Type} {vals : α → Nat → Value} {M : α → Array Bool → World → Prop} {a0 b : Act} {listed : Array Bool} {v : World} {i : Nat} {o : Oper} {x : α}
/-- An operation that only reads. -/
theorem QJ.quiet (hz : listed.size = ops.size) (hC : Closed ops listed) (hi : i ∈ Region.ready .any ops listed) (hF : Fr ops a0 (vals x) listed b) (hs : Slots ops a0.tmps.size) (ho : ops[i]? = some o) (hg : Region.wanted o (yielded ops b.tmps) = true) (hM : M x (listed.setIfInBounds i true) v)
    (hr : (execOp b.eval o).run P v = .ok (.value (vals x i)) v) : wpOp P ops Q i (fun b' v' => QJ vals M ops a0 (listed.setIfInBounds i true) b' v') b v := by
  refine wpOp_wpG ho hg ?_
  unfold Oper.wp
  rw [hr]
  exact ⟨by simp [hz], hC.put hi, x, hF.put hs hz ho, hM⟩
/-- One that is left out. -/
theorem QJ.skip (hz : listed.size = ops.size) (hC : Closed ops listed) (hi : i ∈ Region.ready .any ops listed) (hF : Fr ops a0 (vals x) listed b) (hs : Slots ops a0.tmps.size) (ho : ops[i]? = some o) (hg : Region.wanted o (yielded ops b.tmps) = false) (hM : M x (listed.setIfInBounds i true) v) (hu : vals x i = undef) :
    wpOp P ops Q i (fun b' v' => QJ vals M ops a0 (listed.setIfInBounds i true) b' v') b v :=
  wpOp_skipG ho hg ⟨by simp [hz], hC.put hi, x, hu ▸ hF.put hs hz ho, hM⟩
/-- One that makes memory. -/
theorem QJ.make {v' : World} {x' : α} (hz : listed.size = ops.size) (hC : Closed ops listed) (hi : i ∈ Region.ready .any ops listed) (hF : Fr ops a0 (vals x) listed b) (hs : Slots ops a0.tmps.size) (ho : ops[i]? = some o) (hg : Region.wanted o (yielded ops b.tmps) = true) (hx : ∀ j, listed.getD j false = true → vals x' j = vals x j) (hM : M x' (listed.setIfInBounds i true) v')
    (hr : (execOp b.eval o).run P v = .ok (.value (vals x' i)) v') : wpOp P ops Q i (fun b' v' => QJ vals M ops a0 (listed.setIfInBounds i true) b' v') b v := by
  refine wpOp_wpG ho hg ?_
  unfold Oper.wp
  rw [hr]
  exact ⟨by simp [hz], hC.put hi, x', (hF.congr hx).put hs hz ho, hM⟩
/-- A call. -/
theorem QJ.call {f : FuncId} {args : Array Value} {R : Ending → World → Prop} (hz : listed.size = ops.size) (hC : Closed ops listed) (hi : i ∈ Region.ready .any ops listed) (hF : Fr ops a0 (vals x) listed b) (hs : Slots ops a0.tmps.size) (ho : ops[i]? = some o) (hg : Region.wanted o (yielded ops b.tmps) = true)
    (hr : (execOp b.eval o).run P v = .ok (.enter f args) v) (hR : Calls P f args v R) (hK : ∀ e w', R e w' → ∃ x', e = .returned (vals x' i) ∧ (∀ j, listed.getD j false = true → vals x' j = vals x j) ∧ M x' (listed.setIfInBounds i true) w') : wpOp P ops Q i (fun b' v' => QJ vals M ops a0 (listed.setIfInBounds i true) b' v') b v := by
  refine wpOp_wpG ho hg ?_
  unfold Oper.wp
  rw [hr, Oper.upon_enter]
  refine hR.mono fun e w' h => ?_
  obtain ⟨x', rfl, hx, hM⟩ := hK e w' h
  exact ⟨by simp [hz], hC.put hi, x', (hF.congr hx).put hs hz ho, hM⟩
end
end Sp
end Go.Proofs.YtlfbcaenlifmkaaGreatDoor
namespace Go.Proofs.YtlfbcaenlifmkaaGreatDoor
namespace Sp
set_option maxRecDepth 100000
theorem getD_setN {listed : Array Bool} {i j : Nat} (h : i ≠ j) : (listed.setIfInBounds i true).getD j false = listed.getD j false := by rw [getD_setF]; simp [h]
theorem getD_setS {listed : Array Bool} {i : Nat} (h : i < listed.size) : (listed.setIfInBounds i true).getD i false = true := by rw [getD_setF]; simp [h]
theorem all_up2 {ops : Array Oper} {md : Region.Mode} {listed : Array Bool} (hb : ∀ (j : Nat) (o : Oper), ops[j]? = some o → ∀ e ∈ o.after, Region.binds md e = true → e.on < j ∧ e.on < ops.size) (hs : listed.size = ops.size) (hr : Region.ready md ops listed = []) : ∀ n j, j < n → j < ops.size → listed.getD j true = true
  | 0, j, h, _ => absurd h (Nat.not_lt_zero _)
  | n + 1, j, h, hj => by
    cases hl : listed.getD j true with
    | true => rfl
    | false =>
      have hm : j ∈ Region.ready md ops listed := by
        refine mem_ready.2 ⟨hl, ops[j], Array.getElem?_eq_getElem hj, fun e he hbd => ?_⟩
        obtain ⟨h1, h2⟩ := hb j ops[j] (Array.getElem?_eq_getElem hj) e he hbd
        have := all_up2 hb hs hr n e.on (by omega) h2
        rw [Array.getD_eq_getD_getElem?, Array.getElem?_eq_getElem (by omega)] at this ⊢
        simpa using this
      rw [hr] at hm
      cases hm
def edgesB2 (md : Region.Mode) (ops : Array Oper) : Bool := (List.range ops.size).all fun j => match ops[j]? with | some o => o.after.toList.all fun e => !Region.binds md e || (decide (e.on < j) && decide (e.on < ops.size)) | none => true
theorem all_upB2 {ops : Array Oper} {md : Region.Mode} {listed : Array Bool} (hb : edgesB2 md ops = true) (hs : listed.size = ops.size) (hr : Region.ready md ops listed = []) : ∀ i, i < ops.size → listed.getD i false = true := fun i hi => by
  have h := all_up2 (md := md) (fun j o ho e he hbd => by
    have a := List.all_eq_true.1 hb j (List.mem_range.2 (Array.getElem?_eq_some_iff.1 ho).1)
    rw [ho] at a
    have b := List.all_eq_true.1 a e (Array.mem_toList_iff.2 he)
    rw [hbd] at b
    simpa only [Bool.not_true, Bool.false_or, Bool.and_eq_true, decide_eq_true_eq] using b) hs hr (i + 1) i (Nat.lt_succ_self i) hi
  rw [Array.getD_eq_getD_getElem?, Array.getElem?_eq_getElem (by omega)] at h ⊢
  simpa using h
theorem rep_getDL (n i : Nat) : (Array.replicate n false).getD i false = false := by
  rw [Array.getD_eq_getD_getElem?]
  by_cases hi : i < n <;> simp [hi]
/-- One that stores. -/
theorem QJ.store {P : Program} {ops : Array Oper} {Q : Exit → Act → World → Prop} {α : Type} {vals : α → Nat → Value} {M : α → Array Bool → World → Prop} {a0 b : Act} {listed : Array Bool} {v v' : World} {i : Nat} {o : Oper} {x : α} (hz : listed.size = ops.size) (hC : Closed ops listed) (hi : i ∈ Region.ready .any ops listed) (hF : Fr ops a0 (vals x) listed b) (hs : Slots ops a0.tmps.size) (ho : ops[i]? = some o) (hd : o.dst = none) (hg : Region.wanted o (yielded ops b.tmps) = true) (hM : M x (listed.setIfInBounds i true) v')
    (hr : (execOp b.eval o).run P v = .ok .skip v') : wpOp P ops Q i (fun b' v' => QJ vals M ops a0 (listed.setIfInBounds i true) b' v') b v := by
  refine wpOp_wpG ho hg ?_
  unfold Oper.wp
  rw [hr]
  have h := hF.put hs hz ho
  rw [hd] at h
  refine ⟨by simp [hz], hC.put hi, x, ?_, hM⟩
  rw [hd]
  exact h
theorem blk_lt {w : World} {b : Nat} {o : Obj} (h : w.heap[b]? = some o) : b < w.heap.size := (Array.getElem?_eq_some_iff.1 h).1
end Sp
end Go.Proofs.YtlfbcaenlifmkaaGreatDoor
