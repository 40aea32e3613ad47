/- The frame of a region that draws its order: what has come up lies in its slot, the others are as they were. No program is named here. -/
import Derived.Test.YtdophmlnmbcjlaaS25
import Derived.Test.YtdophmlnmbcjlaaS21
import Derived.ProofKit
import Derived.OpenShut
import Derived.ChangeOld
import Derived.ChangeArms
import Derived.Deep.QuietTactic
import Derived.BigQuiet
import Derived.Deep.RegionHeld3
namespace Go.Proofs.Ytdophmlnmbcjlaa
namespace Sp
variable {P : Program} {ops : Array Oper} {Q : Exit → Act → World → Prop}
def dstOf (ops : Array Oper) (i : Nat) : Option Nat := (ops[i]?).bind (·.dst)
structure Fr (ops : Array Oper) (a0 : Act) (vals : Nat → Value) (listed : Array Bool) (a : Act) : Prop where
  defers : a.defers = a0.defers
  size : a.tmps.size = a0.tmps.size
  up : ∀ i d, dstOf ops i = some d → listed.getD i false = true → a.tmps[d]? = some (vals i)
  old : ∀ s, (∀ i, dstOf ops i = some s → listed.getD i false = false) → a.tmps[s]? = a0.tmps[s]?
theorem getD_setF {listed : Array Bool} {i j : Nat} : (listed.setIfInBounds i true).getD j false = (listed.getD j false || (decide (i = j) && decide (i < listed.size))) := by
  simp only [Array.getD_eq_getD_getElem?, Array.getElem?_setIfInBounds]
  by_cases e : i = j
  · subst e
    rw [if_pos rfl]
    by_cases h : i < listed.size
    · simp [h]
    · simp [h]
  · simp [e]
theorem Fr.start (a0 : Act) (vals : Nat → Value) (n : Nat) : Fr ops a0 vals (Array.replicate n false) a0 :=
  ⟨rfl, rfl, fun i d _ h => by
    rw [Array.getD_eq_getD_getElem?] at h
    by_cases hi : i < n <;> simp [hi] at h, fun _ _ => rfl⟩
/-- What is told of a region's slots: each is one operation's, and there is such a slot. -/
structure Slots (ops : Array Oper) (n : Nat) : Prop where
  inj : ∀ i j d, dstOf ops i = some d → dstOf ops j = some d → i = j
  lt : ∀ i d, dstOf ops i = some d → d < n
theorem Fr.put {a0 a : Act} {vals : Nat → Value} {listed : Array Bool} (h : Fr ops a0 vals listed a) (hs : Slots ops a0.tmps.size) (hz : listed.size = ops.size) {i : Nat} {o : Oper} (ho : ops[i]? = some o) :
    Fr ops a0 vals (listed.setIfInBounds i true) (a.put o.dst (vals i)) := by
  have hi : i < listed.size := by rw [hz]; exact (Array.getElem?_eq_some_iff.1 ho).1
  have hd : dstOf ops i = o.dst := by unfold dstOf; rw [ho]; rfl
  cases hdst : o.dst with
  | none =>
    refine ⟨h.defers, h.size, fun j d hj hl => ?_, fun s hl => h.old s fun j hj => ?_⟩
    · rw [getD_setF] at hl
      simp only [Bool.or_eq_true, Bool.and_eq_true, decide_eq_true_eq] at hl
      rcases hl with hl | ⟨rfl, _⟩
      · exact h.up j d hj hl
      · rw [hd, hdst] at hj; cases hj
    · have := hl j hj
      rw [getD_setF] at this
      simp only [Bool.or_eq_false_iff] at this
      exact this.1
  | some d0 =>
    have hlt := hs.lt i d0 (by rw [hd, hdst])
    refine ⟨h.defers, by simp [Act.put, h.size], fun j d hj hl => ?_, fun s hl => ?_⟩
    · rw [getD_setF] at hl
      simp only [Bool.or_eq_true, Bool.and_eq_true, decide_eq_true_eq] at hl
      show (a.tmps.setIfInBounds d0 (vals i))[d]? = _
      rw [Array.getElem?_setIfInBounds]
      by_cases e : d0 = d
      · subst e
        have := hs.inj j i d0 hj (by rw [hd, hdst])
        subst this
        rw [if_pos rfl, if_pos (by rw [h.size]; exact hlt)]
      · rw [if_neg e]
        rcases hl with hl | ⟨rfl, _⟩
        · exact h.up j d hj hl
        · rw [hd, hdst] at hj; cases hj; exact absurd rfl e
    · show (a.tmps.setIfInBounds d0 (vals i))[s]? = _
      have e : ¬ d0 = s := fun e => by
        subst e
        have := hl i (by rw [hd, hdst])
        rw [getD_setF] at this
        simp [hi] at this
      rw [Array.getElem?_setIfInBounds, if_neg e]
      exact h.old s fun j hj => by
        have := hl j hj
        rw [getD_setF] at this
        simp only [Bool.or_eq_false_iff] at this
        exact this.1
/-- What is told of what has not come up yet may be told anew. -/
theorem Fr.congr {a0 a : Act} {vals vals' : Nat → Value} {listed : Array Bool} (h : Fr ops a0 vals listed a) (hv : ∀ i, listed.getD i false = true → vals' i = vals i) : Fr ops a0 vals' listed a :=
  ⟨h.defers, h.size, fun i d hd hl => by rw [hv i hl]; exact h.up i d hd hl, h.old⟩
theorem Fr.same {a0 a b : Act} {vals : Nat → Value} {listed : Array Bool} (h : Fr ops a0 vals listed a) (k : Fr ops a0 vals listed b) (hall : ∀ i, i < ops.size → listed.getD i false = true) : a = b := by
  obtain ⟨ta, da⟩ := a
  obtain ⟨tb, db⟩ := b
  have h1 : da = db := h.defers.trans k.defers.symm
  subst h1
  congr 1
  apply Array.ext_getElem?
  intro s
  by_cases e : ∃ i, dstOf ops i = some s
  · obtain ⟨i, hi⟩ := e
    have hlt : i < ops.size := by
      unfold dstOf at hi
      cases ho : ops[i]? with
      | none => rw [ho] at hi; cases hi
      | some o => exact (Array.getElem?_eq_some_iff.1 ho).1
    exact (h.up i s hi (hall i hlt)).trans (k.up i s hi (hall i hlt)).symm
  · exact (h.old s fun i hi => absurd ⟨i, hi⟩ e).trans (k.old s fun i hi => absurd ⟨i, hi⟩ e).symm
/-- All in the order of the text. -/
def putAll (ops : Array Oper) (vals : Nat → Value) (a0 : Act) : Nat → Act
  | 0 => a0
  | n + 1 => (putAll ops vals a0 n).put (dstOf ops n) (vals n)
def upTo (m : Nat) : Nat → Array Bool
  | 0 => Array.replicate m false
  | n + 1 => (upTo m n).setIfInBounds n true
theorem upTo_size (m : Nat) : ∀ n, (upTo m n).size = m
  | 0 => by simp [upTo]
  | n + 1 => by simp [upTo, upTo_size m n]
theorem upTo_all (m : Nat) : ∀ n, n ≤ m → ∀ i, i < n → (upTo m n).getD i false = true
  | n + 1, hn, i, hi => by
    rw [upTo, getD_setF, upTo_size]
    by_cases e : n = i
    · subst e; simp; omega
    · rw [upTo_all m n (by omega) i (by omega)]; rfl
theorem Fr.all {a0 : Act} {vals : Nat → Value} (hs : Slots ops a0.tmps.size) : ∀ n, n ≤ ops.size → Fr ops a0 vals (upTo ops.size n) (putAll ops vals a0 n)
  | 0, _ => Fr.start a0 vals _
  | n + 1, hn => by
    have ho : ops[n]? = some ops[n] := Array.getElem?_eq_getElem (by omega)
    have := (Fr.all (vals := vals) hs n (by omega)).put hs (upTo_size _ _) ho
    have e : dstOf ops n = ops[n].dst := by unfold dstOf; rw [ho]; rfl
    rw [putAll, upTo, e]
    exact this
/-- When all have come up the frame is the text's. -/
theorem Fr.done {a0 a : Act} {vals : Nat → Value} {listed : Array Bool} (h : Fr ops a0 vals listed a) (hs : Slots ops a0.tmps.size) (hall : ∀ i, i < ops.size → listed.getD i false = true) : a = putAll ops vals a0 ops.size := by
  have k := Fr.all (vals := vals) hs ops.size (Nat.le_refl _)
  refine Fr.same (listed := listed) h ?_ hall
  exact ⟨k.defers, k.size, fun i d hd _ => k.up i d hd (upTo_all _ _ (Nat.le_refl _) i (by
    unfold dstOf at hd
    cases ho : ops[i]? with
    | none => rw [ho] at hd; cases hd
    | some o => exact (Array.getElem?_eq_some_iff.1 ho).1)), fun s hl => k.old s fun i hi => by
      have hlt : i < ops.size := by
        unfold dstOf at hi
        cases ho : ops[i]? with
        | none => rw [ho] at hi; cases hi
        | some o => exact (Array.getElem?_eq_some_iff.1 ho).1
      have := hl i hi
      rw [hall i hlt] at this
      cases this⟩
/-- A slot that an operation asks for, which has come up. -/
theorem Fr.eval {a0 a : Act} {vals : Nat → Value} {listed : Array Bool} (h : Fr ops a0 vals listed a) {i d : Nat} (hd : dstOf ops i = some d) (hl : listed.getD i false = true) : a.eval (.tmp d) = vals i := by
  show a.tmps.getD d undef = _
  rw [Array.getD_eq_getD_getElem?, h.up i d hd hl]; rfl
/-- What has come up has all that it waits for. -/
def Closed (ops : Array Oper) (listed : Array Bool) : Prop := ∀ (i : Nat) (o : Oper), ops[i]? = some o → listed.getD i false = true → ∀ e ∈ o.after, Region.binds .any e = true → listed.getD e.on false = true
theorem Closed.start (n : Nat) : Closed ops (Array.replicate n false) := fun i o _ h => by
  rw [Array.getD_eq_getD_getElem?] at h
  by_cases hi : i < n <;> simp [hi] at h
theorem Closed.put {listed : Array Bool} (h : Closed ops listed) {i : Nat} (hi : i ∈ Region.ready .any ops listed) : Closed ops (listed.setIfInBounds i true) := fun j o ho hl e he hb => by
  rw [getD_setF] at hl ⊢
  simp only [Bool.or_eq_true, Bool.and_eq_true, decide_eq_true_eq] at hl ⊢
  rcases hl with hl | ⟨rfl, _⟩
  · exact .inl (h j o ho hl e he hb)
  · obtain ⟨_, o', ho', hd⟩ := mem_ready.1 hi
    rw [ho] at ho'
    cases ho'
    exact .inl (hd e he hb)
/-- One that may come up has not come up yet. -/
theorem not_up {listed : Array Bool} {i : Nat} (hz : listed.size = ops.size) (hi : i ∈ Region.ready .any ops listed) : listed.getD i false = false ∧ i < ops.size := by
  obtain ⟨h1, o, ho, _⟩ := mem_ready.1 hi
  have hlt := (Array.getElem?_eq_some_iff.1 ho).1
  refine ⟨?_, hlt⟩
  rw [Array.getD_eq_getD_getElem?, Array.getElem?_eq_getElem (by omega)] at h1 ⊢
  simpa using h1
/-- Each waits for earlier ones alone, by a reckoning. -/
def edgesB (ops : Array Oper) : Bool := (List.range ops.size).all fun j => match ops[j]? with | some o => o.after.toList.all fun e => decide (e.on < j) && decide (e.on < ops.size) | none => true
theorem all_upB {md : Region.Mode} {listed : Array Bool} (hb : edgesB ops = true) (hs : listed.size = ops.size) (hr : Region.ready md ops listed = []) : ∀ i, i < ops.size → listed.getD i false = true := fun i hi => by
  have h := all_up (md := md) (fun j o ho e he => by
    have a := List.all_eq_true.1 hb j (List.mem_range.2 (Array.getElem?_eq_some_iff.1 ho).1)
    rw [ho] at a
    have b := List.all_eq_true.1 a e (Array.mem_toList_iff.2 he)
    simpa only [Bool.and_eq_true, decide_eq_true_eq] using b) hs hr (i + 1) i (Nat.lt_succ_self i) hi
  rw [Array.getD_eq_getD_getElem?, Array.getElem?_eq_getElem (by omega)] at h ⊢
  simpa using h
/-- Slots by a reckoning. -/
def slotsB (ops : Array Oper) (n : Nat) : Bool := (List.range ops.size).all fun i => (match dstOf ops i with | none => true | some d => decide (d < n)) && (List.range ops.size).all fun j => decide (i = j) || ((dstOf ops i).isNone || !decide (dstOf ops i = dstOf ops j))
theorem dst_lt {ops : Array Oper} {i d : Nat} (h : dstOf ops i = some d) : i < ops.size := by
  unfold dstOf at h
  cases ho : ops[i]? with
  | none => rw [ho] at h; cases h
  | some o => exact (Array.getElem?_eq_some_iff.1 ho).1
theorem Slots.of {ops : Array Oper} {n : Nat} (h : slotsB ops n = true) : Slots ops n := by
  have a := fun i hi => List.all_eq_true.1 h i (List.mem_range.2 hi)
  refine ⟨fun i j d hi hj => ?_, fun i d hi => ?_⟩
  · have b := a i (dst_lt hi)
    simp only [Bool.and_eq_true] at b
    have c := List.all_eq_true.1 b.2 j (List.mem_range.2 (dst_lt hj))
    simp only [Bool.or_eq_true, decide_eq_true_eq, hi, hj, Option.isNone_some, Bool.not_eq_true', decide_eq_false_iff_not] at c
    rcases c with c | c | c
    · exact c
    · cases c
    · simp at c
  · have b := a i (dst_lt hi)
    simp only [Bool.and_eq_true, hi, decide_eq_true_eq] at b
    exact b.1
theorem Fr.old_is {a0 a : Act} {vals : Nat → Value} {listed : Array Bool} (h : Fr ops a0 vals listed a) (s : Nat) {v : Value} (hn : ((List.range ops.size).all fun i => !decide (dstOf ops i = some s)) = true) (hv : a0.tmps[s]? = some v) : a.tmps[s]? = some v := by
  refine (h.old s fun i hi => ?_).trans hv
  have := List.all_eq_true.1 hn i (List.mem_range.2 (dst_lt hi))
  simp [hi] at this
end Sp
end Go.Proofs.Ytdophmlnmbcjlaa
namespace Go.Proofs.Ytdophmlnmbcjlaa
namespace Sp
variable {P : Program} {ops : Array Oper} {Q : Exit → Act → World → Prop}
theorem wanted_none {o : Oper} {y : Nat → Option Bool} (hg : o.guard = none) : Region.wanted o y = true := by unfold Region.wanted; rw [hg]
theorem wpOp_wpG {i : Nat} {o : Oper} {a : Act} {w : World} {K : Act → World → Prop} (hi : ops[i]? = some o) (hg : Region.wanted o (yielded ops a.tmps) = true) (h : o.wp P a w K Q) : wpOp P ops Q i K a w := by
  unfold wpOp
  rw [hi]
  simp only [hg, if_true]
  exact .inl h
structure QJ {α : Type} (vals : α → Nat → Value) (M : α → Array Bool → World → Prop) (ops : Array Oper) (a0 : Act) (listed : Array Bool) (b : Act) (v : World) : Prop where
  size : listed.size = ops.size
  closed : Closed ops listed
  rest : ∃ x, Fr ops a0 (vals x) listed b ∧ M x listed v
section
variable {α : Type} {vals : α → Nat → Value} {M : α → Array Bool → World → Prop} {a0 b : Act} {listed : Array Bool} {v : World} {i : Nat} {o : Oper} {x : α}
/-- An operation that only reads. -/
theorem QJ.quiet (hz : listed.size = ops.size) (hC : Closed ops listed) (hi : i ∈ Region.ready .any ops listed) (hF : Fr ops a0 (vals x) listed b) (hs : Slots ops a0.tmps.size) (ho : ops[i]? = some o) (hg : Region.wanted o (yielded ops b.tmps) = true) (hM : M x (listed.setIfInBounds i true) v)
    (hr : (execOp b.eval o).run P v = .ok (.value (vals x i)) v) : wpOp P ops Q i (fun b' v' => QJ vals M ops a0 (listed.setIfInBounds i true) b' v') b v := by
  refine wpOp_wpG ho hg ?_
  unfold Oper.wp
  rw [hr]
  exact ⟨by simp [hz], hC.put hi, x, hF.put hs hz ho, hM⟩
/-- One that makes memory. -/
theorem QJ.make {v' : World} {x' : α} (hz : listed.size = ops.size) (hC : Closed ops listed) (hi : i ∈ Region.ready .any ops listed) (hF : Fr ops a0 (vals x) listed b) (hs : Slots ops a0.tmps.size) (ho : ops[i]? = some o) (hg : Region.wanted o (yielded ops b.tmps) = true) (hx : ∀ j, listed.getD j false = true → vals x' j = vals x j) (hM : M x' (listed.setIfInBounds i true) v')
    (hr : (execOp b.eval o).run P v = .ok (.value (vals x' i)) v') : wpOp P ops Q i (fun b' v' => QJ vals M ops a0 (listed.setIfInBounds i true) b' v') b v := by
  refine wpOp_wpG ho hg ?_
  unfold Oper.wp
  rw [hr]
  exact ⟨by simp [hz], hC.put hi, x', (hF.congr hx).put hs hz ho, hM⟩
end
end Sp
end Go.Proofs.Ytdophmlnmbcjlaa
namespace Go.Proofs.Ytdophmlnmbcjlaa
open Go.RowKit
namespace Sp
open Sc
def letB (k : Nat) : UInt8 := UInt8.ofNat (97 + k)
end Sp
end Go.Proofs.Ytdophmlnmbcjlaa
namespace Go.Proofs.Ytdophmlnmbcjlaa
open Go.RowKit
namespace Sp
open Sc
theorem set_four2 {w : World} {b : Nat} {t : TypeId} {v0 v1 v2 v3 : Value} (h : w.heap[b]? = some (.cells #[v0, v1, v2, v3] t (0, 0))) (v : Value) : (w.setCell ⟨b, 2, none⟩ v).heap[b]? = some (.cells #[v0, v1, v, v3] t (0, 0)) := by
  unfold World.setCell; simp [Array.getElem?_modify, h]
end Sp
end Go.Proofs.Ytdophmlnmbcjlaa
namespace Go.Proofs.Ytdophmlnmbcjlaa
open Go.RowKit
namespace Sp
open Sc
set_option maxRecDepth 100000
/-- A block of one byte, the statement's own. -/
def Lit (W0 : World) (z : Int) (x : Value) (v : World) : Prop := ∃ g, x = .slice (some ⟨g, 0, none⟩) 1 1 ∧ W0.heap.size ≤ g ∧ g < v.heap.size ∧ v.heap[g]? = some (.cells #[.int .u8 z] 5 (0, 0))
end Sp
end Go.Proofs.Ytdophmlnmbcjlaa
namespace Go.Proofs.Ytdophmlnmbcjlaa
open Go.RowKit
namespace Sp
open Sc
/-- The blocks that are there since b. -/
abbrev New (b : Nat) (w : World) (g : Nat) : Prop := b ≤ g ∧ g < w.heap.size
end Sp
end Go.Proofs.Ytdophmlnmbcjlaa
namespace Go.Proofs.Ytdophmlnmbcjlaa
open Go.RowKit
namespace Sp
open Sc
theorem getD_setE {listed : Array Bool} {i : Nat} (h : i < listed.size) : (listed.setIfInBounds i true).getD i false = true := by rw [getD_setF]; simp [h]
theorem getD_setN {listed : Array Bool} {i j : Nat} (h : i ≠ j) : (listed.setIfInBounds i true).getD j false = listed.getD j false := by rw [getD_setF]; simp [h]
end Sp
end Go.Proofs.Ytdophmlnmbcjlaa
