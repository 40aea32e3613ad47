/- A region that draws its order, by an invariant over what has come up: however it is drawn, each operation that may come up carries it on. No program is named here. -/
import Derived.Test.YteooafgdmpbjeabRows
import Derived.Orders
import Derived.Test.YteooafgdmpbjeabV15
import Derived.ProofKit
import Derived.OpenShut
import Derived.ChangeOld
import Derived.ChangeArms
namespace Go.Proofs.Yteooafgdmpbjeab
namespace Sp
variable {P : Program} {ops : Array Oper} {Q : Exit → Act → World → Prop} {md : Region.Mode}
/-- How many have not come up. -/
def openN (ops : Array Oper) (listed : Array Bool) : Nat := ((List.range ops.size).filter fun j => !listed.getD j true).length
theorem filter_leD {α : Type} (p q : α → Bool) (h : ∀ x, q x = true → p x = true) : ∀ l : List α, (l.filter q).length ≤ (l.filter p).length
  | [] => Nat.le_refl _
  | x :: l => by
    have ih := filter_leD p q h l
    rw [List.filter_cons, List.filter_cons]
    cases hq : q x
    · rw [if_neg (by simp)]; split <;> simp <;> omega
    · rw [if_pos rfl, if_pos (h x hq)]; simp; exact ih
theorem filter_ltD {α : Type} (p q : α → Bool) (h : ∀ x, q x = true → p x = true) (y : α) (hp : p y = true) (hq : q y = false) : ∀ l : List α, y ∈ l → (l.filter q).length < (l.filter p).length
  | x :: l, hm => by
    rw [List.filter_cons, List.filter_cons]
    rcases List.mem_cons.1 hm with e | e
    · subst e
      rw [if_neg (by rw [hq]; decide), if_pos hp]
      have := filter_leD p q h l
      simp; omega
    · have ih := filter_ltD p q h y hp hq l e
      cases hqx : q x
      · rw [if_neg (by simp)]; split <;> simp <;> omega
      · rw [if_pos rfl, if_pos (h x hqx)]; simp; exact ih
theorem getD_setD {listed : Array Bool} {i j : Nat} (h : (listed.setIfInBounds i true).getD j true = false) : listed.getD j true = false ∧ j ≠ i := by
  simp only [Array.getD_eq_getD_getElem?, Array.getElem?_setIfInBounds] at h ⊢
  by_cases e : i = j
  · subst e
    rw [if_pos rfl] at h
    split at h <;> simp_all
  · rw [if_neg e] at h
    exact ⟨h, fun e' => e e'.symm⟩
theorem openN_set {listed : Array Bool} {i : Nat} (hi : i < ops.size) (h : listed.getD i true = false) : openN ops (listed.setIfInBounds i true) < openN ops listed := by
  refine filter_ltD _ _ (fun x hx => ?_) i ?_ ?_ _ (List.mem_range.2 hi)
  · simp only [Bool.not_eq_true'] at hx ⊢
    exact (getD_setD hx).1
  · simp only [h, Bool.not_false]
  · cases hh : (listed.setIfInBounds i true).getD i true
    · exact absurd rfl (getD_setD hh).2
    · rfl
theorem wpAny_inv (J : Array Bool → Act → World → Prop)
    (step : ∀ listed a w i, J listed a w → i ∈ Region.ready md ops listed → wpOp P ops Q i (fun a' w' => J (listed.setIfInBounds i true) a' w') a w)
    (done : ∀ listed a w, J listed a w → Region.ready md ops listed = [] → Q .normal a w) :
    ∀ fuel listed a w, openN ops listed ≤ fuel → J listed a w → wpAny P md ops Q fuel listed a w
  | 0, listed, a, w, hf, h => by
    have hr : Region.ready md ops listed = [] := by
      apply List.eq_nil_iff_forall_not_mem.2
      intro j hj
      obtain ⟨h1, o, ho, _⟩ := mem_ready.1 hj
      have hm : j ∈ (List.range ops.size).filter fun j => !listed.getD j true := List.mem_filter.2 ⟨List.mem_range.2 (Array.getElem?_eq_some_iff.1 ho).1, by rw [h1]; rfl⟩
      have := List.length_pos_of_mem hm
      unfold openN at hf
      omega
    exact ⟨hr, done _ _ _ h hr⟩
  | fuel + 1, listed, a, w, hf, h => by
    refine ⟨done _ _ _ h, fun i hi => wpOp_mono (fun a' w' h' => wpAny_inv J step done fuel _ a' w' ?_ h') (step _ _ _ _ h hi)⟩
    obtain ⟨h1, o, ho, _⟩ := mem_ready.1 hi
    have := openN_set (ops := ops) (Array.getElem?_eq_some_iff.1 ho).1 h1
    omega
/-- The region, by what holds at its beginning, behind each operation that may come up, and when all have come up. -/
theorem wp_region_inv {id : Nat} {a : Act} {w : World} (hm : P.follows .mixedOrders = true) (J : Array Bool → Act → World → Prop)
    (start : J (Array.replicate ops.size false) a w.drew)
    (step : ∀ listed a w i, J listed a w → i ∈ Region.ready .any ops listed → wpOp P ops Q i (fun a' w' => J (listed.setIfInBounds i true) a' w') a w)
    (done : ∀ listed a w, J listed a w → Region.ready .any ops listed = [] → Q .normal a w) : (Code.region id ops true).wp P Q a w :=
  wp_region_any hm (wpAny_inv J step done ops.size _ a _ (by unfold openN; exact Nat.le_trans (List.length_filter_le _ _) (by simp)) start)
/-- The same, the invariant told of whatever operations and frame stand there. -/
theorem wp_region_by {id : Nat} {a : Act} {w : World} (J : Array Oper → Act → Array Bool → Act → World → Prop) (hm : P.follows .mixedOrders = true)
    (start : J ops a (Array.replicate ops.size false) a w.drew)
    (step : ∀ listed b v i, J ops a listed b v → i ∈ Region.ready .any ops listed → wpOp P ops Q i (fun b' v' => J ops a (listed.setIfInBounds i true) b' v') b v)
    (done : ∀ listed b v, J ops a listed b v → Region.ready .any ops listed = [] → Q .normal b v) : (Code.region id ops true).wp P Q a w :=
  wp_region_inv hm (J ops a) start step done
/-- Where each waits for earlier ones alone and none may come up, all have come up. -/
theorem all_up {listed : Array Bool} (hb : ∀ (j : Nat) (o : Oper), ops[j]? = some o → ∀ e ∈ o.after, e.on < j ∧ e.on < ops.size) (hs : listed.size = ops.size) (hr : Region.ready md ops listed = []) : ∀ n j, j < n → j < ops.size → listed.getD j true = true
  | 0, j, h, _ => absurd h (Nat.not_lt_zero _)
  | n + 1, j, h, hj => by
    cases hl : listed.getD j true with
    | true => rfl
    | false =>
      have hm : j ∈ Region.ready md ops listed := by
        refine mem_ready.2 ⟨hl, ops[j], Array.getElem?_eq_getElem hj, fun e he _ => ?_⟩
        obtain ⟨h1, h2⟩ := hb j ops[j] (Array.getElem?_eq_getElem hj) e he
        have := all_up hb hs hr n e.on (by omega) h2
        rw [Array.getD_eq_getD_getElem?, Array.getElem?_eq_getElem (by omega)] at this ⊢
        simpa using this
      rw [hr] at hm
      cases hm
end Sp
end Go.Proofs.Yteooafgdmpbjeab
namespace Go.Proofs.Yteooafgdmpbjeab
namespace Sp
variable {P : Program} {ops : Array Oper} {Q : Exit → Act → World → Prop}
def dstOf (ops : Array Oper) (i : Nat) : Option Nat := (ops[i]?).bind (·.dst)
structure Fr (ops : Array Oper) (a0 : Act) (vals : Nat → Value) (listed : Array Bool) (a : Act) : Prop where
  defers : a.defers = a0.defers
  size : a.tmps.size = a0.tmps.size
  up : ∀ i d, dstOf ops i = some d → listed.getD i false = true → a.tmps[d]? = some (vals i)
  old : ∀ s, (∀ i, dstOf ops i = some s → listed.getD i false = false) → a.tmps[s]? = a0.tmps[s]?
theorem getD_setF {listed : Array Bool} {i j : Nat} : (listed.setIfInBounds i true).getD j false = (listed.getD j false || (decide (i = j) && decide (i < listed.size))) := by
  simp only [Array.getD_eq_getD_getElem?, Array.getElem?_setIfInBounds]
  by_cases e : i = j
  · subst e
    rw [if_pos rfl]
    by_cases h : i < listed.size
    · simp [h]
    · simp [h]
  · simp [e]
theorem Fr.start (a0 : Act) (vals : Nat → Value) (n : Nat) : Fr ops a0 vals (Array.replicate n false) a0 :=
  ⟨rfl, rfl, fun i d _ h => by
    rw [Array.getD_eq_getD_getElem?] at h
    by_cases hi : i < n <;> simp [hi] at h, fun _ _ => rfl⟩
/-- What is told of a region's slots: each is one operation's, and there is such a slot. -/
structure Slots (ops : Array Oper) (n : Nat) : Prop where
  inj : ∀ i j d, dstOf ops i = some d → dstOf ops j = some d → i = j
  lt : ∀ i d, dstOf ops i = some d → d < n
theorem Fr.put {a0 a : Act} {vals : Nat → Value} {listed : Array Bool} (h : Fr ops a0 vals listed a) (hs : Slots ops a0.tmps.size) (hz : listed.size = ops.size) {i : Nat} {o : Oper} (ho : ops[i]? = some o) :
    Fr ops a0 vals (listed.setIfInBounds i true) (a.put o.dst (vals i)) := by
  have hi : i < listed.size := by rw [hz]; exact (Array.getElem?_eq_some_iff.1 ho).1
  have hd : dstOf ops i = o.dst := by unfold dstOf; rw [ho]; rfl
  cases hdst : o.dst with
  | none =>
    refine ⟨h.defers, h.size, fun j d hj hl => ?_, fun s hl => h.old s fun j hj => ?_⟩
    · rw [getD_setF] at hl
      simp only [Bool.or_eq_true, Bool.and_eq_true, decide_eq_true_eq] at hl
      rcases hl with hl | ⟨rfl, _⟩
      · exact h.up j d hj hl
      · rw [hd, hdst] at hj; cases hj
    · have := hl j hj
      rw [getD_setF] at this
      simp only [Bool.or_eq_false_iff] at this
      exact this.1
  | some d0 =>
    have hlt := hs.lt i d0 (by rw [hd, hdst])
    refine ⟨h.defers, by simp [Act.put, h.size], fun j d hj hl => ?_, fun s hl => ?_⟩
    · rw [getD_setF] at hl
      simp only [Bool.or_eq_true, Bool.and_eq_true, decide_eq_true_eq] at hl
      show (a.tmps.setIfInBounds d0 (vals i))[d]? = _
      rw [Array.getElem?_setIfInBounds]
      by_cases e : d0 = d
      · subst e
        have := hs.inj j i d0 hj (by rw [hd, hdst])
        subst this
        rw [if_pos rfl, if_pos (by rw [h.size]; exact hlt)]
      · rw [if_neg e]
        rcases hl with hl | ⟨rfl, _⟩
        · exact h.up j d hj hl
        · rw [hd, hdst] at hj; cases hj; exact absurd rfl e
    · show (a.tmps.setIfInBounds d0 (vals i))[s]? = _
      have e : ¬ d0 = s := fun e => by
        subst e
        have := hl i (by rw [hd, hdst])
        rw [getD_setF] at this
        simp [hi] at this
      rw [Array.getElem?_setIfInBounds, if_neg e]
      exact h.old s fun j hj => by
        have := hl j hj
        rw [getD_setF] at this
        simp only [Bool.or_eq_false_iff] at this
        exact this.1
/-- What is told of what has not come up yet may be told anew. -/
theorem Fr.congr {a0 a : Act} {vals vals' : Nat → Value} {listed : Array Bool} (h : Fr ops a0 vals listed a) (hv : ∀ i, listed.getD i false = true → vals' i = vals i) : Fr ops a0 vals' listed a :=
  ⟨h.defers, h.size, fun i d hd hl => by rw [hv i hl]; exact h.up i d hd hl, h.old⟩
theorem Fr.same {a0 a b : Act} {vals : Nat → Value} {listed : Array Bool} (h : Fr ops a0 vals listed a) (k : Fr ops a0 vals listed b) (hall : ∀ i, i < ops.size → listed.getD i false = true) : a = b := by
  obtain ⟨ta, da⟩ := a
  obtain ⟨tb, db⟩ := b
  have h1 : da = db := h.defers.trans k.defers.symm
  subst h1
  congr 1
  apply Array.ext_getElem?
  intro s
  by_cases e : ∃ i, dstOf ops i = some s
  · obtain ⟨i, hi⟩ := e
    have hlt : i < ops.size := by
      unfold dstOf at hi
      cases ho : ops[i]? with
      | none => rw [ho] at hi; cases hi
      | some o => exact (Array.getElem?_eq_some_iff.1 ho).1
    exact (h.up i s hi (hall i hlt)).trans (k.up i s hi (hall i hlt)).symm
  · exact (h.old s fun i hi => absurd ⟨i, hi⟩ e).trans (k.old s fun i hi => absurd ⟨i, hi⟩ e).symm
/-- All in the order of the text. -/
def putAll (ops : Array Oper) (vals : Nat → Value) (a0 : Act) : Nat → Act
  | 0 => a0
  | n + 1 => (putAll ops vals a0 n).put (dstOf ops n) (vals n)
def upTo (m : Nat) : Nat → Array Bool
  | 0 => Array.replicate m false
  | n + 1 => (upTo m n).setIfInBounds n true
theorem upTo_size (m : Nat) : ∀ n, (upTo m n).size = m
  | 0 => by simp [upTo]
  | n + 1 => by simp [upTo, upTo_size m n]
theorem upTo_all (m : Nat) : ∀ n, n ≤ m → ∀ i, i < n → (upTo m n).getD i false = true
  | n + 1, hn, i, hi => by
    rw [upTo, getD_setF, upTo_size]
    by_cases e : n = i
    · subst e; simp; omega
    · rw [upTo_all m n (by omega) i (by omega)]; rfl
theorem Fr.all {a0 : Act} {vals : Nat → Value} (hs : Slots ops a0.tmps.size) : ∀ n, n ≤ ops.size → Fr ops a0 vals (upTo ops.size n) (putAll ops vals a0 n)
  | 0, _ => Fr.start a0 vals _
  | n + 1, hn => by
    have ho : ops[n]? = some ops[n] := Array.getElem?_eq_getElem (by omega)
    have := (Fr.all (vals := vals) hs n (by omega)).put hs (upTo_size _ _) ho
    have e : dstOf ops n = ops[n].dst := by unfold dstOf; rw [ho]; rfl
    rw [putAll, upTo, e]
    exact this
/-- When all have come up the frame is the text's. -/
theorem Fr.done {a0 a : Act} {vals : Nat → Value} {listed : Array Bool} (h : Fr ops a0 vals listed a) (hs : Slots ops a0.tmps.size) (hall : ∀ i, i < ops.size → listed.getD i false = true) : a = putAll ops vals a0 ops.size := by
  have k := Fr.all (vals := vals) hs ops.size (Nat.le_refl _)
  refine Fr.same (listed := listed) h ?_ hall
  exact ⟨k.defers, k.size, fun i d hd _ => k.up i d hd (upTo_all _ _ (Nat.le_refl _) i (by
    unfold dstOf at hd
    cases ho : ops[i]? with
    | none => rw [ho] at hd; cases hd
    | some o => exact (Array.getElem?_eq_some_iff.1 ho).1)), fun s hl => k.old s fun i hi => by
      have hlt : i < ops.size := by
        unfold dstOf at hi
        cases ho : ops[i]? with
        | none => rw [ho] at hi; cases hi
        | some o => exact (Array.getElem?_eq_some_iff.1 ho).1
      have := hl i hi
      rw [hall i hlt] at this
      cases this⟩
/-- A slot that an operation asks for, which has come up. -/
theorem Fr.eval {a0 a : Act} {vals : Nat → Value} {listed : Array Bool} (h : Fr ops a0 vals listed a) {i d : Nat} (hd : dstOf ops i = some d) (hl : listed.getD i false = true) : a.eval (.tmp d) = vals i := by
  show a.tmps.getD d undef = _
  rw [Array.getD_eq_getD_getElem?, h.up i d hd hl]; rfl
/-- What has come up has all that it waits for. -/
def Closed (ops : Array Oper) (listed : Array Bool) : Prop := ∀ (i : Nat) (o : Oper), ops[i]? = some o → listed.getD i false = true → ∀ e ∈ o.after, Region.binds .any e = true → listed.getD e.on false = true
theorem Closed.start (n : Nat) : Closed ops (Array.replicate n false) := fun i o _ h => by
  rw [Array.getD_eq_getD_getElem?] at h
  by_cases hi : i < n <;> simp [hi] at h
theorem Closed.put {listed : Array Bool} (h : Closed ops listed) {i : Nat} (hi : i ∈ Region.ready .any ops listed) : Closed ops (listed.setIfInBounds i true) := fun j o ho hl e he hb => by
  rw [getD_setF] at hl ⊢
  simp only [Bool.or_eq_true, Bool.and_eq_true, decide_eq_true_eq] at hl ⊢
  rcases hl with hl | ⟨rfl, _⟩
  · exact .inl (h j o ho hl e he hb)
  · obtain ⟨_, o', ho', hd⟩ := mem_ready.1 hi
    rw [ho] at ho'
    cases ho'
    exact .inl (hd e he hb)
/-- One that may come up has not come up yet. -/
theorem not_up {listed : Array Bool} {i : Nat} (hz : listed.size = ops.size) (hi : i ∈ Region.ready .any ops listed) : listed.getD i false = false ∧ i < ops.size := by
  obtain ⟨h1, o, ho, _⟩ := mem_ready.1 hi
  have hlt := (Array.getElem?_eq_some_iff.1 ho).1
  refine ⟨?_, hlt⟩
  rw [Array.getD_eq_getD_getElem?, Array.getElem?_eq_getElem (by omega)] at h1 ⊢
  simpa using h1
/-- Each waits for earlier ones alone, by a reckoning. -/
def edgesB (ops : Array Oper) : Bool := (List.range ops.size).all fun j => match ops[j]? with | some o => o.after.toList.all fun e => decide (e.on < j) && decide (e.on < ops.size) | none => true
theorem all_upB {md : Region.Mode} {listed : Array Bool} (hb : edgesB ops = true) (hs : listed.size = ops.size) (hr : Region.ready md ops listed = []) : ∀ i, i < ops.size → listed.getD i false = true := fun i hi => by
  have h := all_up (md := md) (fun j o ho e he => by
    have a := List.all_eq_true.1 hb j (List.mem_range.2 (Array.getElem?_eq_some_iff.1 ho).1)
    rw [ho] at a
    have b := List.all_eq_true.1 a e (Array.mem_toList_iff.2 he)
    simpa only [Bool.and_eq_true, decide_eq_true_eq] using b) hs hr (i + 1) i (Nat.lt_succ_self i) hi
  rw [Array.getD_eq_getD_getElem?, Array.getElem?_eq_getElem (by omega)] at h ⊢
  simpa using h
/-- Slots by a reckoning. -/
def slotsB (ops : Array Oper) (n : Nat) : Bool := (List.range ops.size).all fun i => (match dstOf ops i with | none => true | some d => decide (d < n)) && (List.range ops.size).all fun j => decide (i = j) || ((dstOf ops i).isNone || !decide (dstOf ops i = dstOf ops j))
theorem dst_lt {ops : Array Oper} {i d : Nat} (h : dstOf ops i = some d) : i < ops.size := by
  unfold dstOf at h
  cases ho : ops[i]? with
  | none => rw [ho] at h; cases h
  | some o => exact (Array.getElem?_eq_some_iff.1 ho).1
theorem Slots.of {ops : Array Oper} {n : Nat} (h : slotsB ops n = true) : Slots ops n := by
  have a := fun i hi => List.all_eq_true.1 h i (List.mem_range.2 hi)
  refine ⟨fun i j d hi hj => ?_, fun i d hi => ?_⟩
  · have b := a i (dst_lt hi)
    simp only [Bool.and_eq_true] at b
    have c := List.all_eq_true.1 b.2 j (List.mem_range.2 (dst_lt hj))
    simp only [Bool.or_eq_true, decide_eq_true_eq, hi, hj, Option.isNone_some, Bool.not_eq_true', decide_eq_false_iff_not] at c
    rcases c with c | c | c
    · exact c
    · cases c
    · simp at c
  · have b := a i (dst_lt hi)
    simp only [Bool.and_eq_true, hi, decide_eq_true_eq] at b
    exact b.1
theorem Fr.old_is {a0 a : Act} {vals : Nat → Value} {listed : Array Bool} (h : Fr ops a0 vals listed a) (s : Nat) {v : Value} (hn : ((List.range ops.size).all fun i => !decide (dstOf ops i = some s)) = true) (hv : a0.tmps[s]? = some v) : a.tmps[s]? = some v := by
  refine (h.old s fun i hi => ?_).trans hv
  have := List.all_eq_true.1 hn i (List.mem_range.2 (dst_lt hi))
  simp [hi] at this
theorem wpOp_wp {i : Nat} {o : Oper} {a : Act} {w : World} {K : Act → World → Prop} (hi : ops[i]? = some o) (hg : o.guard = none) (h : o.wp P a w K Q) : wpOp P ops Q i K a w := by
  unfold wpOp
  rw [hi]
  simp only [Region.wanted, hg, if_true]
  exact .inl h
/-- An operation that runs. -/
theorem wpOp_run {i : Nat} {o : Oper} {a : Act} {w w' : World} {v : Value} {K : Act → World → Prop} (hi : ops[i]? = some o) (hg : o.guard = none) (hr : (execOp a.eval o).run P w = .ok (.value v) w') (hK : K (a.put o.dst v) w') : wpOp P ops Q i K a w := by
  unfold wpOp
  rw [hi]
  simp only [Region.wanted, hg, if_true]
  refine .inl ?_
  unfold Oper.wp
  rw [hr]
  exact hK
end Sp
end Go.Proofs.Yteooafgdmpbjeab
namespace Go.Proofs.Yteooafgdmpbjeab
namespace Sp
variable {P : Program} {ops : Array Oper} {Q : Exit → Act → World → Prop}
theorem wanted_none {o : Oper} {y : Nat → Option Bool} (hg : o.guard = none) : Region.wanted o y = true := by unfold Region.wanted; rw [hg]
theorem wanted_of {o : Oper} {a : Act} {j d : Nat} {want b : Bool} (hg : o.guard = some (j, want)) (hd : dstOf ops j = some d) (ht : a.tmps[d]? = some (.bool b)) : Region.wanted o (yielded ops a.tmps) = (b == want) := by
  unfold Region.wanted yielded
  unfold dstOf at hd
  rw [hg]
  simp only [hd, Option.bind_some, ht]
  rfl
theorem wpOp_wpG {i : Nat} {o : Oper} {a : Act} {w : World} {K : Act → World → Prop} (hi : ops[i]? = some o) (hg : Region.wanted o (yielded ops a.tmps) = true) (h : o.wp P a w K Q) : wpOp P ops Q i K a w := by
  unfold wpOp
  rw [hi]
  simp only [hg, if_true]
  exact .inl h
structure QJ {α : Type} (vals : α → Nat → Value) (M : α → Array Bool → World → Prop) (ops : Array Oper) (a0 : Act) (listed : Array Bool) (b : Act) (v : World) : Prop where
  size : listed.size = ops.size
  closed : Closed ops listed
  rest : ∃ x, Fr ops a0 (vals x) listed b ∧ M x listed v
section
variable {α : Type} {vals : α → Nat → Value} {M : α → Array Bool → World → Prop} {a0 b : Act} {listed : Array Bool} {v : World} {i : Nat} {o : Oper} {x : α}
/-- An operation that only reads. -/
theorem QJ.quiet (hz : listed.size = ops.size) (hC : Closed ops listed) (hi : i ∈ Region.ready .any ops listed) (hF : Fr ops a0 (vals x) listed b) (hs : Slots ops a0.tmps.size) (ho : ops[i]? = some o) (hg : Region.wanted o (yielded ops b.tmps) = true) (hM : M x (listed.setIfInBounds i true) v)
    (hr : (execOp b.eval o).run P v = .ok (.value (vals x i)) v) : wpOp P ops Q i (fun b' v' => QJ vals M ops a0 (listed.setIfInBounds i true) b' v') b v := by
  refine wpOp_wpG ho hg ?_
  unfold Oper.wp
  rw [hr]
  exact ⟨by simp [hz], hC.put hi, x, hF.put hs hz ho, hM⟩
/-- One that makes memory. -/
theorem QJ.make {v' : World} {x' : α} (hz : listed.size = ops.size) (hC : Closed ops listed) (hi : i ∈ Region.ready .any ops listed) (hF : Fr ops a0 (vals x) listed b) (hs : Slots ops a0.tmps.size) (ho : ops[i]? = some o) (hg : Region.wanted o (yielded ops b.tmps) = true) (hx : ∀ j, listed.getD j false = true → vals x' j = vals x j) (hM : M x' (listed.setIfInBounds i true) v')
    (hr : (execOp b.eval o).run P v = .ok (.value (vals x' i)) v') : wpOp P ops Q i (fun b' v' => QJ vals M ops a0 (listed.setIfInBounds i true) b' v') b v := by
  refine wpOp_wpG ho hg ?_
  unfold Oper.wp
  rw [hr]
  exact ⟨by simp [hz], hC.put hi, x', (hF.congr hx).put hs hz ho, hM⟩
/-- A call. -/
theorem QJ.call {f : FuncId} {args : Array Value} {R : Ending → World → Prop} (hz : listed.size = ops.size) (hC : Closed ops listed) (hi : i ∈ Region.ready .any ops listed) (hF : Fr ops a0 (vals x) listed b) (hs : Slots ops a0.tmps.size) (ho : ops[i]? = some o) (hg : Region.wanted o (yielded ops b.tmps) = true)
    (hr : (execOp b.eval o).run P v = .ok (.enter f args) v) (hR : Calls P f args v R) (hK : ∀ e w', R e w' → ∃ x', e = .returned (vals x' i) ∧ (∀ j, listed.getD j false = true → vals x' j = vals x j) ∧ M x' (listed.setIfInBounds i true) w') : wpOp P ops Q i (fun b' v' => QJ vals M ops a0 (listed.setIfInBounds i true) b' v') b v := by
  refine wpOp_wpG ho hg ?_
  unfold Oper.wp
  rw [hr, Oper.upon_enter]
  refine hR.mono fun e w' h => ?_
  obtain ⟨x', rfl, hx, hM⟩ := hK e w' h
  exact ⟨by simp [hz], hC.put hi, x', (hF.congr hx).put hs hz ho, hM⟩
end
end Sp
end Go.Proofs.Yteooafgdmpbjeab
namespace Go.Proofs.Yteooafgdmpbjeab
open Go.ChangeShapes Go.WideShapes Go.ChangeAt Go.RowKit
namespace Sp
open Sc
/-- What a type is made of. -/
inductive Rw where
  | mk (k n : Int) (ns : List Int) (ks : List Rw) : Rw
deriving Inhabited
/-- What a variable of that type holds. -/
structure R4 where
  k : Int
  n : Int
  an : Option Addr
  ln : Nat
  cn : Nat
  ak : Option Addr
  lk : Nat
  ck : Nat
deriving Inhabited
def R4.cells (c : R4) : List Value := [.int .i64 c.k, .int .i64 c.n, .slice c.an c.ln c.cn, .slice c.ak c.lk c.ck]
def I64 (n : Int) : Prop := -9223372036854775808 ≤ n ∧ n ≤ 9223372036854775807
theorem i64_of {n : Int} (h : (Lit.int .i64 n).wf = true) : I64 n := bounds_i64 h
/-- A Raw lies at these cells; all that it leads to lies in blocks that there are. -/
inductive RwV (w : World) : Rw → R4 → Prop where
  | mk (k n : Int) (ns : List Int) (ks : List Rw) (an : Option Addr) (cn : Nat) (ak : Option Addr) (ck : Nat) (us : List R4) (hk : I64 k) (hn : I64 n) (hi : ∀ i ∈ ns, I64 i) (hln : ns.length ≤ maxLen) (hlk : ks.length ≤ maxLen) (hl : us.length = ks.length)
      (ha : RowV w (Any w) an 1 (ns.map fun i => [.int .i64 i])) (hb : RowV w (Any w) ak 4 (us.map R4.cells)) (hu : ∀ i (h : i < ks.length) (h' : i < us.length), RwV w ks[i] us[i]) :
      RwV w (.mk k n ns ks) ⟨k, n, an, ns.length, cn, ak, ks.length, ck⟩
theorem RwV.later {w w' : World} {r : Rw} {c : R4} (h : RwV w r c) (hb : Below w.heap.size w w') : RwV w' r c := by
  induction h with
  | mk k n ns ks an cn ak ck us hk hn hi hln hlk hl ha hb' hu ih =>
    exact .mk k n ns ks an cn ak ck us hk hn hi hln hlk hl (ha.keep (fun _ hg => Nat.lt_of_lt_of_le hg hb.size) (fun g hg => hb.block g hg)) (hb'.keep (fun _ hg => Nat.lt_of_lt_of_le hg hb.size) (fun g hg => hb.block g hg)) ih
/-- Cells that are read at an address: a plain one. -/
theorem addr_plain {w : World} {a : Addr} {i : Nat} {v : Value} (h : w.cell? (a.add i) = some v) (hi : i = 0) : ∃ b o, a = ⟨b, o, none⟩ ∧ b < w.heap.size := by
  obtain ⟨b, o, spot⟩ := a
  subst hi
  have hspot : spot = none := by simpa [Addr.add] using World.cell?_spot h
  subst hspot
  exact ⟨b, o, rfl, World.block_lt_of_cell? (a := ⟨b, o, none⟩) _ (by simpa [Addr.add] using h)⟩
theorem add_addW (b o i j : Nat) : ((⟨b, o, none⟩ : Addr).add i).add j = ⟨b, o + i + j, none⟩ := by rw [Addr.add_lit, Addr.add_lit]
theorem rowV_of {w : World} {a : Addr} {k : Nat} {l : List (List Value)} (hk : 0 < k) (hl : ∀ x ∈ l, x.length = k) (h : ∀ i (hi : i < l.length) j v, (l[i])[j]? = some v → w.cell? ((a.add (i * k)).add j) = some v) : RowV w (Any w) (some a) k l := by
  by_cases h0 : l = []
  · exact .inl h0
  · have hp : 0 < l.length := List.length_pos_iff.2 h0
    have hlen := hl l[0] (List.getElem_mem hp)
    have h1 := h 0 hp 0 (l[0])[0] (List.getElem?_eq_getElem (by omega))
    obtain ⟨b, o, rfl, hb⟩ := addr_plain (i := 0) (by simpa [Addr.add] using h1) rfl
    exact .inr ⟨b, o, rfl, hb, fun i hi j v hv => by rw [← add_addW]; exact h i hi j v hv⟩
set_option maxRecDepth 100000 in
theorem open_raw {H : Type} {enc : TypeId × Value → H} {w : World} : ∀ (fuel : Nat) (cs : List Value) (x : DataW H × List MemPlace), DataW.trod enc Try.prog w 0 (fun _ => true) true fuel 45 cs = some x → ∃ r c, cs = R4.cells c ∧ RwV w r c := by
  intro fuel
  induction fuel using Nat.strongRecOn with
  | _ fuel ih =>
    intro cs x h
    obtain ⟨xs, n, rfl, _, hlen, hxl, hx⟩ := DataW.trod_struct Try.underlying45 h
    have hcR : Try.prog.cellsOf 45 = 4 := by kernel_rfl
    have hcI : Try.prog.cellsOf 3 = 1 := by kernel_rfl
    have hcN : Try.prog.cellsOf 22 = 1 := by kernel_rfl
    have hcK : Try.prog.cellsOf 43 = 1 := by kernel_rfl
    rw [hcR] at hlen
    obtain ⟨c0, c1, c2, c3, rfl⟩ : ∃ c0 c1 c2 c3, cs = [c0, c1, c2, c3] := match cs, hlen with | [a, b, c, d], _ => ⟨a, b, c, d, rfl⟩
    have hxl : xs.length = 4 := hxl
    have e0 := hx 0 _ rfl
    have e1 := hx 1 _ rfl
    have e2 := hx 2 _ rfl
    have e3 := hx 3 _ rfl
    rw [List.getElem?_eq_getElem (by omega)] at e0 e1 e2 e3
    simp only [List.getElem_toArray, List.getElem_cons_zero, List.getElem_cons_succ, hcI, hcN, hcK, List.drop_zero, List.drop_succ_cons, List.take_succ_cons, List.take_zero] at e0 e1 e2 e3
    obtain ⟨k, q0, _, hk⟩ := DataW.trod_int Try.underlying3 e0
    obtain ⟨m, q1, _, hm⟩ := DataW.trod_int Try.underlying3 e1
    cases q0
    cases q1
    have hnames : ∃ an ln cn ns, c2 = .slice an ln cn ∧ ln = List.length ns ∧ ns.length ≤ maxLen ∧ (∀ i ∈ ns, I64 i) ∧ RowV w (Any w) an 1 (ns.map fun i => [Value.int .i64 i]) := by
      rcases open_ints Try.underlying22 Try.underlying3 hcI e2 with ⟨hcs, _⟩ | ⟨a, l, c, zs, hcs, _, hl, hm, hz, _, hcell, hwz⟩
      · cases hcs
        exact ⟨none, 0, 0, [], rfl, rfl, by decide, (fun i h => by cases h), .inl rfl⟩
      · cases hcs
        have hz : zs.length = c := hz
        refine ⟨some a, l, c, zs.take l, rfl, by rw [List.length_take]; omega, by rw [List.length_take]; omega, fun i h => i64_of (hwz i (List.mem_of_mem_take h)), rowV_of (by decide) (fun x hx => by obtain ⟨y, _, rfl⟩ := List.mem_map.1 hx; rfl) (fun i hi j v hv => ?_)⟩
        rw [List.length_map, List.length_take] at hi
        rw [List.getElem_map, List.getElem_take] at hv
        have hj : j = 0 := by
          have := (List.getElem?_eq_some_iff.1 hv).1
          simpa using this
        subst hj
        have hv : some (Value.int .i64 zs[i]) = some v := hv
        cases hv
        rw [Addr.add_zero', Nat.mul_one, hcell i (by omega)]
        simp [List.getD, List.getElem?_eq_getElem (show i < zs.length by omega)]
    have hkids : ∃ ak lk ck, ∃ ks : List Rw, ∃ us : List R4, c3 = .slice ak lk ck ∧ lk = ks.length ∧ ks.length ≤ maxLen ∧ us.length = ks.length ∧ RowV w (Any w) ak 4 (us.map R4.cells) ∧ ∀ i (h : i < ks.length) (h' : i < us.length), RwV w ks[i] us[i] := by
      rcases DataW.trod_slice Try.underlying43 e3 with ⟨hcs, _⟩ | ⟨a, l, c, elems, rest, m', hm', hcs, _, _, hl, hmx, hel, hx3, _⟩
      · cases hcs
        exact ⟨none, 0, 0, [], [], rfl, rfl, by decide, rfl, .inl rfl, fun i h => by cases h⟩
      · cases hcs
        have each : ∀ i, i < l → ∃ r : Rw, ∃ c : R4, RwV w r c ∧ ∀ j v, c.cells[j]? = some v → w.cell? ((a.add (i * 4)).add j) = some v := fun i hi => by
          have h1 := hx3 i hi
          rw [hcR, List.getElem?_eq_getElem (by omega)] at h1
          obtain ⟨cl, h2, h3⟩ := Option.bind_eq_some_iff.1 h1
          obtain ⟨r, cc, rfl, hr⟩ := ih m' (by omega) cl _ h3
          obtain ⟨_, _, h4⟩ := World.cells?_some h2
          refine ⟨r, cc, hr, fun j v hv => ?_⟩
          have hj : j < 4 := (List.getElem?_eq_some_iff.1 hv).1
          rw [h4 j hj]; exact hv
        obtain ⟨f, hf⟩ : ∃ f : Nat → Rw × R4, ∀ i, i < l → RwV w (f i).1 (f i).2 ∧ ∀ j v, (f i).2.cells[j]? = some v → w.cell? ((a.add (i * 4)).add j) = some v :=
          ⟨fun i => if h : i < l then ((each i h).choose, (each i h).choose_spec.choose) else default, fun i hi => by simp only [dif_pos hi]; exact (each i hi).choose_spec.choose_spec⟩
        refine ⟨some a, l, c, (List.range l).map fun i => (f i).1, (List.range l).map fun i => (f i).2, rfl, by simp, by simp; omega, by simp, rowV_of (by decide) (fun x hx => by obtain ⟨y, _, rfl⟩ := List.mem_map.1 hx; rfl) (fun i hi j v hv => ?_), fun i h1 h2 => ?_⟩
        · simp only [List.length_map, List.length_range] at hi
          simp only [List.getElem_map, List.getElem_range] at hv
          exact (hf i hi).2 j v hv
        · simp only [List.length_map, List.length_range] at h1
          simp only [List.getElem_map, List.getElem_range]
          exact (hf i h1).1
    obtain ⟨an, ln, cn, ns, rfl, rfl, hnl, hni, hnr⟩ := hnames
    obtain ⟨ak, lk, ck, ks, us, rfl, rfl, hkl, hul, hkr, hku⟩ := hkids
    exact ⟨.mk k m ns ks, ⟨k, m, an, ns.length, cn, ak, ks.length, ck⟩, rfl, .mk k m ns ks an cn ak ck us (i64_of hk) (i64_of hm) hni hnl hkl hul hnr hkr hku⟩
end Sp
end Go.Proofs.Yteooafgdmpbjeab
