/- A region that draws its order, by an invariant over what has come up: however it is drawn, each operation that may come up carries it on. No program is named here. -/
import Derived.Test.YtdophmlnmbcjlaaRows
import Derived.Orders
namespace Go.Proofs.Ytdophmlnmbcjlaa
namespace Sp
variable {P : Program} {ops : Array Oper} {Q : Exit → Act → World → Prop} {md : Region.Mode}
/-- How many have not come up. -/
def openN (ops : Array Oper) (listed : Array Bool) : Nat := ((List.range ops.size).filter fun j => !listed.getD j true).length
theorem filter_leD {α : Type} (p q : α → Bool) (h : ∀ x, q x = true → p x = true) : ∀ l : List α, (l.filter q).length ≤ (l.filter p).length
  | [] => Nat.le_refl _
  | x :: l => by
    have ih := filter_leD p q h l
    rw [List.filter_cons, List.filter_cons]
    cases hq : q x
    · rw [if_neg (by simp)]; split <;> simp <;> omega
    · rw [if_pos rfl, if_pos (h x hq)]; simp; exact ih
theorem filter_ltD {α : Type} (p q : α → Bool) (h : ∀ x, q x = true → p x = true) (y : α) (hp : p y = true) (hq : q y = false) : ∀ l : List α, y ∈ l → (l.filter q).length < (l.filter p).length
  | x :: l, hm => by
    rw [List.filter_cons, List.filter_cons]
    rcases List.mem_cons.1 hm with e | e
    · subst e
      rw [if_neg (by rw [hq]; decide), if_pos hp]
      have := filter_leD p q h l
      simp; omega
    · have ih := filter_ltD p q h y hp hq l e
      cases hqx : q x
      · rw [if_neg (by simp)]; split <;> simp <;> omega
      · rw [if_pos rfl, if_pos (h x hqx)]; simp; exact ih
theorem getD_setD {listed : Array Bool} {i j : Nat} (h : (listed.setIfInBounds i true).getD j true = false) : listed.getD j true = false ∧ j ≠ i := by
  simp only [Array.getD_eq_getD_getElem?, Array.getElem?_setIfInBounds] at h ⊢
  by_cases e : i = j
  · subst e
    rw [if_pos rfl] at h
    split at h <;> simp_all
  · rw [if_neg e] at h
    exact ⟨h, fun e' => e e'.symm⟩
theorem openN_set {listed : Array Bool} {i : Nat} (hi : i < ops.size) (h : listed.getD i true = false) : openN ops (listed.setIfInBounds i true) < openN ops listed := by
  refine filter_ltD _ _ (fun x hx => ?_) i ?_ ?_ _ (List.mem_range.2 hi)
  · simp only [Bool.not_eq_true'] at hx ⊢
    exact (getD_setD hx).1
  · simp only [h, Bool.not_false]
  · cases hh : (listed.setIfInBounds i true).getD i true
    · exact absurd rfl (getD_setD hh).2
    · rfl
theorem wpAny_inv (J : Array Bool → Act → World → Prop)
    (step : ∀ listed a w i, J listed a w → i ∈ Region.ready md ops listed → wpOp P ops Q i (fun a' w' => J (listed.setIfInBounds i true) a' w') a w)
    (done : ∀ listed a w, J listed a w → Region.ready md ops listed = [] → Q .normal a w) :
    ∀ fuel listed a w, openN ops listed ≤ fuel → J listed a w → wpAny P md ops Q fuel listed a w
  | 0, listed, a, w, hf, h => by
    have hr : Region.ready md ops listed = [] := by
      apply List.eq_nil_iff_forall_not_mem.2
      intro j hj
      obtain ⟨h1, o, ho, _⟩ := mem_ready.1 hj
      have hm : j ∈ (List.range ops.size).filter fun j => !listed.getD j true := List.mem_filter.2 ⟨List.mem_range.2 (Array.getElem?_eq_some_iff.1 ho).1, by rw [h1]; rfl⟩
      have := List.length_pos_of_mem hm
      unfold openN at hf
      omega
    exact ⟨hr, done _ _ _ h hr⟩
  | fuel + 1, listed, a, w, hf, h => by
    refine ⟨done _ _ _ h, fun i hi => wpOp_mono (fun a' w' h' => wpAny_inv J step done fuel _ a' w' ?_ h') (step _ _ _ _ h hi)⟩
    obtain ⟨h1, o, ho, _⟩ := mem_ready.1 hi
    have := openN_set (ops := ops) (Array.getElem?_eq_some_iff.1 ho).1 h1
    omega
/-- The region, by what holds at its beginning, behind each operation that may come up, and when all have come up. -/
theorem wp_region_inv {id : Nat} {a : Act} {w : World} (hm : P.follows .mixedOrders = true) (J : Array Bool → Act → World → Prop)
    (start : J (Array.replicate ops.size false) a w.drew)
    (step : ∀ listed a w i, J listed a w → i ∈ Region.ready .any ops listed → wpOp P ops Q i (fun a' w' => J (listed.setIfInBounds i true) a' w') a w)
    (done : ∀ listed a w, J listed a w → Region.ready .any ops listed = [] → Q .normal a w) : (Code.region id ops true).wp P Q a w :=
  wp_region_any hm (wpAny_inv J step done ops.size _ a _ (by unfold openN; exact Nat.le_trans (List.length_filter_le _ _) (by simp)) start)
/-- The same, the invariant told of whatever operations and frame stand there. -/
theorem wp_region_by {id : Nat} {a : Act} {w : World} (J : Array Oper → Act → Array Bool → Act → World → Prop) (hm : P.follows .mixedOrders = true)
    (start : J ops a (Array.replicate ops.size false) a w.drew)
    (step : ∀ listed b v i, J ops a listed b v → i ∈ Region.ready .any ops listed → wpOp P ops Q i (fun b' v' => J ops a (listed.setIfInBounds i true) b' v') b v)
    (done : ∀ listed b v, J ops a listed b v → Region.ready .any ops listed = [] → Q .normal b v) : (Code.region id ops true).wp P Q a w :=
  wp_region_inv hm (J ops a) start step done
/-- Where each waits for earlier ones alone and none may come up, all have come up. -/
theorem all_up {listed : Array Bool} (hb : ∀ (j : Nat) (o : Oper), ops[j]? = some o → ∀ e ∈ o.after, e.on < j ∧ e.on < ops.size) (hs : listed.size = ops.size) (hr : Region.ready md ops listed = []) : ∀ n j, j < n → j < ops.size → listed.getD j true = true
  | 0, j, h, _ => absurd h (Nat.not_lt_zero _)
  | n + 1, j, h, hj => by
    cases hl : listed.getD j true with
    | true => rfl
    | false =>
      have hm : j ∈ Region.ready md ops listed := by
        refine mem_ready.2 ⟨hl, ops[j], Array.getElem?_eq_getElem hj, fun e he _ => ?_⟩
        obtain ⟨h1, h2⟩ := hb j ops[j] (Array.getElem?_eq_getElem hj) e he
        have := all_up hb hs hr n e.on (by omega) h2
        rw [Array.getD_eq_getD_getElem?, Array.getElem?_eq_getElem (by omega)] at this ⊢
        simpa using this
      rw [hr] at hm
      cases hm
end Sp
end Go.Proofs.Ytdophmlnmbcjlaa
namespace Go.Proofs.Ytdophmlnmbcjlaa
namespace Sp
variable {P : Program} {ops : Array Oper} {Q : Exit → Act → World → Prop}
def dstOf (ops : Array Oper) (i : Nat) : Option Nat := (ops[i]?).bind (·.dst)
structure Fr (ops : Array Oper) (a0 : Act) (vals : Nat → Value) (listed : Array Bool) (a : Act) : Prop where
  defers : a.defers = a0.defers
  size : a.tmps.size = a0.tmps.size
  up : ∀ i d, dstOf ops i = some d → listed.getD i false = true → a.tmps[d]? = some (vals i)
  old : ∀ s, (∀ i, dstOf ops i = some s → listed.getD i false = false) → a.tmps[s]? = a0.tmps[s]?
theorem getD_setF {listed : Array Bool} {i j : Nat} : (listed.setIfInBounds i true).getD j false = (listed.getD j false || (decide (i = j) && decide (i < listed.size))) := by
  simp only [Array.getD_eq_getD_getElem?, Array.getElem?_setIfInBounds]
  by_cases e : i = j
  · subst e
    rw [if_pos rfl]
    by_cases h : i < listed.size
    · simp [h]
    · simp [h]
  · simp [e]
theorem Fr.start (a0 : Act) (vals : Nat → Value) (n : Nat) : Fr ops a0 vals (Array.replicate n false) a0 :=
  ⟨rfl, rfl, fun i d _ h => by
    rw [Array.getD_eq_getD_getElem?] at h
    by_cases hi : i < n <;> simp [hi] at h, fun _ _ => rfl⟩
/-- What is told of a region's slots: each is one operation's, and there is such a slot. -/
structure Slots (ops : Array Oper) (n : Nat) : Prop where
  inj : ∀ i j d, dstOf ops i = some d → dstOf ops j = some d → i = j
  lt : ∀ i d, dstOf ops i = some d → d < n
theorem Fr.put {a0 a : Act} {vals : Nat → Value} {listed : Array Bool} (h : Fr ops a0 vals listed a) (hs : Slots ops a0.tmps.size) (hz : listed.size = ops.size) {i : Nat} {o : Oper} (ho : ops[i]? = some o) :
    Fr ops a0 vals (listed.setIfInBounds i true) (a.put o.dst (vals i)) := by
  have hi : i < listed.size := by rw [hz]; exact (Array.getElem?_eq_some_iff.1 ho).1
  have hd : dstOf ops i = o.dst := by unfold dstOf; rw [ho]; rfl
  cases hdst : o.dst with
  | none =>
    refine ⟨h.defers, h.size, fun j d hj hl => ?_, fun s hl => h.old s fun j hj => ?_⟩
    · rw [getD_setF] at hl
      simp only [Bool.or_eq_true, Bool.and_eq_true, decide_eq_true_eq] at hl
      rcases hl with hl | ⟨rfl, _⟩
      · exact h.up j d hj hl
      · rw [hd, hdst] at hj; cases hj
    · have := hl j hj
      rw [getD_setF] at this
      simp only [Bool.or_eq_false_iff] at this
      exact this.1
  | some d0 =>
    have hlt := hs.lt i d0 (by rw [hd, hdst])
    refine ⟨h.defers, by simp [Act.put, h.size], fun j d hj hl => ?_, fun s hl => ?_⟩
    · rw [getD_setF] at hl
      simp only [Bool.or_eq_true, Bool.and_eq_true, decide_eq_true_eq] at hl
      show (a.tmps.setIfInBounds d0 (vals i))[d]? = _
      rw [Array.getElem?_setIfInBounds]
      by_cases e : d0 = d
      · subst e
        have := hs.inj j i d0 hj (by rw [hd, hdst])
        subst this
        rw [if_pos rfl, if_pos (by rw [h.size]; exact hlt)]
      · rw [if_neg e]
        rcases hl with hl | ⟨rfl, _⟩
        · exact h.up j d hj hl
        · rw [hd, hdst] at hj; cases hj; exact absurd rfl e
    · show (a.tmps.setIfInBounds d0 (vals i))[s]? = _
      have e : ¬ d0 = s := fun e => by
        subst e
        have := hl i (by rw [hd, hdst])
        rw [getD_setF] at this
        simp [hi] at this
      rw [Array.getElem?_setIfInBounds, if_neg e]
      exact h.old s fun j hj => by
        have := hl j hj
        rw [getD_setF] at this
        simp only [Bool.or_eq_false_iff] at this
        exact this.1
/-- What is told of what has not come up yet may be told anew. -/
theorem Fr.congr {a0 a : Act} {vals vals' : Nat → Value} {listed : Array Bool} (h : Fr ops a0 vals listed a) (hv : ∀ i, listed.getD i false = true → vals' i = vals i) : Fr ops a0 vals' listed a :=
  ⟨h.defers, h.size, fun i d hd hl => by rw [hv i hl]; exact h.up i d hd hl, h.old⟩
theorem Fr.same {a0 a b : Act} {vals : Nat → Value} {listed : Array Bool} (h : Fr ops a0 vals listed a) (k : Fr ops a0 vals listed b) (hall : ∀ i, i < ops.size → listed.getD i false = true) : a = b := by
  obtain ⟨ta, da⟩ := a
  obtain ⟨tb, db⟩ := b
  have h1 : da = db := h.defers.trans k.defers.symm
  subst h1
  congr 1
  apply Array.ext_getElem?
  intro s
  by_cases e : ∃ i, dstOf ops i = some s
  · obtain ⟨i, hi⟩ := e
    have hlt : i < ops.size := by
      unfold dstOf at hi
      cases ho : ops[i]? with
      | none => rw [ho] at hi; cases hi
      | some o => exact (Array.getElem?_eq_some_iff.1 ho).1
    exact (h.up i s hi (hall i hlt)).trans (k.up i s hi (hall i hlt)).symm
  · exact (h.old s fun i hi => absurd ⟨i, hi⟩ e).trans (k.old s fun i hi => absurd ⟨i, hi⟩ e).symm
/-- All in the order of the text. -/
def putAll (ops : Array Oper) (vals : Nat → Value) (a0 : Act) : Nat → Act
  | 0 => a0
  | n + 1 => (putAll ops vals a0 n).put (dstOf ops n) (vals n)
def upTo (m : Nat) : Nat → Array Bool
  | 0 => Array.replicate m false
  | n + 1 => (upTo m n).setIfInBounds n true
theorem upTo_size (m : Nat) : ∀ n, (upTo m n).size = m
  | 0 => by simp [upTo]
  | n + 1 => by simp [upTo, upTo_size m n]
theorem upTo_all (m : Nat) : ∀ n, n ≤ m → ∀ i, i < n → (upTo m n).getD i false = true
  | n + 1, hn, i, hi => by
    rw [upTo, getD_setF, upTo_size]
    by_cases e : n = i
    · subst e; simp; omega
    · rw [upTo_all m n (by omega) i (by omega)]; rfl
theorem Fr.all {a0 : Act} {vals : Nat → Value} (hs : Slots ops a0.tmps.size) : ∀ n, n ≤ ops.size → Fr ops a0 vals (upTo ops.size n) (putAll ops vals a0 n)
  | 0, _ => Fr.start a0 vals _
  | n + 1, hn => by
    have ho : ops[n]? = some ops[n] := Array.getElem?_eq_getElem (by omega)
    have := (Fr.all (vals := vals) hs n (by omega)).put hs (upTo_size _ _) ho
    have e : dstOf ops n = ops[n].dst := by unfold dstOf; rw [ho]; rfl
    rw [putAll, upTo, e]
    exact this
/-- When all have come up the frame is the text's. -/
theorem Fr.done {a0 a : Act} {vals : Nat → Value} {listed : Array Bool} (h : Fr ops a0 vals listed a) (hs : Slots ops a0.tmps.size) (hall : ∀ i, i < ops.size → listed.getD i false = true) : a = putAll ops vals a0 ops.size := by
  have k := Fr.all (vals := vals) hs ops.size (Nat.le_refl _)
  refine Fr.same (listed := listed) h ?_ hall
  exact ⟨k.defers, k.size, fun i d hd _ => k.up i d hd (upTo_all _ _ (Nat.le_refl _) i (by
    unfold dstOf at hd
    cases ho : ops[i]? with
    | none => rw [ho] at hd; cases hd
    | some o => exact (Array.getElem?_eq_some_iff.1 ho).1)), fun s hl => k.old s fun i hi => by
      have hlt : i < ops.size := by
        unfold dstOf at hi
        cases ho : ops[i]? with
        | none => rw [ho] at hi; cases hi
        | some o => exact (Array.getElem?_eq_some_iff.1 ho).1
      have := hl i hi
      rw [hall i hlt] at this
      cases this⟩
/-- A slot that an operation asks for, which has come up. -/
theorem Fr.eval {a0 a : Act} {vals : Nat → Value} {listed : Array Bool} (h : Fr ops a0 vals listed a) {i d : Nat} (hd : dstOf ops i = some d) (hl : listed.getD i false = true) : a.eval (.tmp d) = vals i := by
  show a.tmps.getD d undef = _
  rw [Array.getD_eq_getD_getElem?, h.up i d hd hl]; rfl
/-- What has come up has all that it waits for. -/
def Closed (ops : Array Oper) (listed : Array Bool) : Prop := ∀ (i : Nat) (o : Oper), ops[i]? = some o → listed.getD i false = true → ∀ e ∈ o.after, Region.binds .any e = true → listed.getD e.on false = true
theorem Closed.start (n : Nat) : Closed ops (Array.replicate n false) := fun i o _ h => by
  rw [Array.getD_eq_getD_getElem?] at h
  by_cases hi : i < n <;> simp [hi] at h
theorem Closed.put {listed : Array Bool} (h : Closed ops listed) {i : Nat} (hi : i ∈ Region.ready .any ops listed) : Closed ops (listed.setIfInBounds i true) := fun j o ho hl e he hb => by
  rw [getD_setF] at hl ⊢
  simp only [Bool.or_eq_true, Bool.and_eq_true, decide_eq_true_eq] at hl ⊢
  rcases hl with hl | ⟨rfl, _⟩
  · exact .inl (h j o ho hl e he hb)
  · obtain ⟨_, o', ho', hd⟩ := mem_ready.1 hi
    rw [ho] at ho'
    cases ho'
    exact .inl (hd e he hb)
/-- One that may come up has not come up yet. -/
theorem not_up {listed : Array Bool} {i : Nat} (hz : listed.size = ops.size) (hi : i ∈ Region.ready .any ops listed) : listed.getD i false = false ∧ i < ops.size := by
  obtain ⟨h1, o, ho, _⟩ := mem_ready.1 hi
  have hlt := (Array.getElem?_eq_some_iff.1 ho).1
  refine ⟨?_, hlt⟩
  rw [Array.getD_eq_getD_getElem?, Array.getElem?_eq_getElem (by omega)] at h1 ⊢
  simpa using h1
/-- Each waits for earlier ones alone, by a reckoning. -/
def edgesB (ops : Array Oper) : Bool := (List.range ops.size).all fun j => match ops[j]? with | some o => o.after.toList.all fun e => decide (e.on < j) && decide (e.on < ops.size) | none => true
theorem all_upB {md : Region.Mode} {listed : Array Bool} (hb : edgesB ops = true) (hs : listed.size = ops.size) (hr : Region.ready md ops listed = []) : ∀ i, i < ops.size → listed.getD i false = true := fun i hi => by
  have h := all_up (md := md) (fun j o ho e he => by
    have a := List.all_eq_true.1 hb j (List.mem_range.2 (Array.getElem?_eq_some_iff.1 ho).1)
    rw [ho] at a
    have b := List.all_eq_true.1 a e (Array.mem_toList_iff.2 he)
    simpa only [Bool.and_eq_true, decide_eq_true_eq] using b) hs hr (i + 1) i (Nat.lt_succ_self i) hi
  rw [Array.getD_eq_getD_getElem?, Array.getElem?_eq_getElem (by omega)] at h ⊢
  simpa using h
/-- Slots by a reckoning. -/
def slotsB (ops : Array Oper) (n : Nat) : Bool := (List.range ops.size).all fun i => (match dstOf ops i with | none => true | some d => decide (d < n)) && (List.range ops.size).all fun j => decide (i = j) || ((dstOf ops i).isNone || !decide (dstOf ops i = dstOf ops j))
theorem dst_lt {ops : Array Oper} {i d : Nat} (h : dstOf ops i = some d) : i < ops.size := by
  unfold dstOf at h
  cases ho : ops[i]? with
  | none => rw [ho] at h; cases h
  | some o => exact (Array.getElem?_eq_some_iff.1 ho).1
theorem Slots.of {ops : Array Oper} {n : Nat} (h : slotsB ops n = true) : Slots ops n := by
  have a := fun i hi => List.all_eq_true.1 h i (List.mem_range.2 hi)
  refine ⟨fun i j d hi hj => ?_, fun i d hi => ?_⟩
  · have b := a i (dst_lt hi)
    simp only [Bool.and_eq_true] at b
    have c := List.all_eq_true.1 b.2 j (List.mem_range.2 (dst_lt hj))
    simp only [Bool.or_eq_true, decide_eq_true_eq, hi, hj, Option.isNone_some, Bool.not_eq_true', decide_eq_false_iff_not] at c
    rcases c with c | c | c
    · exact c
    · cases c
    · simp at c
  · have b := a i (dst_lt hi)
    simp only [Bool.and_eq_true, hi, decide_eq_true_eq] at b
    exact b.1
theorem Fr.old_is {a0 a : Act} {vals : Nat → Value} {listed : Array Bool} (h : Fr ops a0 vals listed a) (s : Nat) {v : Value} (hn : ((List.range ops.size).all fun i => !decide (dstOf ops i = some s)) = true) (hv : a0.tmps[s]? = some v) : a.tmps[s]? = some v := by
  refine (h.old s fun i hi => ?_).trans hv
  have := List.all_eq_true.1 hn i (List.mem_range.2 (dst_lt hi))
  simp [hi] at this
theorem wpOp_wp {i : Nat} {o : Oper} {a : Act} {w : World} {K : Act → World → Prop} (hi : ops[i]? = some o) (hg : o.guard = none) (h : o.wp P a w K Q) : wpOp P ops Q i K a w := by
  unfold wpOp
  rw [hi]
  simp only [Region.wanted, hg, if_true]
  exact .inl h
/-- An operation that runs. -/
theorem wpOp_run {i : Nat} {o : Oper} {a : Act} {w w' : World} {v : Value} {K : Act → World → Prop} (hi : ops[i]? = some o) (hg : o.guard = none) (hr : (execOp a.eval o).run P w = .ok (.value v) w') (hK : K (a.put o.dst v) w') : wpOp P ops Q i K a w := by
  unfold wpOp
  rw [hi]
  simp only [Region.wanted, hg, if_true]
  refine .inl ?_
  unfold Oper.wp
  rw [hr]
  exact hK
end Sp
end Go.Proofs.Ytdophmlnmbcjlaa
