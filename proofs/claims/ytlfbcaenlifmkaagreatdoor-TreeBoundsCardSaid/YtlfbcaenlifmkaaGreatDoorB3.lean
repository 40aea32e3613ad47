/- Chapter 7's reader and builder as plain functions: pipelines, actions, trees. No program is named here. -/
import Derived.Test.YtlfbcaenlifmkaaGreatDoorB1
import Derived.Test.YtlfbcaenlifmkaaGreatDoorB2
namespace Go.Proofs.YtlfbcaenlifmkaaGreatDoor
namespace Tr
open Sc
/-- An operand: kind, variable, path, text, number, bool, and what stands in its brackets. -/
inductive Op where
  | mk (kind : Nat) (var : List UInt8) (path : List (List UInt8)) (s : List UInt8) (n : Int) (b : Bool) (pipe : List (List Op)) : Op
def Op.zero (k : Nat) : Op := .mk k [] [] [] 0 false []
def noT : T := ⟨0, [], 0, 0⟩
/-- The words that are left, the byte behind the last one read, the first error. -/
structure R where
  ws : List T
  en : Nat
  err : Nat
namespace R
def at_ (r : R) (n : Nat) : T := r.ws.getD n noT
def step (r : R) : R := ⟨r.ws.tail, (r.at_ 0).at_ + (r.at_ 0).text.length, r.err⟩
def fail (r : R) (e : Nat) : R := ⟨[], r.en, if r.err = 0 then e else r.err⟩
end R
def isS (t : T) (s : List UInt8) : Bool := decide (t.kind = 4) && decide (t.text = s)
def need (k : Nat) (r : R) : List UInt8 × R := if (r.at_ 0).kind = k then ((r.at_ 0).text, r.step) else ([], r.fail 12)
/-- The words that actions begin with, and their kinds. -/
def verbsL : List (List UInt8 × Int) :=
  [([105, 102], 5), ([119, 105, 116, 104], 6), ([114, 97, 110, 103, 101], 7), ([109, 97, 116, 99, 104], 8), ([101, 108, 115, 101], -1),
   ([101, 110, 100], -2), ([99, 97, 115, 101], -3), ([116, 101, 109, 112, 108, 97, 116, 101], 9), ([100, 101, 102, 105, 110, 101], -4)]
def verbK (s : List UInt8) : Option Int := (verbsL.find? (fun p => decide (p.1 = s))).map (·.2)
def named (s : List UInt8) : Nat :=
  if (verbK s).isSome then 0 else if s = [116, 114, 117, 101] ∨ s = [102, 97, 108, 115, 101] then 4 else 6
def signed (s : List UInt8) : Nat := if s = [46] ∨ s = [36] then 1 else if s = [40] then 5 else 0
def begins (t : T) : Nat :=
  if t.kind = 2 then 2 else if t.kind = 3 then 3 else if t.kind = 1 then named t.text else if t.kind = 4 then signed t.text else 0
def atField (r : R) : Bool := isS (r.at_ 0) [46] && decide ((r.at_ 1).kind = 1) && decide ((r.at_ 1).at_ = (r.at_ 0).at_ + 1)
def fieldR (r : R) : List UInt8 × R := (((r.step).at_ 0).text, r.step.step)
def pathGo : Nat → R → List (List UInt8) × R
  | 0, r => ([], r)
  | f + 1, r =>
    if (r.at_ 0).at_ = r.en ∧ atField r = true then ((fieldR r).1 :: (pathGo f (fieldR r).2).1, (pathGo f (fieldR r).2).2)
    else ([], r)
def fieldsR (r : R) : List (List UInt8) × R := pathGo (r.ws.length + 1) r
def pathR (r : R) : (List UInt8 × List (List UInt8)) × R :=
  if isS (r.at_ 0) [36] then (((need 1 r.step).1, (fieldsR (need 1 r.step).2).1), (fieldsR (need 1 r.step).2).2)
  else if atField r then (([], (fieldR r).1 :: (fieldsR (fieldR r).2).1), (fieldsR (fieldR r).2).2)
  else (([], []), r.step)
section
variable (brk : R → List (List Op) × R)
def operandR (r : R) : Op × R :=
  if begins (r.at_ 0) = 1 then (.mk 1 (pathR r).1.1 (pathR r).1.2 [] 0 false [], (pathR r).2)
  else if begins (r.at_ 0) = 3 then (.mk 3 [] [] [] (r.at_ 0).n false [], r.step)
  else if begins (r.at_ 0) = 4 then (.mk 4 [] [] [] 0 (decide ((r.at_ 0).text = [116, 114, 117, 101])) [], r.step)
  else if begins (r.at_ 0) = 2 ∨ begins (r.at_ 0) = 6 then (.mk (begins (r.at_ 0)) [] [] (r.at_ 0).text 0 false [], r.step)
  else if begins (r.at_ 0) = 5 then (.mk 5 [] [] [] 0 false (brk r).1, (brk r).2)
  else (.zero (begins (r.at_ 0)), r.fail 12)
/-- What a function is given: at most so many more. -/
def givenR : Nat → R → List Op × R
  | k, r =>
    if begins (r.at_ 0) = 0 ∨ begins (r.at_ 0) = 6 then ([], r)
    else match k with
      | 0 => ([], r.fail 18)
      | k + 1 => ((operandR brk r).1 :: (givenR k (operandR brk r).2).1, (givenR k (operandR brk r).2).2)
def commandR (r : R) : List Op × R :=
  if begins (r.at_ 0) = 6 then ((operandR brk r).1 :: (givenR brk 4 (operandR brk r).2).1, (givenR brk 4 (operandR brk r).2).2)
  else ([(operandR brk r).1], (operandR brk r).2)
def pipeGo : Nat → R → List (List Op) × R
  | 0, r => ([], r)
  | f + 1, r =>
    if isS (r.at_ 0) [124] then ((commandR brk r.step).1 :: (pipeGo f (commandR brk r.step).2).1, (pipeGo f (commandR brk r.step).2).2)
    else ([], r)
def pipeOver (r : R) : List (List Op) × R :=
  ((commandR brk r).1 :: (pipeGo brk ((commandR brk r).2.ws.length + 1) (commandR brk r).2).1, (pipeGo brk ((commandR brk r).2.ws.length + 1) (commandR brk r).2).2)
end
/-- What stands in brackets, where so many more may be open. -/
def brkR : Nat → R → List (List Op) × R
  | 0, r => ([], r.fail 13)
  | d + 1, r =>
    ((pipeOver (brkR d) r.step).1,
      if isS ((pipeOver (brkR d) r.step).2.at_ 0) [41] then (pipeOver (brkR d) r.step).2.step else (pipeOver (brkR d) r.step).2.fail 12)
def pipeR (r : R) : List (List Op) × R := pipeOver (brkR 12) r
def overE (r : R) : Nat := if r.ws.length = 0 then r.err else if r.err = 0 then 12 else r.err
def allR {α : Type} (none : α) (read : R → α × R) (l : List UInt8) : α × Nat :=
  if (toks l).1 = 0 then
    (if overE (read ⟨(toks l).2, 0, 0⟩).2 = 0 then ((read ⟨(toks l).2, 0, 0⟩).1, 0) else (none, overE (read ⟨(toks l).2, 0, 0⟩).2))
  else (none, (toks l).1)
def pipeL (l : List UInt8) : List (List Op) × Nat := allR [] pipeR l
/-- An action to a node without what stands behind it: kind, name, pipeline. -/
structure Act where
  kind : Int
  name : List UInt8
  pipe : List (List Op)
def Act.zero : Act := ⟨0, [], []⟩
def kindR (r : R) : Int × R :=
  if (r.at_ 0).kind = 1 ∧ (verbK (r.at_ 0).text).isSome = true then ((verbK (r.at_ 0).text).getD 0, r.step)
  else if isS (r.at_ 0) [36] = true ∧ (r.at_ 1).kind = 1 then
    (if isS (r.at_ 2) [58, 61] then (3, r) else if isS (r.at_ 2) [61] then (4, r) else (2, r))
  else (2, r)
def pipedR (k : Int) (n : List UInt8) (r : R) : Act × R := (⟨k, n, (pipeR r).1⟩, (pipeR r).2)
def actGo (k : Int) (r : R) : Act × R :=
  if k = -1 ∨ k = -2 then (⟨k, [], []⟩, r)
  else if k = -3 then (⟨k, (need 1 r).1, []⟩, (need 1 r).2)
  else if k = -4 then (⟨k, (need 2 r).1, []⟩, (need 2 r).2)
  else if k = 9 then (if (need 2 r).2.ws.length = 0 then (⟨k, (need 2 r).1, []⟩, (need 2 r).2) else pipedR k (need 2 r).1 (need 2 r).2)
  else if k = 3 ∨ k = 4 then pipedR k ((r.step).at_ 0).text r.step.step.step
  else pipedR k [] r
def actionR (r : R) : Act × R := actGo (kindR r).1 (kindR r).2
def actionL (l : List UInt8) : Act × Nat := allR .zero actionR l
inductive Nd where
  | mk (kind : Int) (at_ : Nat) (s name : List UInt8) (pipe : List (List Op)) (body els : List Nd) (hasElse : Bool) (cases : List (List UInt8 × List Nd)) : Nd
namespace Nd
def kind : Nd → Int | .mk k _ _ _ _ _ _ _ _ => k
def at_ : Nd → Nat | .mk _ a _ _ _ _ _ _ _ => a
def s : Nd → List UInt8 | .mk _ _ s _ _ _ _ _ _ => s
def pipe : Nd → List (List Op) | .mk _ _ _ _ p _ _ _ _ => p
def name : Nd → List UInt8 | .mk _ _ _ n _ _ _ _ _ => n
def body : Nd → List Nd | .mk _ _ _ _ _ b _ _ _ => b
def els : Nd → List Nd | .mk _ _ _ _ _ _ e _ _ => e
def hasElse : Nd → Bool | .mk _ _ _ _ _ _ _ h _ => h
def cases : Nd → List (List UInt8 × List Nd) | .mk _ _ _ _ _ _ _ _ c => c
/-- A block is a match whose nodes have nowhere to stand yet. -/
def waits (d : Nd) : Bool := decide (d.kind = 8) && decide (d.cases.length = 0) && !d.hasElse
def branches (d : Nd) : Bool := decide (d.kind = 5) || decide (d.kind = 6) || decide (d.kind = 7) || decide (d.kind = 8)
def allows (d : Nd) (k : Int) : Bool :=
  if k = -2 then !decide (d.kind = 0)
  else if k = -1 then d.branches && !d.hasElse
  else if k = -3 then decide (d.kind = 8) && !d.hasElse
  else if k = -4 then decide (d.kind = 0)
  else !d.waits
/-- The row of cases whose last one is given a node more. -/
def lastCase (x : Nd) : List (List UInt8 × List Nd) → List (List UInt8 × List Nd)
  | [] => []
  | [c] => [(c.1, c.2 ++ [x])]
  | c :: l => c :: lastCase x l
def put : Nd → Nd → Nd
  | .mk k a s n p b e h c, x =>
    if h then .mk k a s n p b (e ++ [x]) h c
    else if 0 < c.length then .mk k a s n p b e h (lastCase x c)
    else .mk k a s n p (b ++ [x]) e h c
def setElse : Nd → Nd
  | .mk k a s n p b e _ c => .mk k a s n p b e true c
def addCase (t : List UInt8) : Nd → Nd
  | .mk k a s n p b e h c => .mk k a s n p b e h (c ++ [(t, [])])
end Nd
/-- What is open, the innermost first, the whole last; what is defined. -/
structure B where
  inner : Nd
  outer : List Nd
  defined : List (List UInt8 × List Nd)
namespace B
def enter (x : Nd) (b : B) : B := ⟨x, b.inner :: b.outer, b.defined⟩
def putB (x : Nd) (b : B) : B := ⟨b.inner.put x, b.outer, b.defined⟩
def depth (b : B) : Nat := b.outer.length
def close (b : B) : B :=
  match b.outer with
  | [] => b
  | d :: l => if b.inner.kind = -4 then ⟨d, l, b.defined ++ [(b.inner.name, b.inner.body)]⟩ else ⟨d.put b.inner, l, b.defined⟩
end B
def identL (l : List UInt8) : Bool := decide (l.length ≠ 0) && (decide (l.length ≤ 16) && decide (nsz l = l.length))
def blankL (l : List UInt8) : Bool := l.all isB
def nodeOf (a : Act) (p : Nat) : Nd := .mk a.kind p [] a.name a.pipe [] [] false []
/-- An action that may stand there. -/
def actB (a : Act) (p : Nat) (b : B) : Nat × B :=
  if a.kind = -2 then (0, b.close)
  else if a.kind = -1 then (0, ⟨b.inner.setElse, b.outer, b.defined⟩)
  else if a.kind = -3 then (0, ⟨b.inner.addCase a.name, b.outer, b.defined⟩)
  else if a.kind = -4 then
    (if identL a.name = false then (15, b)
     else if b.defined.any (fun t => decide (t.1 = a.name)) then (6, b)
     else if b.defined.length = 12 then (3, b)
     else (0, b.enter (nodeOf a p)))
  else if a.kind = 5 ∨ a.kind = 6 ∨ a.kind = 7 ∨ a.kind = 8 then (if b.depth = 12 then (13, b) else (0, b.enter (nodeOf a p)))
  else if a.kind = 9 ∧ identL a.name = false then (15, b)
  else (0, b.putB (nodeOf a p))
def partB (p : Tx.P) (b : B) : Nat × B :=
  if p.act then
    (if (actionL p.s).2 = 0 then (if b.inner.allows (actionL p.s).1.kind then actB (actionL p.s).1 p.at_ b else (12, b)) else ((actionL p.s).2, b))
  else if b.inner.waits then (if blankL p.s then 0 else 12, b)
  else (0, b.putB (.mk 1 p.at_ p.s [] [] [] [] false []))
def buildGo : List Tx.P → B → (Nat × Nat) × B
  | [], b => ((0, 0), b)
  | p :: l, b => if (partB p b).1 = 0 then buildGo l (partB p b).2 else ((p.at_, (partB p b).1), b)
/-- What Parse answers: templates, a byte, an error. -/
def parseL (l : List UInt8) : List (List UInt8 × List Nd) × Nat × Nat :=
  if (Tx.splitL l).1 = 0 then
    (if (buildGo (Tx.splitL l).2 ⟨.mk 0 0 [] [] [] [] [] false [], [], []⟩).1.2 = 0 then
      (if (buildGo (Tx.splitL l).2 ⟨.mk 0 0 [] [] [] [] [] false [], [], []⟩).2.depth = 0 then
        (([], (buildGo (Tx.splitL l).2 ⟨.mk 0 0 [] [] [] [] [] false [], [], []⟩).2.inner.body) :: (buildGo (Tx.splitL l).2 ⟨.mk 0 0 [] [] [] [] [] false [], [], []⟩).2.defined, 0, 0)
       else ([], l.length, 12))
     else ([], (buildGo (Tx.splitL l).2 ⟨.mk 0 0 [] [] [] [] [] false [], [], []⟩).1.1, (buildGo (Tx.splitL l).2 ⟨.mk 0 0 [] [] [] [] [] false [], [], []⟩).1.2))
  else ([], 0, (Tx.splitL l).1)
theorem step_len (r : R) : r.step.ws.length ≤ r.ws.length := by simp [R.step]
theorem fail_err (r : R) (e : Nat) (he : e ≠ 0) : (r.fail e).err ≠ 0 := by
  unfold R.fail; simp only; split <;> omega
theorem need_len (k : Nat) (r : R) : (need k r).2.ws.length ≤ r.ws.length := by
  unfold need; split
  · exact step_len r
  · exact Nat.zero_le _
theorem at_pos (r : R) (n : Nat) (h : (r.at_ n).kind ≠ 0) : n < r.ws.length := by
  refine Nat.lt_of_not_le fun hc => h ?_
  unfold R.at_
  rw [List.getD_eq_getElem?_getD, List.getElem?_eq_none hc]
  rfl
theorem at_zero_pos (r : R) (h : (r.at_ 0).kind ≠ 0) : 1 ≤ r.ws.length := at_pos r 0 h
theorem step_lt (r : R) (h : 1 ≤ r.ws.length) : r.step.ws.length + 1 = r.ws.length := by
  simp only [R.step, List.length_tail]; omega
theorem atField_len (r : R) (h : atField r = true) : 2 ≤ r.ws.length := by
  unfold atField at h
  simp only [Bool.and_eq_true, decide_eq_true_eq] at h
  exact at_pos r 1 (by omega)
theorem fieldR_len (r : R) (h : 2 ≤ r.ws.length) : (fieldR r).2.ws.length + 2 = r.ws.length := by
  simp only [fieldR, R.step, List.length_tail]; omega
theorem pathGo_len : ∀ (f : Nat) (r : R), (pathGo f r).2.ws.length ≤ r.ws.length
  | 0, r => Nat.le_refl _
  | f + 1, r => by
    unfold pathGo
    split
    · rename_i h
      have := pathGo_len f (fieldR r).2
      have := fieldR_len r (atField_len r h.2)
      simp only; omega
    · exact Nat.le_refl _
/-- More fuel than words changes nothing. -/
theorem pathGo_more : ∀ (f : Nat) (r : R), r.ws.length < f → ∀ g, pathGo (f + g) r = pathGo f r
  | 0, r, h, _ => absurd h (Nat.not_lt_zero _)
  | f + 1, r, h, g => by
    rw [show f + 1 + g = (f + g) + 1 from by omega]
    unfold pathGo
    split
    · rename_i hh
      have := fieldR_len r (atField_len r hh.2)
      rw [pathGo_more f (fieldR r).2 (by omega) g]
    · rfl
/-- A path goes on by one field. -/
theorem fields_step (r : R) (h : (r.at_ 0).at_ = r.en ∧ atField r = true) :
    fieldsR r = ((fieldR r).1 :: (fieldsR (fieldR r).2).1, (fieldsR (fieldR r).2).2) := by
  have h2 := fieldR_len r (atField_len r h.2)
  have e : pathGo r.ws.length (fieldR r).2 = fieldsR (fieldR r).2 := by
    unfold fieldsR
    rw [show r.ws.length = ((fieldR r).2.ws.length + 1) + 1 from by omega]
    exact pathGo_more _ _ (by omega) 1
  conv => lhs; unfold fieldsR pathGo
  rw [if_pos h, e]
theorem fields_stop (r : R) (h : ¬ ((r.at_ 0).at_ = r.en ∧ atField r = true)) : fieldsR r = ([], r) := by
  unfold fieldsR pathGo; rw [if_neg h]
theorem isS_len (r : R) (s : List UInt8) (h : isS (r.at_ 0) s = true) : 1 ≤ r.ws.length := by
  refine at_zero_pos r ?_
  unfold isS at h
  simp only [Bool.and_eq_true, decide_eq_true_eq] at h
  omega
theorem fields_len (r : R) : (fieldsR r).2.ws.length ≤ r.ws.length := pathGo_len _ _
theorem pathR_len (r : R) : (pathR r).2.ws.length ≤ r.ws.length := by
  unfold pathR
  split
  · have := fields_len (need 1 r.step).2
    have := need_len 1 r.step
    have := step_len r
    simp only; omega
  · split
    · rename_i h
      have := fields_len (fieldR r).2
      have := fieldR_len r (atField_len r h)
      simp only; omega
    · exact step_len r
section
variable (brk : R → List (List Op) × R) (hbrk : ∀ r, (brk r).2.ws.length ≤ r.ws.length)
include hbrk
theorem operandR_len (r : R) : (operandR brk r).2.ws.length ≤ r.ws.length := by
  unfold operandR
  split; · exact pathR_len r
  split; · exact step_len r
  split; · exact step_len r
  split; · exact step_len r
  split; · exact hbrk r
  exact Nat.zero_le _
theorem givenR_len : ∀ (k : Nat) (r : R), (givenR brk k r).2.ws.length ≤ r.ws.length
  | 0, r => by
    unfold givenR; split
    · exact Nat.le_refl _
    · exact Nat.zero_le _
  | k + 1, r => by
    unfold givenR; split
    · exact Nat.le_refl _
    · have := givenR_len k (operandR brk r).2
      have := operandR_len brk hbrk r
      simp only; omega
theorem commandR_len (r : R) : (commandR brk r).2.ws.length ≤ r.ws.length := by
  have := operandR_len brk hbrk r
  unfold commandR; split
  · have := givenR_len brk hbrk 4 (operandR brk r).2
    simp only; omega
  · exact this
theorem pipeGo_len : ∀ (f : Nat) (r : R), (pipeGo brk f r).2.ws.length ≤ r.ws.length
  | 0, r => Nat.le_refl _
  | f + 1, r => by
    unfold pipeGo; split
    · have := pipeGo_len f (commandR brk r.step).2
      have := commandR_len brk hbrk r.step
      have := step_len r
      simp only; omega
    · exact Nat.le_refl _
theorem pipeOver_len (r : R) : (pipeOver brk r).2.ws.length ≤ r.ws.length := by
  have := commandR_len brk hbrk r
  have := pipeGo_len brk hbrk ((commandR brk r).2.ws.length + 1) (commandR brk r).2
  unfold pipeOver; simp only; omega
theorem pipeGo_more : ∀ (f : Nat) (r : R), r.ws.length < f → ∀ g, pipeGo brk (f + g) r = pipeGo brk f r
  | 0, r, h, _ => absurd h (Nat.not_lt_zero _)
  | f + 1, r, h, g => by
    rw [show f + 1 + g = (f + g) + 1 from by omega]
    unfold pipeGo
    split
    · rename_i hh
      have := commandR_len brk hbrk r.step
      have := step_lt r (isS_len r _ hh)
      rw [pipeGo_more f (commandR brk r.step).2 (by omega) g]
    · rfl
end
theorem brkR_len : ∀ (d : Nat) (r : R), (brkR d r).2.ws.length ≤ r.ws.length
  | 0, r => Nat.zero_le _
  | d + 1, r => by
    have h1 := pipeOver_len (brkR d) (brkR_len d) r.step
    have h2 := step_len r
    unfold brkR
    simp only
    split
    · have := step_len (pipeOver (brkR d) r.step).2; omega
    · exact Nat.zero_le _
/-- What stands behind a '|'. -/
def moreR (d : Nat) (r : R) : List (List Op) × R := pipeGo (brkR d) (r.ws.length + 1) r
theorem more_step (d : Nat) (r : R) (h : isS (r.at_ 0) [124] = true) :
    moreR d r = ((commandR (brkR d) r.step).1 :: (moreR d (commandR (brkR d) r.step).2).1, (moreR d (commandR (brkR d) r.step).2).2) := by
  have h1 := commandR_len (brkR d) (brkR_len d) r.step
  have h2 := step_lt r (isS_len r _ h)
  have e : pipeGo (brkR d) r.ws.length (commandR (brkR d) r.step).2 = moreR d (commandR (brkR d) r.step).2 := by
    unfold moreR
    rw [show r.ws.length = ((commandR (brkR d) r.step).2.ws.length + 1) + (r.ws.length - ((commandR (brkR d) r.step).2.ws.length + 1)) from by omega]
    exact pipeGo_more (brkR d) (brkR_len d) _ _ (by omega) _
  conv => lhs; unfold moreR pipeGo
  rw [if_pos h, e]
theorem more_stop (d : Nat) (r : R) (h : isS (r.at_ 0) [124] = false) : moreR d r = ([], r) := by
  unfold moreR pipeGo; rw [h]; rfl
end Tr
end Go.Proofs.YtlfbcaenlifmkaaGreatDoor
