/- Plain words on bytes for chapter 1: blanks, letters, digits, sizes at the front of a text. No program is named here. -/
import Derived.WalkKit
import Derived.Lib.ParseIntB
import Derived.Lib.Strings
import Derived.KernelRfl
namespace Go.Proofs.Ytdophmlnmbcjlaa
namespace Sc
def isL (c : UInt8) : Bool := decide (c.toNat = 95) || (decide (97 ≤ c.toNat) && decide (c.toNat ≤ 122)) || (decide (65 ≤ c.toNat) && decide (c.toNat ≤ 90))
def isD (c : UInt8) : Bool := decide (48 ≤ c.toNat) && decide (c.toNat ≤ 57)
def nszF : Bool → List UInt8 → Nat
  | _, [] => 0
  | first, c :: t => if isL c || (!first && isD c) then nszF false t + 1 else 0
def nsz (l : List UInt8) : Nat := nszF true l
theorem nszF_le (l : List UInt8) : ∀ b, nszF b l ≤ l.length := by
  induction l with
  | nil => simp [nszF]
  | cons c t ih => intro b; simp only [nszF, List.length_cons]; split <;> have := ih false <;> omega
theorem nsz_le (l : List UInt8) : nsz l ≤ l.length := nszF_le l true
theorem drop_at (l : List UInt8) (k : Nat) (h : k < l.length) : l.drop k = l[k] :: l.drop (k + 1) := List.drop_eq_getElem_cons h
theorem nszF_step (l : List UInt8) (k : Nat) (b : Bool) (h : k < l.length) (hd : (isL l[k] || (!b && isD l[k])) = true) : nszF b (l.drop k) = nszF false (l.drop (k + 1)) + 1 := by
  rw [drop_at l k h]; simp only [nszF, hd, if_true]
theorem nszF_stop (l : List UInt8) (k : Nat) (b : Bool) (h : k < l.length) (hd : (isL l[k] || (!b && isD l[k])) = false) : nszF b (l.drop k) = 0 := by
  rw [drop_at l k h]; simp only [nszF, hd]; rfl
theorem nszF_end (l : List UInt8) (b : Bool) : nszF b (l.drop l.length) = 0 := by simp [nszF]
/-- What a call of word answers: a kind, a text, a number, a size, an error. -/
structure W where
  kind : Nat
  text : List UInt8
  n : Int
  size : Nat
  e : Nat
def bad (e : Nat) : W := ⟨0, [], 0, 0, e⟩
def nameW (l : List UInt8) : W := if 16 < nsz l then bad 4 else ⟨1, l.take (nsz l), 0, nsz l, 0⟩
end Sc
end Go.Proofs.Ytdophmlnmbcjlaa
namespace Go.Proofs.Ytdophmlnmbcjlaa
namespace Sp
open Sc
/-- A type, of any kind. -/
inductive Tz where
  | mk (kind : Int) (name : List UInt8) (names : List (List UInt8)) (kids : List Tz) : Tz
deriving Inhabited
def Tz.kind : Tz → Int | .mk k _ _ _ => k
abbrev NT := List UInt8 × Tz
structure Sg where
  name : List UInt8
  params : List Tz
  result : Tz
deriving Inhabited
structure Sz where
  main : Tz
  types : List NT
  sigs : List Sg
deriving Inhabited
mutual
def sizeZ : Tz → Nat
  | .mk _ _ _ ks => 1 + sizeZs ks
def sizeZs : List Tz → Nat
  | [] => 0
  | t :: ks => sizeZ t + sizeZs ks
end
theorem sizeZ_pos (t : Tz) : 1 ≤ sizeZ t := by cases t; simp [sizeZ]
theorem sizeZ_mem : ∀ (ks : List Tz) (k : Nat) (h : k < ks.length), sizeZ ks[k] ≤ sizeZs ks
  | t :: ks, 0, _ => by simp only [List.getElem_cons_zero, sizeZs]; omega
  | t :: ks, k + 1, h => by have := sizeZ_mem ks k (by simpa using h); simp only [List.getElem_cons_succ, sizeZs]; omega
/-- Whether a text is a name. -/
def identB (l : List UInt8) : Bool := decide (l.length ≠ 0) && (decide (l.length ≤ 16) && decide (nsz l = l.length))
/-- A name behind the one ahead. -/
def leB (a b : List UInt8) : Bool := Op.bytesLess a b || a == b
def nameE (ahead name : List UInt8) (taken : Bool) : Nat := if (taken || !identB name) = true then 15 else if leB name ahead = true then 6 else 0
def namesE (taken : List UInt8 → Bool) : List UInt8 → List (List UInt8) → Nat
  | _, [] => 0
  | a, n :: ns => if nameE a n (taken n) = 0 then namesE taken n ns else nameE a n (taken n)
def wordB (s : List UInt8) : Bool :=
  decide (s ∈ [[66, 111, 111, 108], [73, 110, 116], [84, 101, 120, 116], [76, 105, 115, 116], [77, 97, 112], [79, 112, 116], [85, 110, 105, 111, 110]])
def builtinB (s : List UInt8) : Bool :=
  decide (s ∈ [[108, 101, 110], [110, 111, 116], [97, 110, 100], [111, 114], [101, 113], [108, 116], [97, 100, 100], [115, 117, 98], [109, 117, 108], [115, 104, 108], [115, 104, 114],
    [105, 56], [105, 49, 54], [105, 51, 50], [117, 56], [117, 49, 54], [117, 51, 50], [99, 97, 116], [116, 101, 120, 116], [97, 116], [103, 101, 116], [104, 97, 115], [111, 114, 101, 108, 115, 101]])
/-- Just the parts that a kind asks. -/
def kidsN (k : Int) (nn : Nat) : Nat := if k = 4 ∨ k = 5 ∨ k = 6 then 1 else if k = 7 ∨ k = 8 then nn else 0
def formB (k : Int) (nm : List UInt8) (ns : List (List UInt8)) (nk : Nat) : Bool :=
  decide (nk = kidsN k ns.length) && (decide (nm = []) || decide (k = 9)) && (decide (ns.length = 0) || decide (k = 7 ∨ k = 8))
def fieldE (k : Int) (ns : List (List UInt8)) : Nat :=
  if 8 < ns.length then 3 else if namesE (fun _ => false) [] ns ≠ 0 then namesE (fun _ => false) [] ns else if k = 8 ∧ ns.length = 0 then 12 else 0
/-- What is wrong with a type by itself. -/
def ownE (has : List UInt8 → Bool) (k : Int) (nm : List UInt8) (ns : List (List UInt8)) (nk : Nat) : Nat :=
  if k < 1 ∨ 9 < k then 1 else if formB k nm ns nk = false then 12 else if k = 9 ∧ has nm = false then 15 else fieldE k ns
mutual
/-- The first thing wrong, and how many types were gone through. -/
def oneZ (has : List UInt8 → Bool) (d n : Nat) : Tz → Nat × Nat
  | .mk k nm ns ks =>
    if 400 < n + 1 then (3, n + 1) else if 12 < d then (13, n + 1)
    else if ownE has k nm ns ks.length ≠ 0 then (ownE has k nm ns ks.length, n + 1) else allZ has (d + 1) (n + 1) ks
def allZ (has : List UInt8 → Bool) (d n : Nat) : List Tz → Nat × Nat
  | [] => (0, n)
  | t :: ks => if (oneZ has d n t).1 = 0 then allZ has d (oneZ has d n t).2 ks else oneZ has d n t
end
def fnZ (has : List UInt8 → Bool) (n : Nat) (ahead : List UInt8) (g : Sg) : Nat × Nat :=
  if nameE ahead g.name (builtinB g.name) ≠ 0 then (nameE ahead g.name (builtinB g.name), n)
  else if 4 < g.params.length then (18, n)
  else if (allZ has 1 n g.params).1 ≠ 0 then allZ has 1 n g.params
  else oneZ has 1 (allZ has 1 n g.params).2 g.result
def fnsZ (has : List UInt8 → Bool) (n : Nat) : List UInt8 → List Sg → Nat × Nat
  | _, [] => (0, n)
  | ahead, g :: l => if (fnZ has n ahead g).1 = 0 then fnsZ has (fnZ has n ahead g).2 g.name l else fnZ has n ahead g
def hasZ {β : Type} (l : List (List UInt8 × β)) (s : List UInt8) : Bool := l.any fun x => decide (x.1 = s)
def lastN {β : Type} (l : List (List UInt8 × β)) (s : List UInt8) : Option β := (l.reverse.find? fun x => decide (x.1 = s)).map (·.2)
theorem hasZ_snoc {β : Type} (l : List (List UInt8 × β)) (x : List UInt8 × β) (s : List UInt8) : hasZ (l ++ [x]) s = (hasZ l s || decide (x.1 = s)) := by simp [hasZ, List.any_append]
theorem lastN_snoc {β : Type} (l : List (List UInt8 × β)) (x : List UInt8 × β) (s : List UInt8) : lastN (l ++ [x]) s = if x.1 = s then some x.2 else lastN l s := by
  unfold lastN
  rw [List.reverse_append, List.reverse_singleton, List.singleton_append, List.find?_cons]
  by_cases h : x.1 = s
  · simp [h]
  · simp [h]
theorem hasZ_map {β γ : Type} (l : List (List UInt8 × β)) (f : β → γ) (s : List UInt8) : hasZ (l.map fun x => (x.1, f x.2)) s = hasZ l s := by simp [hasZ, List.any_map, Function.comp_def]
theorem lastN_map {β γ : Type} (l : List (List UInt8 × β)) (f : β → γ) (s : List UInt8) : lastN (l.map fun x => (x.1, f x.2)) s = (lastN l s).map f := by
  unfold lastN
  rw [← List.map_reverse, List.find?_map]
  simp [Function.comp_def]
def schZ (s : Sz) : Nat :=
  let h := hasZ s.types
  let a := allZ h 1 0 (s.types.map (·.2))
  if a.1 ≠ 0 then a.1 else
  let m := oneZ h 1 a.2 s.main
  if m.1 ≠ 0 then m.1 else (fnsZ h m.2 [] s.sigs).1
mutual
/-- Whether there is a value that ends, and how many types may yet be gone through. -/
def finZ (known : List UInt8 → Bool) (left : Nat) : Tz → Bool × Nat
  | .mk k nm _ ks =>
    if left = 0 then (false, 0)
    else if 1 ≤ k ∧ k ≤ 6 then (true, left - 1)
    else if k = 7 then everyZ known (left - 1) ks
    else if k = 8 then someZ known (left - 1) ks
    else if k = 9 then (known nm, left - 1)
    else (false, left - 1)
def everyZ (known : List UInt8 → Bool) (left : Nat) : List Tz → Bool × Nat
  | [] => (true, left)
  | t :: ks => if (finZ known left t).1 = true then everyZ known (finZ known left t).2 ks else (false, (finZ known left t).2)
def someZ (known : List UInt8 → Bool) (left : Nat) : List Tz → Bool × Nat
  | [] => (false, left)
  | t :: ks => if (finZ known left t).1 = true then (true, (finZ known left t).2) else if (finZ known left t).2 = 0 then (false, 0) else someZ known (finZ known left t).2 ks
end
/-- One round over the named types: who is known behind it. -/
def roundZ (K : List NT) (left : Nat) : List NT → List NT × Nat
  | [] => (K, left)
  | x :: l =>
    if hasZ K x.1 = true then roundZ K left l
    else if (finZ (hasZ K) left x.2).1 = true then roundZ (K ++ [x]) (finZ (hasZ K) left x.2).2 l
    else roundZ K (finZ (hasZ K) left x.2).2 l
def endsGo (l : List NT) : Nat → List NT → Nat → List NT × Nat
  | 0, K, left => (K, left)
  | f + 1, K, left => if K.length < (roundZ K left l).1.length then endsGo l f (roundZ K left l).1 (roundZ K left l).2 else roundZ K left l
def endsZ (l : List NT) : List NT × Nat := endsGo l (l.length + 1) [] 65536
/-- What a name stands for: the last of that name. -/
def lookZ (l : List NT) (s : List UInt8) : Tz := (lastN l s).getD (.mk 0 [] [] [])
/-- A type, names gone through. -/
def openZ (l : List NT) : Nat → Tz → Tz
  | 0, t => t
  | f + 1, .mk k nm ns ks => if k = 9 then openZ l f (lookZ l nm) else .mk k nm ns ks
def kid0 (ks : List Tz) : Tz := ks.headD (.mk 0 [] [] [])
mutual
def nestZ (l : List NT) : Tz → Bool
  | .mk k _ _ ks => (decide (k = 6) && decide ((openZ l 13 (kid0 ks)).kind = 6)) || nestsZ l ks
def nestsZ (l : List NT) : List Tz → Bool
  | [] => false
  | t :: ks => nestZ l t || nestsZ l ks
end
mutual
/-- Each Opt has a kid that opens within thirteen names. -/
def opensZ (l : List NT) : Tz → Bool
  | .mk k _ _ ks => (!decide (k = 6) || (decide (0 < ks.length) && !decide ((openZ l 13 (kid0 ks)).kind = 9))) && opensZs l ks
def opensZs (l : List NT) : List Tz → Bool
  | [] => true
  | t :: ks => opensZ l t && opensZs l ks
end
def optOf (s : Sz) : Bool := nestsZ s.types (s.types.map (·.2)) || s.sigs.any (fun g => nestZ s.types g.result || nestsZ s.types g.params) || nestZ s.types s.main
def optOk (s : Sz) : Bool := opensZs s.types (s.types.map (·.2)) && s.sigs.all (fun g => opensZ s.types g.result && opensZs s.types g.params) && opensZ s.types s.main
/-- What Check tells; none: a name may not open. -/
def checkZ (s : Sz) : Option Nat :=
  if 12 < s.types.length ∨ 12 < s.sigs.length then some 3
  else if namesE wordB [] (s.types.map (·.1)) ≠ 0 then some (namesE wordB [] (s.types.map (·.1)))
  else if schZ s ≠ 0 then some (schZ s)
  else if (endsZ s.types).1.length < s.types.length then some 14
  else if optOk s = true then some (if optOf s = true then 17 else 0)
  else none
mutual
/-- Names and rows that memory can hold. -/
def fitZ : Tz → Bool
  | .mk _ nm ns ks => decide (nm.length ≤ maxLen) && (decide (ns.length ≤ maxLen) && (ns.all fun n => decide (n.length ≤ maxLen)) && decide (ks.length ≤ maxLen)) && fitZs ks
def fitZs : List Tz → Bool
  | [] => true
  | t :: ks => fitZ t && fitZs ks
end
theorem fitZs_mem : ∀ (ks : List Tz), fitZs ks = true → ∀ (k : Nat) (h : k < ks.length), fitZ ks[k] = true
  | t :: ks, hg, 0, _ => by simp only [fitZs, Bool.and_eq_true] at hg; exact hg.1
  | t :: ks, hg, k + 1, h => by simp only [fitZs, Bool.and_eq_true] at hg; exact fitZs_mem ks hg.2 k (by simpa using h)
theorem fitZ_mk {k : Int} {nm : List UInt8} {ns : List (List UInt8)} {ks : List Tz} (h : fitZ (.mk k nm ns ks) = true) :
    nm.length ≤ maxLen ∧ ns.length ≤ maxLen ∧ (∀ i (hi : i < ns.length), ns[i].length ≤ maxLen) ∧ ks.length ≤ maxLen ∧ fitZs ks = true := by
  simp only [fitZ, Bool.and_eq_true, decide_eq_true_eq, List.all_eq_true] at h
  exact ⟨h.1.1, h.1.2.1.1, fun i hi => h.1.2.1.2 _ (List.getElem_mem hi), h.1.2.2, h.2⟩
theorem nestsZ_any (l : List NT) : ∀ ks, nestsZ l ks = ks.any (nestZ l)
  | [] => rfl
  | t :: ks => by rw [nestsZ, nestsZ_any l ks]; rfl
theorem opensZs_mem (l : List NT) : ∀ (ks : List Tz), opensZs l ks = true → ∀ (k : Nat) (h : k < ks.length), opensZ l ks[k] = true
  | t :: ks, hg, 0, _ => by simp only [opensZs, Bool.and_eq_true] at hg; exact hg.1
  | t :: ks, hg, k + 1, h => by simp only [opensZs, Bool.and_eq_true] at hg; exact opensZs_mem l ks hg.2 k (by simpa using h)
end Sp
end Go.Proofs.Ytdophmlnmbcjlaa
