/- Plain words on bytes for chapter 1: blanks, letters, digits, sizes at the front of a text. No program is named here. -/
import Derived.WalkKit
import Derived.Lib.ParseIntB
import Derived.Lib.Strings
namespace Go.Proofs.Ytjjpjkkaogfoaaa
namespace Sc

def isL (c : UInt8) : Bool := decide (c.toNat = 95) || (decide (97 ≤ c.toNat) && decide (c.toNat ≤ 122)) || (decide (65 ≤ c.toNat) && decide (c.toNat ≤ 90))
def isD (c : UInt8) : Bool := decide (48 ≤ c.toNat) && decide (c.toNat ≤ 57)
def isB (c : UInt8) : Bool := decide (c.toNat = 32) || decide (c.toNat = 9) || decide (c.toNat = 10) || decide (c.toNat = 13)

def dsz : List UInt8 → Nat
  | [] => 0
  | c :: t => if isD c then dsz t + 1 else 0
def nszF : Bool → List UInt8 → Nat
  | _, [] => 0
  | first, c :: t => if isL c || (!first && isD c) then nszF false t + 1 else 0
def nsz (l : List UInt8) : Nat := nszF true l
def bsz : List UInt8 → Nat
  | [] => 0
  | c :: t => if isB c then bsz t + 1 else 0

theorem dsz_le (l : List UInt8) : dsz l ≤ l.length := by
  induction l with
  | nil => simp [dsz]
  | cons c t ih => simp only [dsz, List.length_cons]; split <;> omega
theorem nszF_le (l : List UInt8) : ∀ b, nszF b l ≤ l.length := by
  induction l with
  | nil => simp [nszF]
  | cons c t ih => intro b; simp only [nszF, List.length_cons]; split <;> have := ih false <;> omega
theorem nsz_le (l : List UInt8) : nsz l ≤ l.length := nszF_le l true
theorem bsz_le (l : List UInt8) : bsz l ≤ l.length := by
  induction l with
  | nil => simp [bsz]
  | cons c t ih => simp only [bsz, List.length_cons]; split <;> omega

theorem drop_at (l : List UInt8) (k : Nat) (h : k < l.length) : l.drop k = l[k] :: l.drop (k + 1) := List.drop_eq_getElem_cons h

theorem dsz_step (l : List UInt8) (k : Nat) (h : k < l.length) (hd : isD l[k] = true) : dsz (l.drop k) = dsz (l.drop (k + 1)) + 1 := by
  rw [drop_at l k h]; simp [dsz, hd]
theorem dsz_stop (l : List UInt8) (k : Nat) (h : k < l.length) (hd : isD l[k] = false) : dsz (l.drop k) = 0 := by
  rw [drop_at l k h]; simp [dsz, hd]
theorem dsz_end (l : List UInt8) : dsz (l.drop l.length) = 0 := by simp [dsz]
theorem nszF_step (l : List UInt8) (k : Nat) (b : Bool) (h : k < l.length) (hd : (isL l[k] || (!b && isD l[k])) = true) : nszF b (l.drop k) = nszF false (l.drop (k + 1)) + 1 := by
  rw [drop_at l k h]; simp only [nszF, hd, if_true]
theorem nszF_stop (l : List UInt8) (k : Nat) (b : Bool) (h : k < l.length) (hd : (isL l[k] || (!b && isD l[k])) = false) : nszF b (l.drop k) = 0 := by
  rw [drop_at l k h]; simp only [nszF, hd]; rfl
theorem nszF_end (l : List UInt8) (b : Bool) : nszF b (l.drop l.length) = 0 := by simp [nszF]

theorem bsz_drop (l : List UInt8) : l.drop (bsz l) = l.dropWhile isB := by
  induction l with
  | nil => simp [bsz]
  | cons c t ih => cases h : isB c <;> simp [bsz, h, ih]

theorem ret_int {k : IntKind} {a b : Int} (h : a = b) : Ending.returned (.int k a) = .returned (.int k b) := by rw [h]

/-- What a call of word answers: a kind, a text, a number, a size, an error. -/
structure W where
  kind : Nat
  text : List UInt8
  n : Int
  size : Nat
  e : Nat
def bad (e : Nat) : W := ⟨0, [], 0, 0, e⟩
def W.val (r : W) : Value := .tuple #[.agg #[.int .i64 r.kind, .string ⟨r.text.toArray⟩, .int .i64 r.n, .int .i64 0], .int .i64 r.size, .int .i64 r.e]

def nameW (l : List UInt8) : W := if 16 < nsz l then bad 4 else ⟨1, l.take (nsz l), 0, nsz l, 0⟩

def unsig : List UInt8 → List UInt8
  | [] => []
  | c :: t => if c.toNat = 45 then t else c :: t
def numEnd (l : List UInt8) : Nat := l.length - (unsig l).length + dsz (unsig l)
def numW (l : List UInt8) : W :=
  if 19 < dsz (unsig l) then bad 4
  else match Lib.parseIntB 64 (l.take (numEnd l)) with
    | .ok v => ⟨3, [], v, numEnd l, 0⟩
    | _ => bad 11

def meantB (c : UInt8) : Nat := if c.toNat = 92 then 92 else if c.toNat = 34 then 34 else if c.toNat = 110 then 10 else if c.toNat = 116 then 9 else 0
def meantL : List UInt8 → Nat
  | [] => 0
  | c :: _ => meantB c

def quotGo : List UInt8 → List UInt8 → Nat → W
  | [], _, _ => bad 11
  | [c], b, i => if c.toNat = 34 then (if 200 < b.length then bad 4 else ⟨2, b, 0, i + 1, 0⟩) else bad 11
  | c :: d :: t, b, i =>
    if c.toNat = 34 then (if 200 < b.length then bad 4 else ⟨2, b, 0, i + 1, 0⟩)
    else if c.toNat < 32 then bad 11
    else if c.toNat = 92 then (if meantB d = 0 then bad 11 else quotGo t (b ++ [(meantB d).toUInt8]) (i + 2))
    else quotGo (d :: t) (b ++ [c]) (i + 1)
def quotW (l : List UInt8) : W := quotGo (l.drop 1) [] 1

def signs : List (List UInt8) := [[45, 62], [58, 61], [123], [125], [60], [62], [44], [58], [40], [41], [46], [36], [124], [61], [59]]
def signW (l : List UInt8) : W :=
  match signs.find? (fun x => Lib.hasPrefix l x) with
  | some x => ⟨4, x, 0, x.length, 0⟩
  | none => bad 11

def wordW : List UInt8 → W
  | [] => bad 11
  | c :: t =>
    if c.toNat = 34 then quotW (c :: t)
    else if c.toNat = 45 then (if dsz t = 0 then signW (c :: t) else numW (c :: t))
    else if isD c then numW (c :: t)
    else if isL c then nameW (c :: t)
    else signW (c :: t)

theorem q_quote (c : UInt8) (r b : List UInt8) (i : Nat) (h : c.toNat = 34) : quotGo (c :: r) b i = if 200 < b.length then bad 4 else ⟨2, b, 0, i + 1, 0⟩ := by
  cases r <;> simp only [quotGo, h, if_true]
theorem q_low (c : UInt8) (r b : List UInt8) (i : Nat) (h : c.toNat ≠ 34) (h2 : c.toNat < 32) : quotGo (c :: r) b i = bad 11 := by
  cases r <;> simp only [quotGo, h, h2, if_true, if_false]
theorem q_slash (c : UInt8) (r b : List UInt8) (i : Nat) (h : c.toNat = 92) : quotGo (c :: r) b i = if meantL r = 0 then bad 11 else quotGo (r.drop 1) (b ++ [(meantL r).toUInt8]) (i + 2) := by
  cases r with
  | nil => simp [quotGo, h, meantL]
  | cons d t => simp [quotGo, h, meantL]
theorem q_plain (c : UInt8) (r b : List UInt8) (i : Nat) (h : c.toNat ≠ 34) (h2 : ¬ c.toNat < 32) (h3 : c.toNat ≠ 92) : quotGo (c :: r) b i = quotGo r (b ++ [c]) (i + 1) := by
  cases r <;> simp only [quotGo, h, h2, h3, if_false]
theorem meantB_lt (c : UInt8) : meantB c < 256 := by unfold meantB; repeat' split
                                                     all_goals omega
theorem meantL_lt (l : List UInt8) : meantL l < 256 := by
  cases l with
  | nil => simp [meantL]
  | cons c t => exact meantB_lt c
end Sc
end Go.Proofs.Ytjjpjkkaogfoaaa
