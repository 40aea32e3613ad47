/- Plain words on bytes for chapter 1: blanks, letters, digits, sizes at the front of a text. No program is named here. -/
import Derived.WalkKit
import Derived.Lib.ParseIntB
import Derived.Lib.Strings
namespace Go.Proofs.YtlfbcaenlifmkaaGreatDoor
namespace Sc
def isL (c : UInt8) : Bool := decide (c.toNat = 95) || (decide (97 ≤ c.toNat) && decide (c.toNat ≤ 122)) || (decide (65 ≤ c.toNat) && decide (c.toNat ≤ 90))
def isD (c : UInt8) : Bool := decide (48 ≤ c.toNat) && decide (c.toNat ≤ 57)
def isB (c : UInt8) : Bool := decide (c.toNat = 32) || decide (c.toNat = 9) || decide (c.toNat = 10) || decide (c.toNat = 13)
def dsz : List UInt8 → Nat
  | [] => 0
  | c :: t => if isD c then dsz t + 1 else 0
def nszF : Bool → List UInt8 → Nat
  | _, [] => 0
  | first, c :: t => if isL c || (!first && isD c) then nszF false t + 1 else 0
def nsz (l : List UInt8) : Nat := nszF true l
def bsz : List UInt8 → Nat
  | [] => 0
  | c :: t => if isB c then bsz t + 1 else 0
theorem dsz_le (l : List UInt8) : dsz l ≤ l.length := by
  induction l with
  | nil => simp [dsz]
  | cons c t ih => simp only [dsz, List.length_cons]; split <;> omega
theorem nszF_le (l : List UInt8) : ∀ b, nszF b l ≤ l.length := by
  induction l with
  | nil => simp [nszF]
  | cons c t ih => intro b; simp only [nszF, List.length_cons]; split <;> have := ih false <;> omega
theorem nsz_le (l : List UInt8) : nsz l ≤ l.length := nszF_le l true
theorem bsz_le (l : List UInt8) : bsz l ≤ l.length := by
  induction l with
  | nil => simp [bsz]
  | cons c t ih => simp only [bsz, List.length_cons]; split <;> omega
theorem drop_at (l : List UInt8) (k : Nat) (h : k < l.length) : l.drop k = l[k] :: l.drop (k + 1) := List.drop_eq_getElem_cons h
theorem dsz_step (l : List UInt8) (k : Nat) (h : k < l.length) (hd : isD l[k] = true) : dsz (l.drop k) = dsz (l.drop (k + 1)) + 1 := by
  rw [drop_at l k h]; simp [dsz, hd]
theorem dsz_stop (l : List UInt8) (k : Nat) (h : k < l.length) (hd : isD l[k] = false) : dsz (l.drop k) = 0 := by
  rw [drop_at l k h]; simp [dsz, hd]
theorem dsz_end (l : List UInt8) : dsz (l.drop l.length) = 0 := by simp [dsz]
theorem nszF_step (l : List UInt8) (k : Nat) (b : Bool) (h : k < l.length) (hd : (isL l[k] || (!b && isD l[k])) = true) : nszF b (l.drop k) = nszF false (l.drop (k + 1)) + 1 := by
  rw [drop_at l k h]; simp only [nszF, hd, if_true]
theorem nszF_stop (l : List UInt8) (k : Nat) (b : Bool) (h : k < l.length) (hd : (isL l[k] || (!b && isD l[k])) = false) : nszF b (l.drop k) = 0 := by
  rw [drop_at l k h]; simp only [nszF, hd]; rfl
theorem nszF_end (l : List UInt8) (b : Bool) : nszF b (l.drop l.length) = 0 := by simp [nszF]
theorem bsz_drop (l : List UInt8) : l.drop (bsz l) = l.dropWhile isB := by
  induction l with
  | nil => simp [bsz]
  | cons c t ih => cases h : isB c <;> simp [bsz, h, ih]
theorem ret_int {k : IntKind} {a b : Int} (h : a = b) : Ending.returned (.int k a) = .returned (.int k b) := by rw [h]
/-- What a call of word answers: a kind, a text, a number, a size, an error. -/
structure W where
  kind : Nat
  text : List UInt8
  n : Int
  size : Nat
  e : Nat
def bad (e : Nat) : W := ⟨0, [], 0, 0, e⟩
def W.val (r : W) : Value := .tuple #[.agg #[.int .i64 r.kind, .string ⟨r.text.toArray⟩, .int .i64 r.n, .int .i64 0], .int .i64 r.size, .int .i64 r.e]
def nameW (l : List UInt8) : W := if 16 < nsz l then bad 4 else ⟨1, l.take (nsz l), 0, nsz l, 0⟩
def unsig : List UInt8 → List UInt8
  | [] => []
  | c :: t => if c.toNat = 45 then t else c :: t
def numEnd (l : List UInt8) : Nat := l.length - (unsig l).length + dsz (unsig l)
def numW (l : List UInt8) : W :=
  if 19 < dsz (unsig l) then bad 4
  else match Lib.parseIntB 64 (l.take (numEnd l)) with
    | .ok v => ⟨3, [], v, numEnd l, 0⟩
    | _ => bad 11
def meantB (c : UInt8) : Nat := if c.toNat = 92 then 92 else if c.toNat = 34 then 34 else if c.toNat = 110 then 10 else if c.toNat = 116 then 9 else 0
def meantL : List UInt8 → Nat
  | [] => 0
  | c :: _ => meantB c
def quotGo : List UInt8 → List UInt8 → Nat → W
  | [], _, _ => bad 11
  | [c], b, i => if c.toNat = 34 then (if 200 < b.length then bad 4 else ⟨2, b, 0, i + 1, 0⟩) else bad 11
  | c :: d :: t, b, i =>
    if c.toNat = 34 then (if 200 < b.length then bad 4 else ⟨2, b, 0, i + 1, 0⟩)
    else if c.toNat < 32 then bad 11
    else if c.toNat = 92 then (if meantB d = 0 then bad 11 else quotGo t (b ++ [(meantB d).toUInt8]) (i + 2))
    else quotGo (d :: t) (b ++ [c]) (i + 1)
def quotW (l : List UInt8) : W := quotGo (l.drop 1) [] 1
def signs : List (List UInt8) := [[45, 62], [58, 61], [123], [125], [60], [62], [44], [58], [40], [41], [46], [36], [124], [61], [59]]
def signW (l : List UInt8) : W :=
  match signs.find? (fun x => Lib.hasPrefix l x) with
  | some x => ⟨4, x, 0, x.length, 0⟩
  | none => bad 11
def wordW : List UInt8 → W
  | [] => bad 11
  | c :: t =>
    if c.toNat = 34 then quotW (c :: t)
    else if c.toNat = 45 then (if dsz t = 0 then signW (c :: t) else numW (c :: t))
    else if isD c then numW (c :: t)
    else if isL c then nameW (c :: t)
    else signW (c :: t)
theorem q_quote (c : UInt8) (r b : List UInt8) (i : Nat) (h : c.toNat = 34) : quotGo (c :: r) b i = if 200 < b.length then bad 4 else ⟨2, b, 0, i + 1, 0⟩ := by
  cases r <;> simp only [quotGo, h, if_true]
theorem q_low (c : UInt8) (r b : List UInt8) (i : Nat) (h : c.toNat ≠ 34) (h2 : c.toNat < 32) : quotGo (c :: r) b i = bad 11 := by
  cases r <;> simp only [quotGo, h, h2, if_true, if_false]
theorem q_slash (c : UInt8) (r b : List UInt8) (i : Nat) (h : c.toNat = 92) : quotGo (c :: r) b i = if meantL r = 0 then bad 11 else quotGo (r.drop 1) (b ++ [(meantL r).toUInt8]) (i + 2) := by
  cases r with
  | nil => simp [quotGo, h, meantL]
  | cons d t => simp [quotGo, h, meantL]
theorem q_plain (c : UInt8) (r b : List UInt8) (i : Nat) (h : c.toNat ≠ 34) (h2 : ¬ c.toNat < 32) (h3 : c.toNat ≠ 92) : quotGo (c :: r) b i = quotGo r (b ++ [c]) (i + 1) := by
  cases r <;> simp only [quotGo, h, h2, h3, if_false]
theorem meantB_lt (c : UInt8) : meantB c < 256 := by unfold meantB; repeat' split
                                                     all_goals omega
theorem meantL_lt (l : List UInt8) : meantL l < 256 := by
  cases l with
  | nil => simp [meantL]
  | cons c t => exact meantB_lt c
end Sc
end Go.Proofs.YtlfbcaenlifmkaaGreatDoor
namespace Go.Proofs.YtlfbcaenlifmkaaGreatDoor
namespace Sc
structure T where
  kind : Nat
  text : List UInt8
  n : Int
  at_ : Nat
def toksGo : Nat → List UInt8 → Nat → List T → Nat × List T
  | 0, _, _, acc => (0, acc)
  | f + 1, l, i, acc =>
    if l.length = 0 then (0, acc)
    else if (wordW l).e = 0 then
      toksGo f ((l.drop (wordW l).size).drop (bsz (l.drop (wordW l).size))) (i + (wordW l).size + bsz (l.drop (wordW l).size)) (acc ++ [⟨(wordW l).kind, (wordW l).text, (wordW l).n, i⟩])
    else ((wordW l).e, [])
def toksRaw (l : List UInt8) : Nat × List T := toksGo (l.length + 1) (l.drop (bsz l)) (bsz l) []
def toks (l : List UInt8) : Nat × List T :=
  if 1500 < l.length then (4, [])
  else if (toksRaw l).1 = 0 then (if 400 < (toksRaw l).2.length then (3, []) else toksRaw l)
  else ((toksRaw l).1, [])
theorem quotGo_size (n : Nat) : ∀ (l b : List UInt8) (i : Nat), l.length ≤ n → (quotGo l b i).e = 0 → i + 1 ≤ (quotGo l b i).size ∧ (quotGo l b i).size ≤ i + l.length := by
  induction n with
  | zero => intro l b i h he; rw [List.eq_nil_of_length_eq_zero (by omega : l.length = 0)] at he; simp [quotGo, bad] at he
  | succ n ih =>
    intro l b i h he
    match l, h, he with
    | [], _, he => simp [quotGo, bad] at he
    | c :: r, h, he =>
      simp only [List.length_cons] at h ⊢
      by_cases c34 : c.toNat = 34
      · rw [q_quote c r b i c34] at he ⊢
        by_cases hb : 200 < b.length
        · rw [if_pos hb] at he; simp [bad] at he
        · rw [if_neg hb]; simp only; omega
      · by_cases c32 : c.toNat < 32
        · rw [q_low c r b i c34 c32] at he; simp [bad] at he
        · by_cases c92 : c.toNat = 92
          · rw [q_slash c r b i c92] at he ⊢
            by_cases hm : meantL r = 0
            · rw [if_pos hm] at he; simp [bad] at he
            · rw [if_neg hm] at he ⊢
              have hr : 1 ≤ r.length := by
                cases r with
                | nil => exact absurd rfl hm
                | cons _ _ => simp
              have := ih (r.drop 1) _ _ (by rw [List.length_drop]; omega) he
              rw [List.length_drop] at this; omega
          · rw [q_plain c r b i c34 c32 c92] at he ⊢
            have := ih r _ _ (by omega) he
            omega
theorem signs_pos : ∀ x ∈ signs, 1 ≤ x.length := by decide
theorem wordW_size (l : List UInt8) (he : (wordW l).e = 0) : 1 ≤ (wordW l).size ∧ (wordW l).size ≤ l.length := by
  have hsign : (signW l).e = 0 → 1 ≤ (signW l).size ∧ (signW l).size ≤ l.length := by
    intro h
    unfold signW at h ⊢
    cases hf : signs.find? (fun x => Lib.hasPrefix l x) with
    | none => rw [hf] at h; simp [bad] at h
    | some x =>
      rw [hf] at h
      refine ⟨signs_pos x (List.mem_of_find?_eq_some hf), ?_⟩
      have := List.find?_some hf
      unfold Lib.hasPrefix at this
      exact (List.isPrefixOf_iff_prefix.1 this).length_le
  have hnum : 1 ≤ l.length → 1 ≤ dsz (unsig l) → (numW l).e = 0 → 1 ≤ (numW l).size ∧ (numW l).size ≤ l.length := by
    intro hl hd h
    unfold numW at h ⊢
    have hu : (unsig l).length ≤ l.length := by
      cases l with
      | nil => simp [unsig]
      | cons c t => simp only [unsig]; split <;> simp
    have hdl := dsz_le (unsig l)
    split at h
    · simp [bad] at h
    · rename_i h19
      rw [if_neg h19]
      split at h
      · rename_i v hv
        simp only
        unfold numEnd
        omega
      · simp [bad] at h
  match l with
  | [] => simp [wordW, bad] at he
  | c :: t =>
    rw [show wordW (c :: t) = (if c.toNat = 34 then quotW (c :: t) else if c.toNat = 45 then (if dsz t = 0 then signW (c :: t) else numW (c :: t))
      else if isD c then numW (c :: t) else if isL c then nameW (c :: t) else signW (c :: t)) from rfl] at he ⊢
    by_cases c34 : c.toNat = 34
    · rw [if_pos c34] at he ⊢
      have := quotGo_size t.length t [] 1 (Nat.le_refl _) he
      unfold quotW; simp only [List.drop_one, List.tail_cons, List.length_cons]
      omega
    · rw [if_neg c34] at he ⊢
      by_cases c45 : c.toNat = 45
      · rw [if_pos c45] at he ⊢
        by_cases hz : dsz t = 0
        · rw [if_pos hz] at he ⊢; exact hsign he
        · rw [if_neg hz] at he ⊢
          exact hnum (by simp) (by simp only [unsig, c45, if_true]; omega) he
      · rw [if_neg c45] at he ⊢
        by_cases hD : isD c = true
        · rw [if_pos hD] at he ⊢
          exact hnum (by simp) (by simp only [unsig, c45, if_false, dsz, hD, if_true]; omega) he
        · rw [if_neg hD] at he ⊢
          by_cases hL : isL c = true
          · rw [if_pos hL] at he ⊢
            unfold nameW at he ⊢
            split at he
            · simp [bad] at he
            · rename_i h16
              rw [if_neg h16]
              have := nsz_le (c :: t)
              refine ⟨?_, this⟩
              simp only [nsz, nszF, hL, Bool.true_or, if_true]; omega
          · rw [if_neg hL] at he ⊢; exact hsign he
theorem toksGo_nil (f : Nat) (i : Nat) (acc : List T) (l : List UInt8) (h : l.length = 0) : toksGo f l i acc = (0, acc) := by
  cases f <;> simp [toksGo, h]
theorem toksGo_bad (f : Nat) (i : Nat) (acc : List T) (l : List UInt8) (h : l.length ≠ 0) (he : (wordW l).e ≠ 0) : toksGo (f + 1) l i acc = ((wordW l).e, []) := by
  simp [toksGo, h, he]
theorem toksGo_word (f : Nat) (i : Nat) (acc : List T) (l : List UInt8) (h : l.length ≠ 0) (he : (wordW l).e = 0) :
    toksGo (f + 1) l i acc = toksGo f ((l.drop (wordW l).size).drop (bsz (l.drop (wordW l).size))) (i + (wordW l).size + bsz (l.drop (wordW l).size)) (acc ++ [⟨(wordW l).kind, (wordW l).text, (wordW l).n, i⟩]) := by
  rw [toksGo, if_neg h, if_pos he]
end Sc
end Go.Proofs.YtlfbcaenlifmkaaGreatDoor
