/- ScanNumbers: what the words of its whole sources come to. -/
import Derived.Test.YtaillpnjknnhdaaDoorNumbersP
namespace Go.Proofs.YtaillpnjknnhdaaDoor
namespace Sc

def beh : Nat → List UInt8
  | 0 => []
  | 1 => [32]
  | 2 => [46]
  | 3 => [41]
  | _ => [97]
theorem beh_dsz (q : Nat) : dsz (beh q) = 0 := by
  match q with
  | 0 => rfl
  | 1 => rfl
  | 2 => rfl
  | 3 => rfl
  | q + 4 => rfl
theorem beh_len (q : Nat) : (beh q).length ≤ 1 := by
  match q with
  | 0 => decide
  | 1 => decide
  | 2 => decide
  | 3 => decide
  | q + 4 => exact (by decide : (beh 4).length ≤ 1)

theorem tk_46 (i : Nat) (acc : List T) : tk [46] i acc = (0, acc ++ [⟨4, [46], 0, i⟩]) := by
  have := tk_word [46] [] [] i acc 4 [46] 0 (by decide) (by kernel_rfl) rfl
  simp only [List.append_nil] at this
  rw [this, tk_nil]
theorem tk_41 (i : Nat) (acc : List T) : tk [41] i acc = (0, acc ++ [⟨4, [41], 0, i⟩]) := by
  have := tk_word [41] [] [] i acc 4 [41] 0 (by decide) (by kernel_rfl) rfl
  simp only [List.append_nil] at this
  rw [this, tk_nil]
theorem tk_97 (i : Nat) (acc : List T) : tk [97] i acc = (0, acc ++ [⟨1, [97], 0, i⟩]) := by
  have := tk_word [97] [] [] i acc 1 [97] 0 (by decide) (by kernel_rfl) rfl
  simp only [List.append_nil] at this
  rw [this, tk_nil]

theorem num_then (u : List UInt8) (q i : Nat) (acc : List T) (n : Int) (hu : 0 < u.length) (hw : wordW (u ++ beh q) = ⟨3, [], n, u.length, 0⟩) :
    ∃ ts', tk (u ++ beh q) i acc = (0, (acc ++ [⟨3, [], n, i⟩]) ++ ts') ∧ ts'.length ≤ 1 := by
  match q with
  | 0 =>
    refine ⟨[], ?_, by simp⟩
    have := tk_word u [] [] i acc 3 [] n hu hw rfl
    rw [List.append_nil]
    exact this.trans (tk_nil _ _)
  | 1 =>
    refine ⟨[], ?_, by simp⟩
    have := tk_word u [32] [] i acc 3 [] n hu hw rfl
    rw [List.append_nil]
    exact this.trans (tk_nil _ _)
  | 2 => exact ⟨_, (tk_word u [] [46] i acc 3 [] n hu hw rfl).trans (tk_46 _ _), by simp⟩
  | 3 => exact ⟨_, (tk_word u [] [41] i acc 3 [] n hu hw rfl).trans (tk_41 _ _), by simp⟩
  | q + 4 => exact ⟨_, (tk_word u [] [97] i acc 3 [] n hu hw rfl).trans (tk_97 _ _), by simp⟩

def ahead (neg : Bool) (l : List UInt8) : List UInt8 := if neg then 45 :: l else l
def numSrc (sgn neg : Bool) (l : List UInt8) (q : Nat) : List UInt8 := (if sgn then [44] else []) ++ (ahead neg l ++ beh q)
def numVal (neg : Bool) (l : List UInt8) : Int := if neg then -((vl 0 l : Nat) : Int) else ((vl 0 l : Nat) : Int)

theorem ahead_word (neg : Bool) (l : List UInt8) (q : Nat) (h : ∀ c ∈ l, isD c = true) (h1 : 0 < l.length) (h19 : l.length ≤ 19) (hv : vl 0 l ≤ 9223372036854775808) (hp : neg = false → vl 0 l ≤ 9223372036854775807) :
    wordW (ahead neg l ++ beh q) = ⟨3, [], numVal neg l, (ahead neg l).length, 0⟩ := by
  cases neg with
  | true => exact num_minus l (beh q) h (beh_dsz q) h1 h19 hv
  | false => exact num_plus l (beh q) h (beh_dsz q) h1 h19 (hp rfl)
theorem ahead_bsz (neg : Bool) (l : List UInt8) (q : Nat) (h : ∀ c ∈ l, isD c = true) (h1 : 0 < l.length) : bsz (ahead neg l ++ beh q) = 0 := by
  cases neg with
  | true => rfl
  | false =>
    match l, h1 with
    | c :: r, _ =>
      show bsz (c :: (r ++ beh q)) = 0
      simp [bsz, (digit_not c (h c (by simp))).2.2.2]
theorem comma_word (r : List UInt8) : wordW ([44] ++ ([] ++ r)) = ⟨4, [44], 0, 1, 0⟩ := by kernel_rfl

theorem num_all (sgn neg : Bool) (l : List UInt8) (q : Nat) (h : ∀ c ∈ l, isD c = true) (h1 : 0 < l.length) (h19 : l.length ≤ 19) (hv : vl 0 l ≤ 9223372036854775808) (hp : neg = false → vl 0 l ≤ 9223372036854775807) :
    ∃ ts, toks (numSrc sgn neg l q) = (0, ts) ∧ ∃ hk : (if sgn then 1 else 0) < ts.length, ts[if sgn then 1 else 0] = ⟨3, [], numVal neg l, if sgn then 1 else 0⟩ := by
  have hw := ahead_word neg l q h h1 h19 hv hp
  have hb := ahead_bsz neg l q h h1
  have hal : 0 < (ahead neg l).length := by cases neg <;> simp [ahead]; omega
  have hal2 : (ahead neg l).length ≤ 20 := by cases neg <;> simp [ahead] <;> omega
  have hbl := beh_len q
  cases sgn with
  | false =>
    obtain ⟨ts', e, hl⟩ := num_then (ahead neg l) q 0 [] _ hal hw
    refine ⟨([] ++ [⟨3, [], numVal neg l, 0⟩]) ++ ts', toks_of _ _ ?_ ?_ ?_, ?_, ?_⟩
    · simp [numSrc]; omega
    · show tk ((ahead neg l ++ beh q).drop (bsz (ahead neg l ++ beh q))) (bsz (ahead neg l ++ beh q)) [] = _
      rw [hb, List.drop_zero]; exact e
    · simp; omega
    · simp
    · simp
  | true =>
    obtain ⟨ts', e, hl⟩ := num_then (ahead neg l) q 1 [⟨4, [44], 0, 0⟩] _ hal hw
    refine ⟨([⟨4, [44], 0, 0⟩] ++ [⟨3, [], numVal neg l, 1⟩]) ++ ts', toks_of _ _ ?_ ?_ ?_, ?_, ?_⟩
    · simp [numSrc]; omega
    · show tk (([44] ++ ([] ++ (ahead neg l ++ beh q))).drop 0) 0 [] = _
      rw [List.drop_zero, tk_word [44] [] (ahead neg l ++ beh q) 0 [] 4 [44] 0 (by decide) (comma_word _) hb]
      exact e
    · simp; omega
    · simp
    · simp
end Sc
end Go.Proofs.YtaillpnjknnhdaaDoor
