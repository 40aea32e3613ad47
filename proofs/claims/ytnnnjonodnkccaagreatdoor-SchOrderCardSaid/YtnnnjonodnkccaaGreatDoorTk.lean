/- How the words of a text that is put together come out: one word at a time. No program is named here. -/
import Derived.Test.YtnnnjonodnkccaaGreatDoorToks
namespace Go.Proofs.YtnnnjonodnkccaaGreatDoor
namespace Sc

theorem toksGo_fuel (n : Nat) : ∀ (l : List UInt8) (f g i : Nat) (acc : List T), l.length ≤ n → l.length < f → l.length < g → toksGo f l i acc = toksGo g l i acc := by
  induction n with
  | zero =>
    intro l f g i acc h _ _
    rw [toksGo_nil _ _ _ _ (by omega), toksGo_nil _ _ _ _ (by omega)]
  | succ n ih =>
    intro l f g i acc h hf hg
    obtain ⟨f, rfl⟩ : ∃ k, f = k + 1 := ⟨f - 1, by omega⟩
    obtain ⟨g, rfl⟩ : ∃ k, g = k + 1 := ⟨g - 1, by omega⟩
    by_cases h0 : l.length = 0
    · rw [toksGo_nil _ _ _ _ h0, toksGo_nil _ _ _ _ h0]
    · by_cases he : (wordW l).e = 0
      · rw [toksGo_word _ _ _ _ h0 he, toksGo_word _ _ _ _ h0 he]
        have hz := wordW_size l he
        apply ih <;> simp only [List.length_drop] <;> omega
      · rw [toksGo_bad _ _ _ _ h0 he, toksGo_bad _ _ _ _ h0 he]

/-- The words from a place on at which a word, or the end, stands. -/
def tk (l : List UInt8) (i : Nat) (acc : List T) : Nat × List T := toksGo (l.length + 1) l i acc

theorem tk_nil (i : Nat) (acc : List T) : tk [] i acc = (0, acc) := toksGo_nil _ _ _ _ rfl
theorem tk_bad (l : List UInt8) (i : Nat) (acc : List T) (h : l.length ≠ 0) (he : (wordW l).e ≠ 0) : tk l i acc = ((wordW l).e, []) := toksGo_bad _ _ _ _ h he

/-- One word, blanks behind it, the rest. -/
theorem tk_word (u b r : List UInt8) (i : Nat) (acc : List T) (k : Nat) (t : List UInt8) (n : Int) (hu : 0 < u.length) (hw : wordW (u ++ (b ++ r)) = ⟨k, t, n, u.length, 0⟩) (hb : bsz (b ++ r) = b.length) :
    tk (u ++ (b ++ r)) i acc = tk r (i + u.length + b.length) (acc ++ [⟨k, t, n, i⟩]) := by
  unfold tk
  have h0 : (u ++ (b ++ r)).length ≠ 0 := by rw [List.length_append]; omega
  rw [toksGo_word _ _ _ _ h0 (by rw [hw])]
  rw [hw]
  simp only [List.drop_left, hb]
  exact toksGo_fuel _ _ _ _ _ _ (Nat.le_refl _) (by simp only [List.length_append]; omega) (by omega)

theorem toks_tk (l : List UInt8) (h : l.length ≤ 1500) : toks l = (if (tk (l.drop (bsz l)) (bsz l) []).1 = 0 then (if 400 < (tk (l.drop (bsz l)) (bsz l) []).2.length then (3, []) else tk (l.drop (bsz l)) (bsz l) []) else ((tk (l.drop (bsz l)) (bsz l) []).1, [])) := by
  have e : toksRaw l = tk (l.drop (bsz l)) (bsz l) [] := by
    unfold toksRaw tk
    have := bsz_le l
    exact toksGo_fuel _ _ _ _ _ _ (Nat.le_refl _) (by rw [List.length_drop]; omega) (by omega)
  unfold toks
  rw [if_neg (by omega), e]

theorem toks_of (l : List UInt8) (ts : List T) (h : l.length ≤ 1500) (ht : tk (l.drop (bsz l)) (bsz l) [] = (0, ts)) (hn : ts.length ≤ 400) : toks l = (0, ts) := by
  rw [toks_tk l h, ht]; simp only [if_true]; rw [if_neg (by omega)]
theorem toks_err (l : List UInt8) (e : Nat) (ts : List T) (h : l.length ≤ 1500) (ht : tk (l.drop (bsz l)) (bsz l) [] = (e, ts)) (he : e ≠ 0) : toks l = (e, []) := by
  rw [toks_tk l h, ht]; simp only [he, if_false]

theorem numEnd_eq (l : List UInt8) : numEnd l = (l.length - (unsig l).length) + dsz (unsig l) := rfl
theorem numW_plain (c : UInt8) (t : List UInt8) (h : c.toNat ≠ 45) : numW (c :: t) = if 19 < dsz (c :: t) then bad 4 else match Lib.parseIntB 64 ((c :: t).take (dsz (c :: t))) with | .ok v => ⟨3, [], v, dsz (c :: t), 0⟩ | _ => bad 11 := by
  have hu : unsig (c :: t) = c :: t := by simp only [unsig, h, if_false]
  have hn : numEnd (c :: t) = dsz (c :: t) := by unfold numEnd; rw [hu, Nat.sub_self, Nat.zero_add]
  unfold numW; rw [hu, hn]; rfl
theorem numW_minus (c : UInt8) (t : List UInt8) (h : c.toNat = 45) : numW (c :: t) = if 19 < dsz t then bad 4 else match Lib.parseIntB 64 ((c :: t).take (1 + dsz t)) with | .ok v => ⟨3, [], v, 1 + dsz t, 0⟩ | _ => bad 11 := by
  have hu : unsig (c :: t) = t := by simp only [unsig, h, if_true]
  have hn : numEnd (c :: t) = 1 + dsz t := by
    unfold numEnd; rw [hu, List.length_cons]; omega
  unfold numW; rw [hu, hn]; rfl
end Sc
end Go.Proofs.YtnnnjonodnkccaaGreatDoor
