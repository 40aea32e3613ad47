/- The words of a source, as a plain function; sizes of words. No program is named here. -/
import Derived.Test.YtnnnjonodnkccaaGreatDoorPure
namespace Go.Proofs.YtnnnjonodnkccaaGreatDoor
namespace Sc

structure T where
  kind : Nat
  text : List UInt8
  n : Int
  at_ : Nat

def toksGo : Nat → List UInt8 → Nat → List T → Nat × List T
  | 0, _, _, acc => (0, acc)
  | f + 1, l, i, acc =>
    if l.length = 0 then (0, acc)
    else if (wordW l).e = 0 then
      toksGo f ((l.drop (wordW l).size).drop (bsz (l.drop (wordW l).size))) (i + (wordW l).size + bsz (l.drop (wordW l).size)) (acc ++ [⟨(wordW l).kind, (wordW l).text, (wordW l).n, i⟩])
    else ((wordW l).e, [])

def toksRaw (l : List UInt8) : Nat × List T := toksGo (l.length + 1) (l.drop (bsz l)) (bsz l) []
def toks (l : List UInt8) : Nat × List T :=
  if 1500 < l.length then (4, [])
  else if (toksRaw l).1 = 0 then (if 400 < (toksRaw l).2.length then (3, []) else toksRaw l)
  else ((toksRaw l).1, [])

theorem quotGo_size (n : Nat) : ∀ (l b : List UInt8) (i : Nat), l.length ≤ n → (quotGo l b i).e = 0 → i + 1 ≤ (quotGo l b i).size ∧ (quotGo l b i).size ≤ i + l.length := by
  induction n with
  | zero => intro l b i h he; rw [List.eq_nil_of_length_eq_zero (by omega : l.length = 0)] at he; simp [quotGo, bad] at he
  | succ n ih =>
    intro l b i h he
    match l, h, he with
    | [], _, he => simp [quotGo, bad] at he
    | c :: r, h, he =>
      simp only [List.length_cons] at h ⊢
      by_cases c34 : c.toNat = 34
      · rw [q_quote c r b i c34] at he ⊢
        by_cases hb : 200 < b.length
        · rw [if_pos hb] at he; simp [bad] at he
        · rw [if_neg hb]; simp only; omega
      · by_cases c32 : c.toNat < 32
        · rw [q_low c r b i c34 c32] at he; simp [bad] at he
        · by_cases c92 : c.toNat = 92
          · rw [q_slash c r b i c92] at he ⊢
            by_cases hm : meantL r = 0
            · rw [if_pos hm] at he; simp [bad] at he
            · rw [if_neg hm] at he ⊢
              have hr : 1 ≤ r.length := by
                cases r with
                | nil => exact absurd rfl hm
                | cons _ _ => simp
              have := ih (r.drop 1) _ _ (by rw [List.length_drop]; omega) he
              rw [List.length_drop] at this; omega
          · rw [q_plain c r b i c34 c32 c92] at he ⊢
            have := ih r _ _ (by omega) he
            omega

theorem signs_pos : ∀ x ∈ signs, 1 ≤ x.length := by decide

theorem wordW_size (l : List UInt8) (he : (wordW l).e = 0) : 1 ≤ (wordW l).size ∧ (wordW l).size ≤ l.length := by
  have hsign : (signW l).e = 0 → 1 ≤ (signW l).size ∧ (signW l).size ≤ l.length := by
    intro h
    unfold signW at h ⊢
    cases hf : signs.find? (fun x => Lib.hasPrefix l x) with
    | none => rw [hf] at h; simp [bad] at h
    | some x =>
      rw [hf] at h
      refine ⟨signs_pos x (List.mem_of_find?_eq_some hf), ?_⟩
      have := List.find?_some hf
      unfold Lib.hasPrefix at this
      exact (List.isPrefixOf_iff_prefix.1 this).length_le
  have hnum : 1 ≤ l.length → 1 ≤ dsz (unsig l) → (numW l).e = 0 → 1 ≤ (numW l).size ∧ (numW l).size ≤ l.length := by
    intro hl hd h
    unfold numW at h ⊢
    have hu : (unsig l).length ≤ l.length := by
      cases l with
      | nil => simp [unsig]
      | cons c t => simp only [unsig]; split <;> simp
    have hdl := dsz_le (unsig l)
    split at h
    · simp [bad] at h
    · rename_i h19
      rw [if_neg h19]
      split at h
      · rename_i v hv
        simp only [hv]
        unfold numEnd
        omega
      · simp [bad] at h
  match l with
  | [] => simp [wordW, bad] at he
  | c :: t =>
    rw [show wordW (c :: t) = (if c.toNat = 34 then quotW (c :: t) else if c.toNat = 45 then (if dsz t = 0 then signW (c :: t) else numW (c :: t))
      else if isD c then numW (c :: t) else if isL c then nameW (c :: t) else signW (c :: t)) from rfl] at he ⊢
    by_cases c34 : c.toNat = 34
    · rw [if_pos c34] at he ⊢
      have := quotGo_size t.length t [] 1 (Nat.le_refl _) he
      unfold quotW; simp only [List.drop_one, List.tail_cons, List.length_cons]
      omega
    · rw [if_neg c34] at he ⊢
      by_cases c45 : c.toNat = 45
      · rw [if_pos c45] at he ⊢
        by_cases hz : dsz t = 0
        · rw [if_pos hz] at he ⊢; exact hsign he
        · rw [if_neg hz] at he ⊢
          exact hnum (by simp) (by simp only [unsig, c45, if_true]; omega) he
      · rw [if_neg c45] at he ⊢
        by_cases hD : isD c = true
        · rw [if_pos hD] at he ⊢
          exact hnum (by simp) (by simp only [unsig, c45, if_false, dsz, hD, if_true]; omega) he
        · rw [if_neg hD] at he ⊢
          by_cases hL : isL c = true
          · rw [if_pos hL] at he ⊢
            unfold nameW at he ⊢
            split at he
            · simp [bad] at he
            · rename_i h16
              rw [if_neg h16]
              have := nsz_le (c :: t)
              refine ⟨?_, this⟩
              simp only [nsz, nszF, hL, Bool.true_or, if_true]; omega
          · rw [if_neg hL] at he ⊢; exact hsign he

theorem toksGo_nil (f : Nat) (i : Nat) (acc : List T) (l : List UInt8) (h : l.length = 0) : toksGo f l i acc = (0, acc) := by
  cases f <;> simp [toksGo, h]
theorem toksGo_bad (f : Nat) (i : Nat) (acc : List T) (l : List UInt8) (h : l.length ≠ 0) (he : (wordW l).e ≠ 0) : toksGo (f + 1) l i acc = ((wordW l).e, []) := by
  simp [toksGo, h, he]
theorem toksGo_word (f : Nat) (i : Nat) (acc : List T) (l : List UInt8) (h : l.length ≠ 0) (he : (wordW l).e = 0) :
    toksGo (f + 1) l i acc = toksGo f ((l.drop (wordW l).size).drop (bsz (l.drop (wordW l).size))) (i + (wordW l).size + bsz (l.drop (wordW l).size)) (acc ++ [⟨(wordW l).kind, (wordW l).text, (wordW l).n, i⟩]) := by
  rw [toksGo, if_neg h, if_pos he]
end Sc
end Go.Proofs.YtnnnjonodnkccaaGreatDoor
