/- Words of a source are short, and stand within it. No program is named here. -/
import Derived.Test.YtlfbcaenlifmkaaGreatDoorB3
namespace Go.Proofs.YtlfbcaenlifmkaaGreatDoor
namespace Tr
open Sc
theorem quot_text (n : Nat) : ∀ (l b : List UInt8) (i : Nat), l.length ≤ n → (quotGo l b i).text.length ≤ 200 := by
  have hb : ∀ (b : List UInt8) (i : Nat), (if 200 < b.length then bad 4 else ⟨2, b, 0, i + 1, 0⟩ : W).text.length ≤ 200 := by
    intro b i; split
    · exact Nat.zero_le _
    · simp only; omega
  induction n with
  | zero => intro l b i h; rw [List.eq_nil_of_length_eq_zero (by omega : l.length = 0)]; exact Nat.zero_le _
  | succ n ih =>
    intro l b i h
    match l, h with
    | [], _ => exact Nat.zero_le _
    | c :: r, h =>
      simp only [List.length_cons] at h
      by_cases c34 : c.toNat = 34
      · rw [q_quote c r b i c34]; exact hb b i
      · by_cases c32 : c.toNat < 32
        · rw [q_low c r b i c34 c32]; exact Nat.zero_le _
        · by_cases c92 : c.toNat = 92
          · rw [q_slash c r b i c92]
            split
            · exact Nat.zero_le _
            · exact ih (r.drop 1) _ _ (by rw [List.length_drop]; omega)
          · rw [q_plain c r b i c34 c32 c92]; exact ih r _ _ (by omega)
theorem signs_short : ∀ x ∈ signs, x.length ≤ 200 := by decide
theorem sign_text (l : List UInt8) : (signW l).text.length ≤ 200 := by
  unfold signW
  cases hf : signs.find? (fun x => Lib.hasPrefix l x) with
  | none => exact Nat.zero_le _
  | some x => exact signs_short x (List.mem_of_find?_eq_some hf)
theorem num_text (l : List UInt8) : (numW l).text.length ≤ 200 := by
  unfold numW
  split
  · exact Nat.zero_le _
  · split <;> exact Nat.zero_le _
theorem name_text (l : List UInt8) : (nameW l).text.length ≤ 200 := by
  unfold nameW
  split
  · exact Nat.zero_le _
  · simp only [List.length_take]; omega
theorem word_text (l : List UInt8) : (wordW l).text.length ≤ 200 := by
  match l with
  | [] => exact Nat.zero_le _
  | c :: t =>
    rw [show wordW (c :: t) = (if c.toNat = 34 then quotW (c :: t) else if c.toNat = 45 then (if dsz t = 0 then signW (c :: t) else numW (c :: t))
      else if isD c then numW (c :: t) else if isL c then nameW (c :: t) else signW (c :: t)) from rfl]
    split
    · exact quot_text _ _ _ _ (Nat.le_refl _)
    split
    · split
      · exact sign_text _
      · exact num_text _
    split
    · exact num_text _
    split
    · exact name_text _
    · exact sign_text _
theorem go_small (N : Nat) : ∀ (f : Nat) (l : List UInt8) (i : Nat) (acc : List T), (∀ t ∈ acc, t.at_ ≤ N ∧ t.text.length ≤ 200) → i + l.length ≤ N → ∀ t ∈ (toksGo f l i acc).2, t.at_ ≤ N ∧ t.text.length ≤ 200
  | 0, l, i, acc, ha, _ => ha
  | f + 1, l, i, acc, ha, hi => by
    by_cases h0 : l.length = 0
    · rw [toksGo_nil _ _ _ _ h0]; exact ha
    · by_cases he : (wordW l).e = 0
      · rw [toksGo_word f i acc l h0 he]
        have h1 := wordW_size l he
        have h2 := bsz_le (l.drop (wordW l).size)
        rw [List.length_drop] at h2
        refine go_small N f _ _ _ (fun t ht => ?_) (by rw [List.length_drop, List.length_drop]; omega)
        rcases List.mem_append.1 ht with ht | ht
        · exact ha t ht
        · cases List.mem_singleton.1 ht
          exact ⟨by simp only; omega, word_text l⟩
      · rw [toksGo_bad f i acc l h0 he]; intro t ht; cases ht
theorem toks_short (l : List UInt8) : (toks l).2.length ≤ 400 := by
  unfold toks
  split
  · exact Nat.zero_le _
  split
  · split
    · exact Nat.zero_le _
    · omega
  · exact Nat.zero_le _
theorem toks_small (l : List UInt8) : ∀ t ∈ (toks l).2, t.at_ ≤ 1500 ∧ t.text.length ≤ 200 := by
  intro t ht
  unfold toks at ht
  split at ht
  · cases ht
  · rename_i h15
    have hr : ∀ t ∈ (toksRaw l).2, t.at_ ≤ 1500 ∧ t.text.length ≤ 200 := by
      have := bsz_le l
      exact go_small 1500 _ _ _ _ (fun t h => by cases h) (by rw [List.length_drop]; omega)
    split at ht
    · split at ht
      · cases ht
      · exact hr t ht
    · cases ht
end Tr
end Go.Proofs.YtlfbcaenlifmkaaGreatDoor
