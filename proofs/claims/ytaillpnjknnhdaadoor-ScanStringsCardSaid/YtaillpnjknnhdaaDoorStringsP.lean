/- ScanStrings: what the words of its sources come to. -/
import Derived.Test.YtaillpnjknnhdaaDoorTk
import Derived.KernelRfl
namespace Go.Proofs.YtaillpnjknnhdaaDoor
namespace Sc

def enc (c : UInt8) : List UInt8 :=
  if c.toNat = 34 ∨ c.toNat = 92 then [92, c] else if c.toNat = 10 then [92, 110] else if c.toNat = 9 then [92, 116] else if c.toNat < 32 then [] else [c]
def wnt (c : UInt8) : List UInt8 := if c.toNat < 32 ∧ c.toNat ≠ 10 ∧ c.toNat ≠ 9 then [] else [c]
def encs (l : List UInt8) : List UInt8 := l.flatMap enc
def wnts (l : List UInt8) : List UInt8 := l.flatMap wnt
theorem encs_snoc (l : List UInt8) (c : UInt8) : encs (l ++ [c]) = encs l ++ enc c := by simp [encs]
theorem wnts_snoc (l : List UInt8) (c : UInt8) : wnts (l ++ [c]) = wnts l ++ wnt c := by simp [wnts]
theorem enc_len (c : UInt8) : (enc c).length ≤ 2 := by unfold enc; repeat' split
                                                       all_goals simp
theorem wnt_len (c : UInt8) : (wnt c).length ≤ 1 := by unfold wnt; split <;> simp
theorem encs_len (l : List UInt8) : (encs l).length ≤ 2 * l.length := by
  induction l with
  | nil => simp [encs]
  | cons c t ih => have := enc_len c; simp only [encs, List.flatMap_cons, List.length_append, List.length_cons] at ih ⊢; omega
theorem wnts_len (l : List UInt8) : (wnts l).length ≤ l.length := by
  induction l with
  | nil => simp [wnts]
  | cons c t ih => have := wnt_len c; simp only [wnts, List.flatMap_cons, List.length_append, List.length_cons] at ih ⊢; omega

theorem ofNat_toNat8 (c : UInt8) : c.toNat.toUInt8 = c := by simp

theorem q_encs (l : List UInt8) : ∀ (b : List UInt8) (i : Nat) (r : List UInt8), (b.length + (wnts l).length ≤ 200) →
    quotGo (encs l ++ (34 :: r)) b i = ⟨2, b ++ wnts l, 0, i + (encs l).length + 1, 0⟩ := by
  induction l with
  | nil =>
    intro b i r h
    simp only [encs, wnts, List.flatMap_nil, List.nil_append, List.append_nil, List.length_nil, Nat.add_zero] at h ⊢
    rw [q_quote 34 r b i (by decide), if_neg (by omega)]
  | cons c t ih =>
    intro b i r h
    simp only [encs, wnts, List.flatMap_cons, List.append_assoc, List.length_append] at h ih ⊢
    by_cases h1 : c.toNat = 34 ∨ c.toNat = 92
    · have he : enc c = [92, c] := by unfold enc; rw [if_pos h1]
      have hw : wnt c = [c] := by unfold wnt; rw [if_neg (by omega)]
      have hm : meantL (c :: (t.flatMap enc ++ 34 :: r)) = c.toNat := by
        show meantB c = c.toNat
        unfold meantB
        rcases h1 with h1 | h1 <;> simp [h1]
      rw [hw] at h ⊢; rw [he]
      simp only [List.cons_append, List.nil_append, List.length_cons, List.length_nil] at h ⊢
      rw [q_slash 92 _ b i (by decide), hm, if_neg (by omega), List.drop_succ_cons, List.drop_zero, ih _ _ _ (by rw [List.length_append, List.length_singleton]; omega), ofNat_toNat8]
      simp; omega
    · by_cases h2 : c.toNat = 10
      · have he : enc c = [92, 110] := by unfold enc; rw [if_neg h1, if_pos h2]
        have hw : wnt c = [c] := by unfold wnt; rw [if_neg (by omega)]
        have hc : c = 10 := by rw [← UInt8.toNat_inj]; exact h2
        rw [hw] at h ⊢; rw [he]
        simp only [List.cons_append, List.nil_append, List.length_cons, List.length_nil] at h ⊢
        rw [q_slash 92 _ b i (by decide), show meantL (110 :: (t.flatMap enc ++ 34 :: r)) = 10 from rfl, if_neg (by omega), List.drop_succ_cons, List.drop_zero, ih _ _ _ (by rw [List.length_append, List.length_singleton]; omega), hc]
        simp; omega
      · by_cases h3 : c.toNat = 9
        · have he : enc c = [92, 116] := by unfold enc; rw [if_neg h1, if_neg h2, if_pos h3]
          have hw : wnt c = [c] := by unfold wnt; rw [if_neg (by omega)]
          have hc : c = 9 := by rw [← UInt8.toNat_inj]; exact h3
          rw [hw] at h ⊢; rw [he]
          simp only [List.cons_append, List.nil_append, List.length_cons, List.length_nil] at h ⊢
          rw [q_slash 92 _ b i (by decide), show meantL (116 :: (t.flatMap enc ++ 34 :: r)) = 9 from rfl, if_neg (by omega), List.drop_succ_cons, List.drop_zero, ih _ _ _ (by rw [List.length_append, List.length_singleton]; omega), hc]
          simp; omega
        · by_cases h4 : c.toNat < 32
          · have he : enc c = [] := by unfold enc; rw [if_neg h1, if_neg h2, if_neg h3, if_pos h4]
            have hw : wnt c = [] := by unfold wnt; rw [if_pos ⟨h4, h2, h3⟩]
            rw [hw] at h ⊢; rw [he]
            simp only [List.nil_append, List.length_nil, Nat.zero_add] at h ⊢
            rw [ih _ _ _ h]
          · have he : enc c = [c] := by unfold enc; rw [if_neg h1, if_neg h2, if_neg h3, if_neg h4]
            have hw : wnt c = [c] := by unfold wnt; rw [if_neg (by omega)]
            rw [hw] at h ⊢; rw [he]
            simp only [List.cons_append, List.nil_append, List.length_cons, List.length_nil] at h ⊢
            rw [q_plain c _ b i (by omega) h4 (by omega), ih _ _ _ (by rw [List.length_append, List.length_singleton]; omega)]
            simp; omega

theorem str_toks (l : List UInt8) (h : l.length ≤ 200) : toks ([32] ++ (34 :: encs l) ++ [34, 32]) = (0, [⟨2, wnts l, 0, 1⟩]) := by
  have hl := encs_len l
  have hwl := wnts_len l
  have e : [32] ++ (34 :: encs l) ++ [34, 32] = 32 :: ((34 :: (encs l ++ [34])) ++ ([32] ++ [])) := by simp
  rw [e]
  refine toks_of _ _ (by simp; omega) ?_ (by simp)
  have hb : bsz (32 :: ((34 :: (encs l ++ [34])) ++ ([32] ++ []))) = 1 := rfl
  rw [hb, List.drop_succ_cons, List.drop_zero]
  rw [tk_word (34 :: (encs l ++ [34])) [32] [] 1 [] 2 (wnts l) 0 (by simp) ?_ rfl, tk_nil]
  · rfl
  · show quotW (34 :: ((encs l ++ [34]) ++ ([32] ++ []))) = _
    unfold quotW
    rw [List.drop_succ_cons, List.drop_zero]
    have := q_encs l [] 1 [32] (by simp; omega)
    simp only [List.append_assoc, List.cons_append, List.nil_append] at this ⊢
    rw [this]
    simp; omega
end Sc
end Go.Proofs.YtaillpnjknnhdaaDoor
