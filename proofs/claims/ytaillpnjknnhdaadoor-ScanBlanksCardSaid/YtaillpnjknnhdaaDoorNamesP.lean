/- ScanNames: what the words of its sources come to. -/
import Derived.Test.YtaillpnjknnhdaaDoorTk
import Derived.KernelRfl
namespace Go.Proofs.YtaillpnjknnhdaaDoor
namespace Sc

def nm : Nat → UInt8
  | 0 => 97
  | 1 => 90
  | 2 => 95
  | 3 => 48
  | 4 => 57
  | 5 => 120
  | _ => 66
theorem nm_ok (k : Nat) : (isL (nm k) || isD (nm k)) = true := by
  match k with
  | 0 => decide
  | 1 => decide
  | 2 => decide
  | 3 => decide
  | 4 => decide
  | 5 => decide
  | k + 6 => exact (by decide : (isL (nm 6) || isD (nm 6)) = true)
theorem nm_letter (k : Nat) (h3 : k ≠ 3) (h4 : k ≠ 4) : isL (nm k) = true := by
  match k with
  | 0 => decide
  | 1 => decide
  | 2 => decide
  | 3 => exact absurd rfl h3
  | 4 => exact absurd rfl h4
  | 5 => decide
  | k + 6 => exact (by decide : isL (nm 6) = true)

/-- A text that is one name. -/
def NameL (l : List UInt8) : Prop := (∀ c ∈ l, (isL c || isD c) = true) ∧ ∀ c, l.head? = some c → isL c = true
theorem NameL.snoc {l : List UInt8} (h : NameL l) (c : UInt8) (hc : (isL c || isD c) = true) (h0 : l = [] → isL c = true) : NameL (l ++ [c]) := by
  refine ⟨fun x hx => ?_, fun x hx => ?_⟩
  · rcases List.mem_append.1 hx with h' | h'
    · exact h.1 x h'
    · simp at h'; subst h'; exact hc
  · cases l with
    | nil => simp at hx; subst hx; exact h0 rfl
    | cons y r => simp at hx; subst hx; exact h.2 y rfl

theorem nszF_all (l : List UInt8) (h : ∀ c ∈ l, (isL c || isD c) = true) : nszF false l = l.length := by
  induction l with
  | nil => rfl
  | cons c t ih =>
    have hc := h c (by simp)
    simp only [nszF, Bool.not_false, Bool.true_and, hc, if_true, List.length_cons]
    rw [ih fun x hx => h x (by simp [hx])]
theorem nsz_name (l : List UInt8) (h : NameL l) : nsz l = l.length := by
  cases l with
  | nil => rfl
  | cons c t =>
    have hc := h.2 c rfl
    simp only [nsz, nszF, hc, Bool.true_or, if_true, List.length_cons]
    rw [nszF_all t fun x hx => h.1 x (by simp [hx])]

theorem letter_not (c : UInt8) (h : isL c = true) : c.toNat ≠ 34 ∧ c.toNat ≠ 45 ∧ isD c = false ∧ isB c = false := by
  unfold isL at h
  simp only [Bool.or_eq_true, Bool.and_eq_true, decide_eq_true_eq] at h
  refine ⟨by omega, by omega, ?_, ?_⟩
  · unfold isD; simp; omega
  · unfold isB; simp; omega

theorem wordW_name (l : List UInt8) (h : NameL l) (h0 : 0 < l.length) (h16 : l.length ≤ 16) : wordW l = ⟨1, l, 0, l.length, 0⟩ := by
  cases l with
  | nil => simp at h0
  | cons c t =>
    have hc := h.2 c rfl
    obtain ⟨h1, h2, h3, _⟩ := letter_not c hc
    rw [show wordW (c :: t) = (if c.toNat = 34 then quotW (c :: t) else if c.toNat = 45 then (if dsz t = 0 then signW (c :: t) else numW (c :: t))
      else if isD c then numW (c :: t) else if isL c then nameW (c :: t) else signW (c :: t)) from rfl]
    rw [if_neg h1, if_neg h2, h3, if_neg (by simp), if_pos hc]
    unfold nameW
    rw [nsz_name _ h, if_neg (by omega), List.take_length]

theorem name_bsz (l : List UInt8) (h : NameL l) : bsz l = 0 := by
  cases l with
  | nil => rfl
  | cons c t => simp [bsz, (letter_not c (h.2 c rfl)).2.2.2]

theorem name_tk (l : List UInt8) (h : NameL l) (h0 : 0 < l.length) (h16 : l.length ≤ 16) (i : Nat) (acc : List T) : tk l i acc = (0, acc ++ [⟨1, l, 0, i⟩]) := by
  have := tk_word l [] [] i acc 1 l 0 h0 (by simp only [List.append_nil]; exact wordW_name l h h0 h16) rfl
  simp only [List.append_nil] at this
  rw [this, tk_nil]

theorem names_1 (l : List UInt8) (h : NameL l) (h0 : 0 < l.length) (h16 : l.length ≤ 16) : toks l = (0, [⟨1, l, 0, 0⟩]) := by
  refine toks_of l _ (by omega) ?_ (by simp)
  rw [name_bsz l h, List.drop_zero, name_tk l h h0 h16]; rfl
theorem w_4 (r : List UInt8) : wordW ([52] ++ ([32] ++ r)) = ⟨3, [], 4, 1, 0⟩ := by
  show numW (52 :: 32 :: r) = _
  rw [numW_plain _ _ (by decide)]
  kernel_rfl
theorem names_2 (l : List UInt8) (h : NameL l) (h0 : 0 < l.length) (h16 : l.length ≤ 16) : toks ([52, 32] ++ l) = (0, [⟨3, [], 4, 0⟩, ⟨1, l, 0, 2⟩]) := by
  refine toks_of _ _ (by rw [List.length_append]; show 2 + _ ≤ _; omega) ?_ (by simp)
  have e := tk_word [52] [32] l 0 [] _ _ _ (by decide) (w_4 l) (by show bsz (32 :: l) = 1; simp [bsz, isB, name_bsz l h])
  show tk ([52] ++ ([32] ++ l)) 0 [] = _
  rw [e, name_tk l h h0 h16]; rfl
theorem names_id (l : List UInt8) (h : NameL l) (h0 : 0 < l.length) (h16 : l.length ≤ 16) : (decide (l.length ≠ 0) && (decide (l.length ≤ 16) && decide (nsz l = l.length))) = true := by
  rw [nsz_name l h, decide_eq_true (show l.length ≠ 0 by omega), decide_eq_true h16]; simp
theorem names_no (l : List UInt8) : (decide ((52 :: l).length ≠ 0) && (decide ((52 :: l).length ≤ 16) && decide (nsz (52 :: l) = (52 :: l).length))) = false := by
  have : nsz (52 :: l) = 0 := rfl
  rw [this]; simp
end Sc
end Go.Proofs.YtaillpnjknnhdaaDoor
