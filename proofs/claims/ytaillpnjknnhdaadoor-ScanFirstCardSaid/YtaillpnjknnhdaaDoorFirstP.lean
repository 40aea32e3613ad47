/- ScanFirst: what the words of its sources come to. -/
import Derived.Test.YtaillpnjknnhdaaDoorTk
import Derived.KernelRfl
namespace Go.Proofs.YtaillpnjknnhdaaDoor
namespace Sc

def chA : Nat → List UInt8
  | 0 => [97, 32]
  | 1 => [49, 32]
  | 2 => [34, 113, 34, 32]
  | 3 => [46, 32]
  | _ => [45, 62, 32]
def badL : Nat → List UInt8
  | 0 => [35]
  | 1 => [97, 98, 99, 100, 101, 102, 103, 104, 105, 106, 107, 108, 109, 110, 111, 112, 113, 114]
  | 2 => [34, 92, 113, 34]
  | 3 => [57, 57, 57, 57, 57, 57, 57, 57, 57, 57, 57, 57, 57, 57, 57, 57, 57, 57, 57, 57]
  | _ => [57, 50, 50, 51, 51, 55, 50, 48, 51, 54, 56, 53, 52, 55, 55, 53, 56, 48, 56]
def badE : Nat → Nat
  | 0 => 11
  | 1 => 4
  | 2 => 11
  | 3 => 4
  | _ => 11

theorem one_word (u r : List UInt8) (i : Nat) (acc : List T) (k : Nat) (t : List UInt8) (n : Int) (hu : 0 < u.length) (hw : wordW (u ++ (32 :: r)) = ⟨k, t, n, u.length, 0⟩) (hb : bsz r = 0) :
    tk (u ++ (32 :: r)) i acc = tk r (i + u.length + 1) (acc ++ [⟨k, t, n, i⟩]) :=
  tk_word u [32] r i acc k t n hu hw (by show bsz (32 :: r) = 1; simp [bsz, isB, hb])

theorem w_a (r : List UInt8) : wordW ([97] ++ (32 :: r)) = ⟨1, [97], 0, 1, 0⟩ := by kernel_rfl
theorem w_1 (r : List UInt8) : wordW ([49] ++ (32 :: r)) = ⟨3, [], 1, 1, 0⟩ := by
  show numW (49 :: 32 :: r) = _
  rw [numW_plain _ _ (by decide)]
  kernel_rfl
theorem w_q (r : List UInt8) : wordW ([34, 113, 34] ++ (32 :: r)) = ⟨2, [113], 0, 3, 0⟩ := by kernel_rfl
theorem w_dot (r : List UInt8) : wordW ([46] ++ (32 :: r)) = ⟨4, [46], 0, 1, 0⟩ := by kernel_rfl
theorem w_arrow (r : List UInt8) : wordW ([45, 62] ++ (32 :: r)) = ⟨4, [45, 62], 0, 2, 0⟩ := by kernel_rfl

theorem ch_step (k : Nat) (r : List UInt8) (i : Nat) (acc : List T) (hb : bsz r = 0) : ∃ t, tk (chA k ++ r) i acc = tk r (i + (chA k).length) (acc ++ [t]) := by
  match k with
  | 0 => exact ⟨_, one_word [97] r i acc _ _ _ (by decide) (w_a r) hb⟩
  | 1 => exact ⟨_, one_word [49] r i acc _ _ _ (by decide) (w_1 r) hb⟩
  | 2 => exact ⟨_, one_word [34, 113, 34] r i acc _ _ _ (by decide) (w_q r) hb⟩
  | 3 => exact ⟨_, one_word [46] r i acc _ _ _ (by decide) (w_dot r) hb⟩
  | k + 4 => exact ⟨_, one_word [45, 62] r i acc _ _ _ (by decide) (w_arrow r) hb⟩

theorem ch_bsz (k : Nat) (r : List UInt8) : bsz (chA k ++ r) = 0 := by
  match k with
  | 0 => rfl
  | 1 => rfl
  | 2 => rfl
  | 3 => rfl
  | k + 4 => rfl
theorem ch_len (k : Nat) : (chA k).length ≤ 4 := by
  match k with
  | 0 => decide
  | 1 => decide
  | 2 => decide
  | 3 => decide
  | k + 4 => exact (by decide : (chA 4).length ≤ 4)

def chs (ks : List Nat) : List UInt8 := ks.flatMap chA
theorem chs_len (ks : List Nat) : (chs ks).length ≤ 4 * ks.length := by
  induction ks with
  | nil => simp [chs]
  | cons k r ih =>
    have := ch_len k
    simp only [chs, List.flatMap_cons, List.length_append, List.length_cons] at ih ⊢
    omega
theorem chs_bsz (ks : List Nat) (r : List UInt8) (h : bsz r = 0) : bsz (chs ks ++ r) = 0 := by
  cases ks with
  | nil => exact h
  | cons k t =>
    simp only [chs, List.flatMap_cons, List.append_assoc]
    exact ch_bsz k _

theorem chs_tk (ks : List Nat) : ∀ (r : List UInt8) (i : Nat) (acc : List T), bsz r = 0 → ∃ j acc', tk (chs ks ++ r) i acc = tk r j acc' := by
  induction ks with
  | nil => intro r i acc _; exact ⟨i, acc, rfl⟩
  | cons k t ih =>
    intro r i acc h
    simp only [chs, List.flatMap_cons, List.append_assoc]
    obtain ⟨x, hx⟩ := ch_step k (chs t ++ r) i acc (chs_bsz t r h)
    obtain ⟨j, acc', h2⟩ := ih r (i + (chA k).length) (acc ++ [x]) h
    exact ⟨j, acc', hx.trans h2⟩

theorem b0 (r : List UInt8) : (wordW (badL 0 ++ (32 :: r))).e = 11 := by kernel_rfl
theorem b1 (r : List UInt8) : (wordW (badL 1 ++ (32 :: r))).e = 4 := by kernel_rfl
theorem b2 (r : List UInt8) : (wordW (badL 2 ++ (32 :: r))).e = 11 := by kernel_rfl
theorem b3 (r : List UInt8) : (wordW (badL 3 ++ (32 :: r))).e = 4 := by kernel_rfl
theorem b4 (r : List UInt8) : (wordW (badL 4 ++ (32 :: r))).e = 11 := by
  show (numW (57 :: ([50, 50, 51, 51, 55, 50, 48, 51, 54, 56, 53, 52, 55, 55, 53, 56, 48, 56] ++ (32 :: r)))).e = 11
  rw [numW_plain _ _ (by decide)]
  kernel_rfl

theorem bad_e (a : Nat) (r : List UInt8) : (wordW (badL a ++ (32 :: r))).e = badE a := by
  match a with
  | 0 => exact b0 r
  | 1 => exact b1 r
  | 2 => exact b2 r
  | 3 => exact b3 r
  | a + 4 => exact b4 r
theorem bad_len (a : Nat) : 1 ≤ (badL a).length ∧ (badL a).length ≤ 20 := by
  match a with
  | 0 => decide
  | 1 => decide
  | 2 => decide
  | 3 => decide
  | a + 4 => exact (by decide : 1 ≤ (badL 4).length ∧ (badL 4).length ≤ 20)
theorem bad_bsz (a : Nat) (r : List UInt8) : bsz (badL a ++ r) = 0 := by
  match a with
  | 0 => rfl
  | 1 => rfl
  | 2 => rfl
  | 3 => rfl
  | a + 4 => rfl
theorem badE_ne (a : Nat) : badE a ≠ 0 := by
  match a with
  | 0 => decide
  | 1 => decide
  | 2 => decide
  | 3 => decide
  | a + 4 => exact (by decide : badE 4 ≠ 0)

theorem first_toks (ks : List Nat) (a b : Nat) (h : ks.length ≤ 20) : toks (chs ks ++ (badL a ++ (32 :: badL b))) = (badE a, []) := by
  have h1 := chs_len ks; have h2 := bad_len a; have h3 := bad_len b
  have hz := chs_bsz ks (badL a ++ (32 :: badL b)) (bad_bsz a _)
  obtain ⟨j, acc, e⟩ := chs_tk ks (badL a ++ (32 :: badL b)) 0 [] (bad_bsz a _)
  refine toks_err _ (badE a) [] (by simp only [List.length_append, List.length_cons]; omega) ?_ (badE_ne a)
  rw [hz, List.drop_zero, e, tk_bad _ _ _ (by simp only [List.length_append]; omega) (by rw [bad_e]; exact badE_ne a), bad_e]
end Sc
end Go.Proofs.YtaillpnjknnhdaaDoor
