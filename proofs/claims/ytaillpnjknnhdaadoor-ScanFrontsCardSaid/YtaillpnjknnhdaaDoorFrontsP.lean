/- ScanFronts: what the words of its sources come to. -/
import Derived.Test.YtaillpnjknnhdaaDoorTk
import Derived.KernelRfl
namespace Go.Proofs.YtaillpnjknnhdaaDoor
namespace Sc

def pcL : Nat → List UInt8
  | 0 => [97]
  | 1 => [98, 57]
  | 2 => [55]
  | 3 => [45, 55]
  | 4 => [34, 120, 32, 121, 34]
  | 5 => [45, 62]
  | 6 => [46]
  | 7 => [36]
  | _ => [123]
def pcT : Nat → Nat → T
  | 0, i => ⟨1, [97], 0, i⟩
  | 1, i => ⟨1, [98, 57], 0, i⟩
  | 2, i => ⟨3, [], 7, i⟩
  | 3, i => ⟨3, [], -7, i⟩
  | 4, i => ⟨2, [120, 32, 121], 0, i⟩
  | 5, i => ⟨4, [45, 62], 0, i⟩
  | 6, i => ⟨4, [46], 0, i⟩
  | 7, i => ⟨4, [36], 0, i⟩
  | _, i => ⟨4, [123], 0, i⟩

theorem pw0 (r : List UInt8) : wordW ([97] ++ ([32] ++ r)) = ⟨1, [97], 0, 1, 0⟩ := by kernel_rfl
theorem pw1 (r : List UInt8) : wordW ([98, 57] ++ ([32] ++ r)) = ⟨1, [98, 57], 0, 2, 0⟩ := by kernel_rfl
theorem pw2 (r : List UInt8) : wordW ([55] ++ ([32] ++ r)) = ⟨3, [], 7, 1, 0⟩ := by
  show numW (55 :: 32 :: r) = _
  rw [numW_plain _ _ (by decide)]
  kernel_rfl
theorem pw3 (r : List UInt8) : wordW ([45, 55] ++ ([32] ++ r)) = ⟨3, [], -7, 2, 0⟩ := by
  show numW (45 :: 55 :: 32 :: r) = _
  rw [numW_minus _ _ (by decide)]
  kernel_rfl
theorem pw4 (r : List UInt8) : wordW ([34, 120, 32, 121, 34] ++ ([32] ++ r)) = ⟨2, [120, 32, 121], 0, 5, 0⟩ := by kernel_rfl
theorem pw5 (r : List UInt8) : wordW ([45, 62] ++ ([32] ++ r)) = ⟨4, [45, 62], 0, 2, 0⟩ := by kernel_rfl
theorem pw6 (r : List UInt8) : wordW ([46] ++ ([32] ++ r)) = ⟨4, [46], 0, 1, 0⟩ := by kernel_rfl
theorem pw7 (r : List UInt8) : wordW ([36] ++ ([32] ++ r)) = ⟨4, [36], 0, 1, 0⟩ := by kernel_rfl
theorem pw8 (r : List UInt8) : wordW ([123] ++ ([32] ++ r)) = ⟨4, [123], 0, 1, 0⟩ := by kernel_rfl

theorem bsz_one (r : List UInt8) (h : bsz r = 0) : bsz ([32] ++ r) = [32].length := by
  show bsz (32 :: r) = 1; simp [bsz, isB, h]

theorem pc_step (k : Nat) (r : List UInt8) (i : Nat) (acc : List T) (hb : bsz r = 0) : tk (pcL k ++ ([32] ++ r)) i acc = tk r (i + (pcL k).length + 1) (acc ++ [pcT k i]) := by
  match k with
  | 0 => exact tk_word _ _ r i acc _ _ _ (by decide) (pw0 r) (bsz_one r hb)
  | 1 => exact tk_word _ _ r i acc _ _ _ (by decide) (pw1 r) (bsz_one r hb)
  | 2 => exact tk_word _ _ r i acc _ _ _ (by decide) (pw2 r) (bsz_one r hb)
  | 3 => exact tk_word _ _ r i acc _ _ _ (by decide) (pw3 r) (bsz_one r hb)
  | 4 => exact tk_word _ _ r i acc _ _ _ (by decide) (pw4 r) (bsz_one r hb)
  | 5 => exact tk_word _ _ r i acc _ _ _ (by decide) (pw5 r) (bsz_one r hb)
  | 6 => exact tk_word _ _ r i acc _ _ _ (by decide) (pw6 r) (bsz_one r hb)
  | 7 => exact tk_word _ _ r i acc _ _ _ (by decide) (pw7 r) (bsz_one r hb)
  | k + 8 => exact tk_word [123] [32] r i acc _ _ _ (by decide) (pw8 r) (bsz_one r hb)
theorem pc_bsz (k : Nat) (r : List UInt8) : bsz (pcL k ++ r) = 0 := by
  match k with
  | 0 => rfl
  | 1 => rfl
  | 2 => rfl
  | 3 => rfl
  | 4 => rfl
  | 5 => rfl
  | 6 => rfl
  | 7 => rfl
  | k + 8 => rfl
theorem pc_len (k : Nat) : (pcL k).length ≤ 5 := by
  match k with
  | 0 => decide
  | 1 => decide
  | 2 => decide
  | 3 => decide
  | 4 => decide
  | 5 => decide
  | 6 => decide
  | 7 => decide
  | k + 8 => exact (by decide : (pcL 8).length ≤ 5)

def allL (ks : List Nat) : List UInt8 := ks.flatMap fun k => pcL k ++ [32]
def allT : List Nat → Nat → List T
  | [], _ => []
  | k :: r, i => pcT k i :: allT r (i + (pcL k).length + 1)
theorem allL_cons (k : Nat) (r : List Nat) : allL (k :: r) = pcL k ++ ([32] ++ allL r) := by simp [allL]
theorem allL_snoc (ks : List Nat) (k : Nat) : allL (ks ++ [k]) = (allL ks ++ pcL k) ++ [32] := by simp [allL]
theorem allL_bsz (ks : List Nat) : bsz (allL ks) = 0 := by
  cases ks with
  | nil => rfl
  | cons k r => rw [allL_cons]; exact pc_bsz k _
theorem allL_len (ks : List Nat) : (allL ks).length ≤ 6 * ks.length := by
  induction ks with
  | nil => simp [allL]
  | cons k r ih => rw [allL_cons]; have := pc_len k; simp only [List.length_append, List.length_cons, List.length_nil]; omega
theorem allT_len (ks : List Nat) : ∀ i, (allT ks i).length = ks.length := by
  induction ks with
  | nil => intro i; rfl
  | cons k r ih => intro i; simp [allT, ih]
theorem allT_take (ks : List Nat) : ∀ (i k : Nat), allT (ks.take k) i = (allT ks i).take k := by
  induction ks with
  | nil => intro i k; simp [allT]
  | cons x r ih =>
    intro i k
    cases k with
    | zero => simp [allT]
    | succ k => simp [allT, ih]
theorem all_tk (ks : List Nat) : ∀ (i : Nat) (acc : List T), tk (allL ks) i acc = (0, acc ++ allT ks i) := by
  induction ks with
  | nil => intro i acc; simp [allT, allL, tk_nil]
  | cons k r ih =>
    intro i acc
    rw [allL_cons, pc_step k _ i acc (allL_bsz r), ih, allT]
    simp
theorem all_toks (ks : List Nat) (h : ks.length ≤ 30) : toks (allL ks) = (0, allT ks 0) := by
  refine toks_of _ _ (by have := allL_len ks; omega) ?_ (by rw [allT_len]; omega)
  rw [allL_bsz, List.drop_zero, all_tk]; rfl
end Sc
end Go.Proofs.YtaillpnjknnhdaaDoor
