/- ScanBounds: what the words of its sources come to. -/
import Derived.Test.YtaillpnjknnhdaaDoorLawA
namespace Go.Proofs.YtaillpnjknnhdaaDoor
open Go.RowKit
namespace Sc

theorem bsz_rep (n : Nat) : bsz (List.replicate n 32) = n := by
  induction n with
  | zero => rfl
  | succ n ih => rw [List.replicate_succ]; simp [bsz, ih, isB]
theorem toks_blanks (n : Nat) : (toks (List.replicate n 32)).1 = if 1500 < n then 4 else 0 := by
  unfold toks
  rw [List.length_replicate]
  split
  · rfl
  · have : toksRaw (List.replicate n 32) = (0, []) := by
      unfold toksRaw
      rw [bsz_rep]
      exact toksGo_nil _ _ _ _ (by simp)
    rw [this]; rfl

theorem fin0 (n : Nat) (h : n ≤ 3) : (toks ([] ++ List.replicate (1499 + n) 32 ++ [])).1 = if n ≤ 1 then 0 else 4 := by
  rw [List.nil_append, List.append_nil, toks_blanks]
  by_cases h1 : n ≤ 1
  · rw [if_pos h1, if_neg (by omega)]
  · rw [if_neg h1, if_pos (by omega)]
theorem fin1_0 : (toks ([] ++ List.replicate 15 113 ++ [])).1 = 0 := by kernel_rfl
theorem fin1_1 : (toks ([] ++ List.replicate 16 113 ++ [])).1 = 0 := by kernel_rfl
theorem fin1_2 : (toks ([] ++ List.replicate 17 113 ++ [])).1 = 4 := by kernel_rfl
theorem fin1_3 : (toks ([] ++ List.replicate 18 113 ++ [])).1 = 4 := by kernel_rfl
theorem fin1 (n : Nat) (h : n ≤ 3) : (toks ([] ++ List.replicate (15 + n) 113 ++ [])).1 = if n ≤ 1 then 0 else 4 :=
  match n, h with
  | 0, _ => fin1_0
  | 1, _ => fin1_1
  | 2, _ => fin1_2
  | 3, _ => fin1_3
theorem fin2_0 : (toks ([] ++ List.replicate 399 44 ++ [])).1 = 0 := by kernel_rfl
theorem fin2_1 : (toks ([] ++ List.replicate 400 44 ++ [])).1 = 0 := by kernel_rfl
theorem fin2_2 : (toks ([] ++ List.replicate 401 44 ++ [])).1 = 3 := by kernel_rfl
theorem fin2_3 : (toks ([] ++ List.replicate 402 44 ++ [])).1 = 3 := by kernel_rfl
theorem fin2 (n : Nat) (h : n ≤ 3) : (toks ([] ++ List.replicate (399 + n) 44 ++ [])).1 = if n ≤ 1 then 0 else 3 :=
  match n, h with
  | 0, _ => fin2_0
  | 1, _ => fin2_1
  | 2, _ => fin2_2
  | 3, _ => fin2_3
theorem fin3_0 : (toks ([34] ++ List.replicate 199 122 ++ [34])).1 = 0 := by kernel_rfl
theorem fin3_1 : (toks ([34] ++ List.replicate 200 122 ++ [34])).1 = 0 := by kernel_rfl
theorem fin3_2 : (toks ([34] ++ List.replicate 201 122 ++ [34])).1 = 4 := by kernel_rfl
theorem fin3_3 : (toks ([34] ++ List.replicate 202 122 ++ [34])).1 = 4 := by kernel_rfl
theorem fin3 (n : Nat) (h : n ≤ 3) : (toks ([34] ++ List.replicate (199 + n) 122 ++ [34])).1 = if n ≤ 1 then 0 else 4 :=
  match n, h with
  | 0, _ => fin3_0
  | 1, _ => fin3_1
  | 2, _ => fin3_2
  | 3, _ => fin3_3
end Sc
end Go.Proofs.YtaillpnjknnhdaaDoor
