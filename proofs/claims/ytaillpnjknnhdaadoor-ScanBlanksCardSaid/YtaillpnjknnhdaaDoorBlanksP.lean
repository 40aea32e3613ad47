/- ScanBlanks: what the words of its sources come to. Written by gen_blanksp.py. -/
import Derived.Test.YtaillpnjknnhdaaDoorTk
import Derived.KernelRfl
namespace Go.Proofs.YtaillpnjknnhdaaDoor
namespace Sc

def bzL : Nat → List UInt8
  | 0 => [97]
  | 1 => [105, 102]
  | 2 => [95, 120, 57]
  | 3 => [97, 98, 99, 100, 101, 102, 103, 104, 105, 106, 107, 108, 109, 110, 111, 112]
  | 4 => [97, 98, 99, 100, 101, 102, 103, 104, 105, 106, 107, 108, 109, 110, 111, 112, 113]
  | 5 => [48]
  | 6 => [55]
  | 7 => [45, 55]
  | 8 => [57, 50, 50, 51, 51, 55, 50, 48, 51, 54, 56, 53, 52, 55, 55, 53, 56, 48, 55]
  | 9 => [57, 50, 50, 51, 51, 55, 50, 48, 51, 54, 56, 53, 52, 55, 55, 53, 56, 48, 56]
  | 10 => [45, 57, 50, 50, 51, 51, 55, 50, 48, 51, 54, 56, 53, 52, 55, 55, 53, 56, 48, 56]
  | 11 => [45, 57, 50, 50, 51, 51, 55, 50, 48, 51, 54, 56, 53, 52, 55, 55, 53, 56, 48, 57]
  | 12 => [48, 48, 48, 48, 48, 48, 48, 48, 48, 48, 48, 48, 48, 48, 48, 48, 48, 48, 48, 49]
  | 13 => [48, 49]
  | 14 => [45, 62]
  | 15 => [58, 61]
  | 16 => [123]
  | 17 => [125]
  | 18 => [60]
  | 19 => [62]
  | 20 => [44]
  | 21 => [58]
  | 22 => [40]
  | 23 => [41]
  | 24 => [46]
  | 25 => [36]
  | 26 => [124]
  | 27 => [61]
  | 28 => [59]
  | 29 => [34, 34]
  | 30 => [34, 97, 32, 98, 34]
  | 31 => [34, 92, 92, 92, 34, 92, 110, 92, 116, 34]
  | 32 => [34, 255, 34]
  | 33 => [34]
  | 34 => [34, 92, 120, 34]
  | 35 => [34, 10, 34]
  | 36 => [45]
  | 37 => [43]
  | 38 => [35]
  | _ => [57, 97]
def bzT : Nat → List T
  | 0 => [⟨1, [97], 0, 0⟩]
  | 1 => [⟨1, [105, 102], 0, 0⟩]
  | 2 => [⟨1, [95, 120, 57], 0, 0⟩]
  | 3 => [⟨1, [97, 98, 99, 100, 101, 102, 103, 104, 105, 106, 107, 108, 109, 110, 111, 112], 0, 0⟩]
  | 5 => [⟨3, [], 0, 0⟩]
  | 6 => [⟨3, [], 7, 0⟩]
  | 7 => [⟨3, [], -7, 0⟩]
  | 8 => [⟨3, [], 9223372036854775807, 0⟩]
  | 10 => [⟨3, [], -9223372036854775808, 0⟩]
  | 13 => [⟨3, [], 1, 0⟩]
  | 14 => [⟨4, [45, 62], 0, 0⟩]
  | 15 => [⟨4, [58, 61], 0, 0⟩]
  | 16 => [⟨4, [123], 0, 0⟩]
  | 17 => [⟨4, [125], 0, 0⟩]
  | 18 => [⟨4, [60], 0, 0⟩]
  | 19 => [⟨4, [62], 0, 0⟩]
  | 20 => [⟨4, [44], 0, 0⟩]
  | 21 => [⟨4, [58], 0, 0⟩]
  | 22 => [⟨4, [40], 0, 0⟩]
  | 23 => [⟨4, [41], 0, 0⟩]
  | 24 => [⟨4, [46], 0, 0⟩]
  | 25 => [⟨4, [36], 0, 0⟩]
  | 26 => [⟨4, [124], 0, 0⟩]
  | 27 => [⟨4, [61], 0, 0⟩]
  | 28 => [⟨4, [59], 0, 0⟩]
  | 29 => [⟨2, [], 0, 0⟩]
  | 30 => [⟨2, [97, 32, 98], 0, 0⟩]
  | 31 => [⟨2, [92, 34, 10, 9], 0, 0⟩]
  | 32 => [⟨2, [255], 0, 0⟩]
  | _ => [⟨3, [], 9, 0⟩, ⟨1, [97], 0, 1⟩]
def Bd (r : List UInt8) : Prop := r = [] ∨ ∃ c t, r = c :: t ∧ isB c = true
theorem Bd.cases {r : List UInt8} {P : List UInt8 → Prop} (h : Bd r) (h0 : P []) (h1 : ∀ t, P (32 :: t)) (h2 : ∀ t, P (9 :: t)) (h3 : ∀ t, P (10 :: t)) (h4 : ∀ t, P (13 :: t)) : P r := by
  rcases h with rfl | ⟨c, t, rfl, hc⟩
  · exact h0
  · unfold isB at hc
    simp only [Bool.or_eq_true, decide_eq_true_eq] at hc
    rcases hc with ((e | e) | e) | e
    · rw [show c = 32 from UInt8.toNat_inj.1 e]; exact h1 t
    · rw [show c = 9 from UInt8.toNat_inj.1 e]; exact h2 t
    · rw [show c = 10 from UInt8.toNat_inj.1 e]; exact h3 t
    · rw [show c = 13 from UInt8.toNat_inj.1 e]; exact h4 t

theorem bw0 (r : List UInt8) (h : Bd r) : wordW ([97] ++ r) = ⟨1, [97], 0, 1, 0⟩ := by
  refine h.cases (P := fun r => wordW ([97] ++ r) = ⟨1, [97], 0, 1, 0⟩) ?_ ?_ ?_ ?_ ?_
  · kernel_rfl
  · intro t; kernel_rfl
  · intro t; kernel_rfl
  · intro t; kernel_rfl
  · intro t; kernel_rfl
theorem bw1 (r : List UInt8) (h : Bd r) : wordW ([105, 102] ++ r) = ⟨1, [105, 102], 0, 2, 0⟩ := by
  refine h.cases (P := fun r => wordW ([105, 102] ++ r) = ⟨1, [105, 102], 0, 2, 0⟩) ?_ ?_ ?_ ?_ ?_
  · kernel_rfl
  · intro t; kernel_rfl
  · intro t; kernel_rfl
  · intro t; kernel_rfl
  · intro t; kernel_rfl
theorem bw2 (r : List UInt8) (h : Bd r) : wordW ([95, 120, 57] ++ r) = ⟨1, [95, 120, 57], 0, 3, 0⟩ := by
  refine h.cases (P := fun r => wordW ([95, 120, 57] ++ r) = ⟨1, [95, 120, 57], 0, 3, 0⟩) ?_ ?_ ?_ ?_ ?_
  · kernel_rfl
  · intro t; kernel_rfl
  · intro t; kernel_rfl
  · intro t; kernel_rfl
  · intro t; kernel_rfl
theorem bw3 (r : List UInt8) (h : Bd r) : wordW ([97, 98, 99, 100, 101, 102, 103, 104, 105, 106, 107, 108, 109, 110, 111, 112] ++ r) = ⟨1, [97, 98, 99, 100, 101, 102, 103, 104, 105, 106, 107, 108, 109, 110, 111, 112], 0, 16, 0⟩ := by
  refine h.cases (P := fun r => wordW ([97, 98, 99, 100, 101, 102, 103, 104, 105, 106, 107, 108, 109, 110, 111, 112] ++ r) = ⟨1, [97, 98, 99, 100, 101, 102, 103, 104, 105, 106, 107, 108, 109, 110, 111, 112], 0, 16, 0⟩) ?_ ?_ ?_ ?_ ?_
  · kernel_rfl
  · intro t; kernel_rfl
  · intro t; kernel_rfl
  · intro t; kernel_rfl
  · intro t; kernel_rfl
theorem bw5 (r : List UInt8) (h : Bd r) : wordW ([48] ++ r) = ⟨3, [], 0, 1, 0⟩ := by
  refine h.cases (P := fun r => wordW ([48] ++ r) = ⟨3, [], 0, 1, 0⟩) ?_ ?_ ?_ ?_ ?_
  · show numW (48 :: []) = _; rw [numW_plain _ _ (by decide)]; kernel_rfl
  · intro t; show numW (48 :: 32 :: t) = _; rw [numW_plain _ _ (by decide)]; kernel_rfl
  · intro t; show numW (48 :: 9 :: t) = _; rw [numW_plain _ _ (by decide)]; kernel_rfl
  · intro t; show numW (48 :: 10 :: t) = _; rw [numW_plain _ _ (by decide)]; kernel_rfl
  · intro t; show numW (48 :: 13 :: t) = _; rw [numW_plain _ _ (by decide)]; kernel_rfl
theorem bw6 (r : List UInt8) (h : Bd r) : wordW ([55] ++ r) = ⟨3, [], 7, 1, 0⟩ := by
  refine h.cases (P := fun r => wordW ([55] ++ r) = ⟨3, [], 7, 1, 0⟩) ?_ ?_ ?_ ?_ ?_
  · show numW (55 :: []) = _; rw [numW_plain _ _ (by decide)]; kernel_rfl
  · intro t; show numW (55 :: 32 :: t) = _; rw [numW_plain _ _ (by decide)]; kernel_rfl
  · intro t; show numW (55 :: 9 :: t) = _; rw [numW_plain _ _ (by decide)]; kernel_rfl
  · intro t; show numW (55 :: 10 :: t) = _; rw [numW_plain _ _ (by decide)]; kernel_rfl
  · intro t; show numW (55 :: 13 :: t) = _; rw [numW_plain _ _ (by decide)]; kernel_rfl
theorem bw7 (r : List UInt8) (h : Bd r) : wordW ([45, 55] ++ r) = ⟨3, [], -7, 2, 0⟩ := by
  refine h.cases (P := fun r => wordW ([45, 55] ++ r) = ⟨3, [], -7, 2, 0⟩) ?_ ?_ ?_ ?_ ?_
  · show numW (45 :: 55 :: []) = _; rw [numW_minus _ _ (by decide)]; kernel_rfl
  · intro t; show numW (45 :: 55 :: 32 :: t) = _; rw [numW_minus _ _ (by decide)]; kernel_rfl
  · intro t; show numW (45 :: 55 :: 9 :: t) = _; rw [numW_minus _ _ (by decide)]; kernel_rfl
  · intro t; show numW (45 :: 55 :: 10 :: t) = _; rw [numW_minus _ _ (by decide)]; kernel_rfl
  · intro t; show numW (45 :: 55 :: 13 :: t) = _; rw [numW_minus _ _ (by decide)]; kernel_rfl
theorem bw8 (r : List UInt8) (h : Bd r) : wordW ([57, 50, 50, 51, 51, 55, 50, 48, 51, 54, 56, 53, 52, 55, 55, 53, 56, 48, 55] ++ r) = ⟨3, [], 9223372036854775807, 19, 0⟩ := by
  refine h.cases (P := fun r => wordW ([57, 50, 50, 51, 51, 55, 50, 48, 51, 54, 56, 53, 52, 55, 55, 53, 56, 48, 55] ++ r) = ⟨3, [], 9223372036854775807, 19, 0⟩) ?_ ?_ ?_ ?_ ?_
  · show numW (57 :: 50 :: 50 :: 51 :: 51 :: 55 :: 50 :: 48 :: 51 :: 54 :: 56 :: 53 :: 52 :: 55 :: 55 :: 53 :: 56 :: 48 :: 55 :: []) = _; rw [numW_plain _ _ (by decide)]; kernel_rfl
  · intro t; show numW (57 :: 50 :: 50 :: 51 :: 51 :: 55 :: 50 :: 48 :: 51 :: 54 :: 56 :: 53 :: 52 :: 55 :: 55 :: 53 :: 56 :: 48 :: 55 :: 32 :: t) = _; rw [numW_plain _ _ (by decide)]; kernel_rfl
  · intro t; show numW (57 :: 50 :: 50 :: 51 :: 51 :: 55 :: 50 :: 48 :: 51 :: 54 :: 56 :: 53 :: 52 :: 55 :: 55 :: 53 :: 56 :: 48 :: 55 :: 9 :: t) = _; rw [numW_plain _ _ (by decide)]; kernel_rfl
  · intro t; show numW (57 :: 50 :: 50 :: 51 :: 51 :: 55 :: 50 :: 48 :: 51 :: 54 :: 56 :: 53 :: 52 :: 55 :: 55 :: 53 :: 56 :: 48 :: 55 :: 10 :: t) = _; rw [numW_plain _ _ (by decide)]; kernel_rfl
  · intro t; show numW (57 :: 50 :: 50 :: 51 :: 51 :: 55 :: 50 :: 48 :: 51 :: 54 :: 56 :: 53 :: 52 :: 55 :: 55 :: 53 :: 56 :: 48 :: 55 :: 13 :: t) = _; rw [numW_plain _ _ (by decide)]; kernel_rfl
theorem bw10 (r : List UInt8) (h : Bd r) : wordW ([45, 57, 50, 50, 51, 51, 55, 50, 48, 51, 54, 56, 53, 52, 55, 55, 53, 56, 48, 56] ++ r) = ⟨3, [], -9223372036854775808, 20, 0⟩ := by
  refine h.cases (P := fun r => wordW ([45, 57, 50, 50, 51, 51, 55, 50, 48, 51, 54, 56, 53, 52, 55, 55, 53, 56, 48, 56] ++ r) = ⟨3, [], -9223372036854775808, 20, 0⟩) ?_ ?_ ?_ ?_ ?_
  · show numW (45 :: 57 :: 50 :: 50 :: 51 :: 51 :: 55 :: 50 :: 48 :: 51 :: 54 :: 56 :: 53 :: 52 :: 55 :: 55 :: 53 :: 56 :: 48 :: 56 :: []) = _; rw [numW_minus _ _ (by decide)]; kernel_rfl
  · intro t; show numW (45 :: 57 :: 50 :: 50 :: 51 :: 51 :: 55 :: 50 :: 48 :: 51 :: 54 :: 56 :: 53 :: 52 :: 55 :: 55 :: 53 :: 56 :: 48 :: 56 :: 32 :: t) = _; rw [numW_minus _ _ (by decide)]; kernel_rfl
  · intro t; show numW (45 :: 57 :: 50 :: 50 :: 51 :: 51 :: 55 :: 50 :: 48 :: 51 :: 54 :: 56 :: 53 :: 52 :: 55 :: 55 :: 53 :: 56 :: 48 :: 56 :: 9 :: t) = _; rw [numW_minus _ _ (by decide)]; kernel_rfl
  · intro t; show numW (45 :: 57 :: 50 :: 50 :: 51 :: 51 :: 55 :: 50 :: 48 :: 51 :: 54 :: 56 :: 53 :: 52 :: 55 :: 55 :: 53 :: 56 :: 48 :: 56 :: 10 :: t) = _; rw [numW_minus _ _ (by decide)]; kernel_rfl
  · intro t; show numW (45 :: 57 :: 50 :: 50 :: 51 :: 51 :: 55 :: 50 :: 48 :: 51 :: 54 :: 56 :: 53 :: 52 :: 55 :: 55 :: 53 :: 56 :: 48 :: 56 :: 13 :: t) = _; rw [numW_minus _ _ (by decide)]; kernel_rfl
theorem bw13 (r : List UInt8) (h : Bd r) : wordW ([48, 49] ++ r) = ⟨3, [], 1, 2, 0⟩ := by
  refine h.cases (P := fun r => wordW ([48, 49] ++ r) = ⟨3, [], 1, 2, 0⟩) ?_ ?_ ?_ ?_ ?_
  · show numW (48 :: 49 :: []) = _; rw [numW_plain _ _ (by decide)]; kernel_rfl
  · intro t; show numW (48 :: 49 :: 32 :: t) = _; rw [numW_plain _ _ (by decide)]; kernel_rfl
  · intro t; show numW (48 :: 49 :: 9 :: t) = _; rw [numW_plain _ _ (by decide)]; kernel_rfl
  · intro t; show numW (48 :: 49 :: 10 :: t) = _; rw [numW_plain _ _ (by decide)]; kernel_rfl
  · intro t; show numW (48 :: 49 :: 13 :: t) = _; rw [numW_plain _ _ (by decide)]; kernel_rfl
theorem bw14 (r : List UInt8) (h : Bd r) : wordW ([45, 62] ++ r) = ⟨4, [45, 62], 0, 2, 0⟩ := by
  refine h.cases (P := fun r => wordW ([45, 62] ++ r) = ⟨4, [45, 62], 0, 2, 0⟩) ?_ ?_ ?_ ?_ ?_
  · kernel_rfl
  · intro t; kernel_rfl
  · intro t; kernel_rfl
  · intro t; kernel_rfl
  · intro t; kernel_rfl
theorem bw15 (r : List UInt8) (h : Bd r) : wordW ([58, 61] ++ r) = ⟨4, [58, 61], 0, 2, 0⟩ := by
  refine h.cases (P := fun r => wordW ([58, 61] ++ r) = ⟨4, [58, 61], 0, 2, 0⟩) ?_ ?_ ?_ ?_ ?_
  · kernel_rfl
  · intro t; kernel_rfl
  · intro t; kernel_rfl
  · intro t; kernel_rfl
  · intro t; kernel_rfl
theorem bw16 (r : List UInt8) (h : Bd r) : wordW ([123] ++ r) = ⟨4, [123], 0, 1, 0⟩ := by
  refine h.cases (P := fun r => wordW ([123] ++ r) = ⟨4, [123], 0, 1, 0⟩) ?_ ?_ ?_ ?_ ?_
  · kernel_rfl
  · intro t; kernel_rfl
  · intro t; kernel_rfl
  · intro t; kernel_rfl
  · intro t; kernel_rfl
theorem bw17 (r : List UInt8) (h : Bd r) : wordW ([125] ++ r) = ⟨4, [125], 0, 1, 0⟩ := by
  refine h.cases (P := fun r => wordW ([125] ++ r) = ⟨4, [125], 0, 1, 0⟩) ?_ ?_ ?_ ?_ ?_
  · kernel_rfl
  · intro t; kernel_rfl
  · intro t; kernel_rfl
  · intro t; kernel_rfl
  · intro t; kernel_rfl
theorem bw18 (r : List UInt8) (h : Bd r) : wordW ([60] ++ r) = ⟨4, [60], 0, 1, 0⟩ := by
  refine h.cases (P := fun r => wordW ([60] ++ r) = ⟨4, [60], 0, 1, 0⟩) ?_ ?_ ?_ ?_ ?_
  · kernel_rfl
  · intro t; kernel_rfl
  · intro t; kernel_rfl
  · intro t; kernel_rfl
  · intro t; kernel_rfl
theorem bw19 (r : List UInt8) (h : Bd r) : wordW ([62] ++ r) = ⟨4, [62], 0, 1, 0⟩ := by
  refine h.cases (P := fun r => wordW ([62] ++ r) = ⟨4, [62], 0, 1, 0⟩) ?_ ?_ ?_ ?_ ?_
  · kernel_rfl
  · intro t; kernel_rfl
  · intro t; kernel_rfl
  · intro t; kernel_rfl
  · intro t; kernel_rfl
theorem bw20 (r : List UInt8) (h : Bd r) : wordW ([44] ++ r) = ⟨4, [44], 0, 1, 0⟩ := by
  refine h.cases (P := fun r => wordW ([44] ++ r) = ⟨4, [44], 0, 1, 0⟩) ?_ ?_ ?_ ?_ ?_
  · kernel_rfl
  · intro t; kernel_rfl
  · intro t; kernel_rfl
  · intro t; kernel_rfl
  · intro t; kernel_rfl
theorem bw21 (r : List UInt8) (h : Bd r) : wordW ([58] ++ r) = ⟨4, [58], 0, 1, 0⟩ := by
  refine h.cases (P := fun r => wordW ([58] ++ r) = ⟨4, [58], 0, 1, 0⟩) ?_ ?_ ?_ ?_ ?_
  · kernel_rfl
  · intro t; kernel_rfl
  · intro t; kernel_rfl
  · intro t; kernel_rfl
  · intro t; kernel_rfl
theorem bw22 (r : List UInt8) (h : Bd r) : wordW ([40] ++ r) = ⟨4, [40], 0, 1, 0⟩ := by
  refine h.cases (P := fun r => wordW ([40] ++ r) = ⟨4, [40], 0, 1, 0⟩) ?_ ?_ ?_ ?_ ?_
  · kernel_rfl
  · intro t; kernel_rfl
  · intro t; kernel_rfl
  · intro t; kernel_rfl
  · intro t; kernel_rfl
theorem bw23 (r : List UInt8) (h : Bd r) : wordW ([41] ++ r) = ⟨4, [41], 0, 1, 0⟩ := by
  refine h.cases (P := fun r => wordW ([41] ++ r) = ⟨4, [41], 0, 1, 0⟩) ?_ ?_ ?_ ?_ ?_
  · kernel_rfl
  · intro t; kernel_rfl
  · intro t; kernel_rfl
  · intro t; kernel_rfl
  · intro t; kernel_rfl
theorem bw24 (r : List UInt8) (h : Bd r) : wordW ([46] ++ r) = ⟨4, [46], 0, 1, 0⟩ := by
  refine h.cases (P := fun r => wordW ([46] ++ r) = ⟨4, [46], 0, 1, 0⟩) ?_ ?_ ?_ ?_ ?_
  · kernel_rfl
  · intro t; kernel_rfl
  · intro t; kernel_rfl
  · intro t; kernel_rfl
  · intro t; kernel_rfl
theorem bw25 (r : List UInt8) (h : Bd r) : wordW ([36] ++ r) = ⟨4, [36], 0, 1, 0⟩ := by
  refine h.cases (P := fun r => wordW ([36] ++ r) = ⟨4, [36], 0, 1, 0⟩) ?_ ?_ ?_ ?_ ?_
  · kernel_rfl
  · intro t; kernel_rfl
  · intro t; kernel_rfl
  · intro t; kernel_rfl
  · intro t; kernel_rfl
theorem bw26 (r : List UInt8) (h : Bd r) : wordW ([124] ++ r) = ⟨4, [124], 0, 1, 0⟩ := by
  refine h.cases (P := fun r => wordW ([124] ++ r) = ⟨4, [124], 0, 1, 0⟩) ?_ ?_ ?_ ?_ ?_
  · kernel_rfl
  · intro t; kernel_rfl
  · intro t; kernel_rfl
  · intro t; kernel_rfl
  · intro t; kernel_rfl
theorem bw27 (r : List UInt8) (h : Bd r) : wordW ([61] ++ r) = ⟨4, [61], 0, 1, 0⟩ := by
  refine h.cases (P := fun r => wordW ([61] ++ r) = ⟨4, [61], 0, 1, 0⟩) ?_ ?_ ?_ ?_ ?_
  · kernel_rfl
  · intro t; kernel_rfl
  · intro t; kernel_rfl
  · intro t; kernel_rfl
  · intro t; kernel_rfl
theorem bw28 (r : List UInt8) (h : Bd r) : wordW ([59] ++ r) = ⟨4, [59], 0, 1, 0⟩ := by
  refine h.cases (P := fun r => wordW ([59] ++ r) = ⟨4, [59], 0, 1, 0⟩) ?_ ?_ ?_ ?_ ?_
  · kernel_rfl
  · intro t; kernel_rfl
  · intro t; kernel_rfl
  · intro t; kernel_rfl
  · intro t; kernel_rfl
theorem bw29 (r : List UInt8) (h : Bd r) : wordW ([34, 34] ++ r) = ⟨2, [], 0, 2, 0⟩ := by
  refine h.cases (P := fun r => wordW ([34, 34] ++ r) = ⟨2, [], 0, 2, 0⟩) ?_ ?_ ?_ ?_ ?_
  · kernel_rfl
  · intro t; kernel_rfl
  · intro t; kernel_rfl
  · intro t; kernel_rfl
  · intro t; kernel_rfl
theorem bw30 (r : List UInt8) (h : Bd r) : wordW ([34, 97, 32, 98, 34] ++ r) = ⟨2, [97, 32, 98], 0, 5, 0⟩ := by
  refine h.cases (P := fun r => wordW ([34, 97, 32, 98, 34] ++ r) = ⟨2, [97, 32, 98], 0, 5, 0⟩) ?_ ?_ ?_ ?_ ?_
  · kernel_rfl
  · intro t; kernel_rfl
  · intro t; kernel_rfl
  · intro t; kernel_rfl
  · intro t; kernel_rfl
theorem bw31 (r : List UInt8) (h : Bd r) : wordW ([34, 92, 92, 92, 34, 92, 110, 92, 116, 34] ++ r) = ⟨2, [92, 34, 10, 9], 0, 10, 0⟩ := by
  refine h.cases (P := fun r => wordW ([34, 92, 92, 92, 34, 92, 110, 92, 116, 34] ++ r) = ⟨2, [92, 34, 10, 9], 0, 10, 0⟩) ?_ ?_ ?_ ?_ ?_
  · kernel_rfl
  · intro t; kernel_rfl
  · intro t; kernel_rfl
  · intro t; kernel_rfl
  · intro t; kernel_rfl
theorem bw32 (r : List UInt8) (h : Bd r) : wordW ([34, 255, 34] ++ r) = ⟨2, [255], 0, 3, 0⟩ := by
  refine h.cases (P := fun r => wordW ([34, 255, 34] ++ r) = ⟨2, [255], 0, 3, 0⟩) ?_ ?_ ?_ ?_ ?_
  · kernel_rfl
  · intro t; kernel_rfl
  · intro t; kernel_rfl
  · intro t; kernel_rfl
  · intro t; kernel_rfl
theorem bw39 (r : List UInt8) : wordW ([57] ++ ([] ++ ([97] ++ r))) = ⟨3, [], 9, 1, 0⟩ := by
  show numW (57 :: 97 :: r) = _; rw [numW_plain _ _ (by decide)]; kernel_rfl

/-- A word ahead of blanks, or of the end. -/
theorem tk_bd (u r : List UInt8) (i : Nat) (acc : List T) (k : Nat) (t : List UInt8) (n : Int) (hu : 0 < u.length) (hw : wordW (u ++ r) = ⟨k, t, n, u.length, 0⟩) :
    tk (u ++ r) i acc = tk (r.drop (bsz r)) (i + u.length + bsz r) (acc ++ [⟨k, t, n, i⟩]) := by
  unfold tk
  have h0 : (u ++ r).length ≠ 0 := by rw [List.length_append]; omega
  rw [toksGo_word _ _ _ _ h0 (by rw [hw])]
  rw [hw]
  simp only [List.drop_left]
  have := bsz_le r
  exact toksGo_fuel _ _ _ _ _ _ (Nat.le_refl _) (by simp only [List.length_append, List.length_drop]; omega) (by omega)

def shiftT (i : Nat) (ts : List T) : List T := ts.map fun t => ⟨t.kind, t.text, t.n, i + t.at_⟩
def bzGood (n : Nat) : Bool := [0, 1, 2, 3, 5, 6, 7, 8, 10, 13, 14, 15, 16, 17, 18, 19, 20, 21, 22, 23, 24, 25, 26, 27, 28, 29, 30, 31, 32, 39].contains n
theorem bz_step (n : Nat) (hn : n < 40) (hg : bzGood n = true) (r : List UInt8) (hr : Bd r) (i : Nat) (acc : List T) :
    tk (bzL n ++ r) i acc = tk (r.drop (bsz r)) (i + (bzL n).length + bsz r) (acc ++ shiftT i (bzT n)) := by
  match n, hn, hg with
  | 0, _, _ => exact tk_bd [97] r i acc _ _ _ (by decide) (bw0 r hr)
  | 1, _, _ => exact tk_bd [105, 102] r i acc _ _ _ (by decide) (bw1 r hr)
  | 2, _, _ => exact tk_bd [95, 120, 57] r i acc _ _ _ (by decide) (bw2 r hr)
  | 3, _, _ => exact tk_bd [97, 98, 99, 100, 101, 102, 103, 104, 105, 106, 107, 108, 109, 110, 111, 112] r i acc _ _ _ (by decide) (bw3 r hr)
  | 4, _, h => exact absurd h (by decide)
  | 5, _, _ => exact tk_bd [48] r i acc _ _ _ (by decide) (bw5 r hr)
  | 6, _, _ => exact tk_bd [55] r i acc _ _ _ (by decide) (bw6 r hr)
  | 7, _, _ => exact tk_bd [45, 55] r i acc _ _ _ (by decide) (bw7 r hr)
  | 8, _, _ => exact tk_bd [57, 50, 50, 51, 51, 55, 50, 48, 51, 54, 56, 53, 52, 55, 55, 53, 56, 48, 55] r i acc _ _ _ (by decide) (bw8 r hr)
  | 9, _, h => exact absurd h (by decide)
  | 10, _, _ => exact tk_bd [45, 57, 50, 50, 51, 51, 55, 50, 48, 51, 54, 56, 53, 52, 55, 55, 53, 56, 48, 56] r i acc _ _ _ (by decide) (bw10 r hr)
  | 11, _, h => exact absurd h (by decide)
  | 12, _, h => exact absurd h (by decide)
  | 13, _, _ => exact tk_bd [48, 49] r i acc _ _ _ (by decide) (bw13 r hr)
  | 14, _, _ => exact tk_bd [45, 62] r i acc _ _ _ (by decide) (bw14 r hr)
  | 15, _, _ => exact tk_bd [58, 61] r i acc _ _ _ (by decide) (bw15 r hr)
  | 16, _, _ => exact tk_bd [123] r i acc _ _ _ (by decide) (bw16 r hr)
  | 17, _, _ => exact tk_bd [125] r i acc _ _ _ (by decide) (bw17 r hr)
  | 18, _, _ => exact tk_bd [60] r i acc _ _ _ (by decide) (bw18 r hr)
  | 19, _, _ => exact tk_bd [62] r i acc _ _ _ (by decide) (bw19 r hr)
  | 20, _, _ => exact tk_bd [44] r i acc _ _ _ (by decide) (bw20 r hr)
  | 21, _, _ => exact tk_bd [58] r i acc _ _ _ (by decide) (bw21 r hr)
  | 22, _, _ => exact tk_bd [40] r i acc _ _ _ (by decide) (bw22 r hr)
  | 23, _, _ => exact tk_bd [41] r i acc _ _ _ (by decide) (bw23 r hr)
  | 24, _, _ => exact tk_bd [46] r i acc _ _ _ (by decide) (bw24 r hr)
  | 25, _, _ => exact tk_bd [36] r i acc _ _ _ (by decide) (bw25 r hr)
  | 26, _, _ => exact tk_bd [124] r i acc _ _ _ (by decide) (bw26 r hr)
  | 27, _, _ => exact tk_bd [61] r i acc _ _ _ (by decide) (bw27 r hr)
  | 28, _, _ => exact tk_bd [59] r i acc _ _ _ (by decide) (bw28 r hr)
  | 29, _, _ => exact tk_bd [34, 34] r i acc _ _ _ (by decide) (bw29 r hr)
  | 30, _, _ => exact tk_bd [34, 97, 32, 98, 34] r i acc _ _ _ (by decide) (bw30 r hr)
  | 31, _, _ => exact tk_bd [34, 92, 92, 92, 34, 92, 110, 92, 116, 34] r i acc _ _ _ (by decide) (bw31 r hr)
  | 32, _, _ => exact tk_bd [34, 255, 34] r i acc _ _ _ (by decide) (bw32 r hr)
  | 33, _, h => exact absurd h (by decide)
  | 34, _, h => exact absurd h (by decide)
  | 35, _, h => exact absurd h (by decide)
  | 36, _, h => exact absurd h (by decide)
  | 37, _, h => exact absurd h (by decide)
  | 38, _, h => exact absurd h (by decide)
  | 39, _, _ =>
    show tk ([57] ++ ([] ++ ([97] ++ r))) i acc = _
    rw [tk_word [57] [] ([97] ++ r) i acc _ _ _ (by decide) (bw39 r) rfl]
    rw [tk_bd [97] r _ _ _ _ _ (by decide) (bw0 r hr), List.append_assoc]
    rfl
  | n + 40, h, _ => exact absurd h (by omega)
theorem bz_bsz (n : Nat) (hn : n < 40) (r : List UInt8) : bsz (bzL n ++ r) = 0 := by
  match n, hn with
  | 0, _ => rfl
  | 1, _ => rfl
  | 2, _ => rfl
  | 3, _ => rfl
  | 4, _ => rfl
  | 5, _ => rfl
  | 6, _ => rfl
  | 7, _ => rfl
  | 8, _ => rfl
  | 9, _ => rfl
  | 10, _ => rfl
  | 11, _ => rfl
  | 12, _ => rfl
  | 13, _ => rfl
  | 14, _ => rfl
  | 15, _ => rfl
  | 16, _ => rfl
  | 17, _ => rfl
  | 18, _ => rfl
  | 19, _ => rfl
  | 20, _ => rfl
  | 21, _ => rfl
  | 22, _ => rfl
  | 23, _ => rfl
  | 24, _ => rfl
  | 25, _ => rfl
  | 26, _ => rfl
  | 27, _ => rfl
  | 28, _ => rfl
  | 29, _ => rfl
  | 30, _ => rfl
  | 31, _ => rfl
  | 32, _ => rfl
  | 33, _ => rfl
  | 34, _ => rfl
  | 35, _ => rfl
  | 36, _ => rfl
  | 37, _ => rfl
  | 38, _ => rfl
  | 39, _ => rfl
  | n + 40, h => exact absurd h (by omega)
theorem bz_len (n : Nat) (hn : n < 40) : (bzL n).length ≤ 20 ∧ (bzT n).length ≤ 2 := by
  have h : ∀ k : Fin 40, (bzL k.1).length ≤ 20 ∧ (bzT k.1).length ≤ 2 := by decide
  exact h ⟨n, hn⟩
theorem dec_eq {p : Prop} [Decidable p] {b : Bool} (e : decide p = b) : p = (b = true) := by rw [← e]; simp
theorem bz_good (n : Nat) (hn : n < 40) : ((toks (bzL n)).1 = 0) = (bzGood n = true) := by
  match n, hn with
  | 0, _ => exact dec_eq (by kernel_rfl)
  | 1, _ => exact dec_eq (by kernel_rfl)
  | 2, _ => exact dec_eq (by kernel_rfl)
  | 3, _ => exact dec_eq (by kernel_rfl)
  | 4, _ => exact dec_eq (by kernel_rfl)
  | 5, _ => exact dec_eq (by kernel_rfl)
  | 6, _ => exact dec_eq (by kernel_rfl)
  | 7, _ => exact dec_eq (by kernel_rfl)
  | 8, _ => exact dec_eq (by kernel_rfl)
  | 9, _ => exact dec_eq (by kernel_rfl)
  | 10, _ => exact dec_eq (by kernel_rfl)
  | 11, _ => exact dec_eq (by kernel_rfl)
  | 12, _ => exact dec_eq (by kernel_rfl)
  | 13, _ => exact dec_eq (by kernel_rfl)
  | 14, _ => exact dec_eq (by kernel_rfl)
  | 15, _ => exact dec_eq (by kernel_rfl)
  | 16, _ => exact dec_eq (by kernel_rfl)
  | 17, _ => exact dec_eq (by kernel_rfl)
  | 18, _ => exact dec_eq (by kernel_rfl)
  | 19, _ => exact dec_eq (by kernel_rfl)
  | 20, _ => exact dec_eq (by kernel_rfl)
  | 21, _ => exact dec_eq (by kernel_rfl)
  | 22, _ => exact dec_eq (by kernel_rfl)
  | 23, _ => exact dec_eq (by kernel_rfl)
  | 24, _ => exact dec_eq (by kernel_rfl)
  | 25, _ => exact dec_eq (by kernel_rfl)
  | 26, _ => exact dec_eq (by kernel_rfl)
  | 27, _ => exact dec_eq (by kernel_rfl)
  | 28, _ => exact dec_eq (by kernel_rfl)
  | 29, _ => exact dec_eq (by kernel_rfl)
  | 30, _ => exact dec_eq (by kernel_rfl)
  | 31, _ => exact dec_eq (by kernel_rfl)
  | 32, _ => exact dec_eq (by kernel_rfl)
  | 33, _ => exact dec_eq (by kernel_rfl)
  | 34, _ => exact dec_eq (by kernel_rfl)
  | 35, _ => exact dec_eq (by kernel_rfl)
  | 36, _ => exact dec_eq (by kernel_rfl)
  | 37, _ => exact dec_eq (by kernel_rfl)
  | 38, _ => exact dec_eq (by kernel_rfl)
  | 39, _ => exact dec_eq (by kernel_rfl)
  | n + 40, h => exact absurd h (by omega)

/-- Rounds: blanks, a piece, blanks. -/
structure Rd where
  p : List UInt8
  n : Nat
  q : List UInt8
def tot (ks : List Rd) : List UInt8 := ks.flatMap fun x => x.p ++ (bzL x.n ++ x.q)
def totT : List Rd → Nat → List T
  | [], _ => []
  | x :: r, i => shiftT (i + x.p.length) (bzT x.n) ++ totT r (i + x.p.length + (bzL x.n).length + x.q.length)
def allB (l : List UInt8) : Prop := ∀ c ∈ l, isB c = true
def RdOk (x : Rd) : Prop := allB x.p ∧ allB x.q ∧ x.n < 40 ∧ bzGood x.n = true
theorem bsz_blank (l r : List UInt8) (h : allB l) : bsz (l ++ r) = l.length + bsz r := by
  induction l with
  | nil => simp
  | cons c t ih =>
    have hc := h c (by simp)
    have := ih fun x hx => h x (by simp [hx])
    rw [List.cons_append, show bsz (c :: (t ++ r)) = bsz (t ++ r) + 1 by simp [bsz, hc], this, List.length_cons]; omega
theorem tot_tk (ks : List Rd) (h : ∀ x ∈ ks, RdOk x) (hb : (∀ x ∈ ks, x.q ≠ []) ∨ (∀ x ∈ ks, x.p ≠ [])) : ∀ (i : Nat) (acc : List T),
    tk ((tot ks).drop (bsz (tot ks))) (i + bsz (tot ks)) acc = (0, acc ++ totT ks i) := by
  induction ks with
  | nil => intro i acc; simp [tot, totT, bsz, tk_nil]
  | cons x r ih =>
    intro i acc
    obtain ⟨hp, hq, hn, hg⟩ := h x (by simp)
    have ih := ih (fun y hy => h y (by simp [hy])) (hb.imp (fun f y hy => f y (by simp [hy])) (fun f y hy => f y (by simp [hy])))
    have e : tot (x :: r) = x.p ++ (bzL x.n ++ (x.q ++ tot r)) := by simp [tot, List.append_assoc]
    have hbd : Bd (x.q ++ tot r) := by
      cases hqq : x.q with
      | cons c t => exact Or.inr ⟨c, t ++ tot r, rfl, hq c (by simp [hqq])⟩
      | nil =>
        cases r with
        | nil => exact Or.inl (by simp [tot])
        | cons y r2 =>
          rcases hb with hb | hb
          · exact absurd hqq (hb x (by simp))
          · have hy := hb y (by simp)
            obtain ⟨c, t, hct⟩ := List.exists_cons_of_ne_nil hy
            refine Or.inr ⟨c, t ++ (bzL y.n ++ (y.q ++ tot r2)), ?_, (h y (by simp)).1 c (by simp [hct])⟩
            simp [tot, hct, List.append_assoc]
    rw [e, bsz_blank _ _ hp, bz_bsz _ hn, Nat.add_zero, List.drop_left, bz_step _ hn hg _ hbd, bsz_blank _ _ hq]
    rw [← List.drop_drop, List.drop_left]
    have := ih (i + x.p.length + (bzL x.n).length + x.q.length) (acc ++ shiftT (i + x.p.length) (bzT x.n))
    rw [show i + x.p.length + (bzL x.n).length + (x.q.length + bsz (tot r)) = i + x.p.length + (bzL x.n).length + x.q.length + bsz (tot r) by omega, this, List.append_assoc]
    rfl
theorem totT_len (ks : List Rd) (h : ∀ x ∈ ks, RdOk x) : ∀ i, (totT ks i).length ≤ 2 * ks.length := by
  induction ks with
  | nil => intro i; simp [totT]
  | cons x r ih =>
    intro i
    have h1 := ih (fun y hy => h y (by simp [hy])) (i + x.p.length + (bzL x.n).length + x.q.length)
    have h2 := (bz_len x.n (h x (by simp)).2.2.1).2
    simp only [totT, List.length_append, shiftT, List.length_map, List.length_cons]; omega
theorem tot_toks (ks : List Rd) (h : ∀ x ∈ ks, RdOk x) (hb : (∀ x ∈ ks, x.q ≠ []) ∨ (∀ x ∈ ks, x.p ≠ [])) (hl : (tot ks).length ≤ 1500) (h30 : ks.length ≤ 30) : toks (tot ks) = (0, totT ks 0) := by
  refine toks_of _ _ hl ?_ (by have := totT_len ks h 0; omega)
  have := tot_tk ks h hb 0 []
  simpa using this

def strip (t : T) : Nat × List UInt8 × Int := (t.kind, t.text, t.n)
theorem strip_shift (i : Nat) (ts : List T) : (shiftT i ts).map strip = ts.map strip := by
  unfold shiftT; rw [List.map_map]; rfl
theorem strip_tot (ks ls : List Rd) (h : ks.map Rd.n = ls.map Rd.n) : ∀ i j, (totT ks i).map strip = (totT ls j).map strip := by
  induction ks generalizing ls with
  | nil =>
    cases ls with
    | nil => intro i j; rfl
    | cons y s => simp at h
  | cons x r ih =>
    cases ls with
    | nil => simp at h
    | cons y s =>
      intro i j
      simp only [List.map_cons, List.cons.injEq] at h
      simp only [totT, List.map_append, strip_shift, h.1, ih s h.2 _ (j + y.p.length + (bzL y.n).length + y.q.length)]

/-- Places rise. -/
theorem go_rise (f : Nat) : ∀ (l : List UInt8) (i : Nat) (acc : List T), (∀ t ∈ acc, t.at_ < i) → acc.Pairwise (fun a b => a.at_ < b.at_) → (toksGo f l i acc).2.Pairwise (fun a b => a.at_ < b.at_) := by
  induction f with
  | zero => intro l i acc _ hp; exact hp
  | succ f ih =>
    intro l i acc hi hp
    by_cases h0 : l.length = 0
    · rw [toksGo_nil _ _ _ _ h0]; exact hp
    · by_cases he : (wordW l).e = 0
      · rw [toksGo_word _ _ _ _ h0 he]
        have hz := (wordW_size l he).1
        refine ih _ _ _ ?_ ?_
        · intro t ht
          rcases List.mem_append.1 ht with ht | ht
          · have := hi t ht; omega
          · simp only [List.mem_singleton] at ht; subst ht; simp only; omega
        · rw [List.pairwise_append]
          refine ⟨hp, List.pairwise_singleton _ _, ?_⟩
          intro a ha b hb
          simp only [List.mem_singleton] at hb; subst hb
          exact hi a ha
      · rw [toksGo_bad _ _ _ _ h0 he]; exact List.Pairwise.nil
theorem toks_rise (l : List UInt8) (i : Nat) (h : i + 1 < (toks l).2.length) : ((toks l).2[i]'(by omega)).at_ < ((toks l).2[i + 1]'h).at_ := by
  have hp : (toks l).2.Pairwise (fun a b => a.at_ < b.at_) := by
    have hr : (toksRaw l).2.Pairwise (fun a b => a.at_ < b.at_) := go_rise _ _ _ _ (by simp) List.Pairwise.nil
    unfold toks
    split
    · exact List.Pairwise.nil
    · split
      · split
        · exact List.Pairwise.nil
        · exact hr
      · exact List.Pairwise.nil
  exact List.pairwise_iff_getElem.1 hp i (i + 1) (by omega) h (by omega)
end Sc
end Go.Proofs.YtaillpnjknnhdaaDoor
