/- Tree: at any depth. -/
import Derived.Test.YtdophmlnmbcjlaaT31
import Derived.Test.YtdophmlnmbcjlaaT32
import Derived.Test.YtdophmlnmbcjlaaT33
import Derived.Test.YtdophmlnmbcjlaaT34
import Derived.Test.YtdophmlnmbcjlaaT35
import Derived.Test.YtdophmlnmbcjlaaT3
import Derived.Test.YtdophmlnmbcjlaaT5
import Derived.Test.YtdophmlnmbcjlaaT18
import Derived.Test.YtdophmlnmbcjlaaT9
import Derived.Deep.CutBlock
import Derived.Test.YtdophmlnmbcjlaaT23
import Derived.Deep.DeepCutAuto
namespace Go.Proofs.Ytdophmlnmbcjlaa
open Go.RowKit
namespace Sp
open Sc
theorem Tree_any : ∀ d : Nat, d ≤ 1000 → TreeC d
  | d, hd => by
    intro r c names na nc w hV hnm hnl
    obtain ⟨kd, n, ns, ks⟩ := r
    obtain h | h | h | h | h | h | h | h | h : kd % 9 = 0 ∨ kd % 9 = 1 ∨ kd % 9 = 2 ∨ kd % 9 = 3 ∨ kd % 9 = 4 ∨ kd % 9 = 5 ∨ kd % 9 = 6 ∨ kd % 9 = 7 ∨ kd % 9 = 8 := by omega
    · by_cases h1 : (d : Int) ≤ 1
      · exact tree_0a d hd kd n ns ks c names na nc w hV hnl h h1
      · exact tree_0b d hd kd n ns ks c names na nc w hV hnl h h1
    · by_cases h1 : (d : Int) ≤ 1
      · exact tree_1a d hd kd n ns ks c names na nc w hV hnl h h1
      · exact tree_1b d hd kd n ns ks c names na nc w hV hnl h h1
    · by_cases h1 : (d : Int) ≤ 1
      · exact tree_2a d hd kd n ns ks c names na nc w hV hnl h h1
      · exact tree_2b d hd kd n ns ks c names na nc w hV hnl h h1
    · by_cases h1 : (d : Int) ≤ 1
      · exact tree_3 d hd kd n ns ks c names na nc w hV hnl h h1
      · have ih := Tree_any (d - 1) (by omega)
        exact tree_3k d (d - 1) (by omega) ih (by omega) (by omega) kd n ns ks c names na nc w hV hnl hnm h
    · by_cases h1 : (d : Int) ≤ 1
      · exact tree_4 d hd kd n ns ks c names na nc w hV hnl h h1
      · have ih := Tree_any (d - 1) (by omega)
        exact tree_4k d (d - 1) (by omega) ih (by omega) (by omega) kd n ns ks c names na nc w hV hnl hnm h
    · by_cases h1 : (d : Int) ≤ 1
      · exact tree_5 d hd kd n ns ks c names na nc w hV hnl h h1
      · have ih := Tree_any (d - 1) (by omega)
        by_cases h6 : (treeR names (d - 1) (kidR (.mk kd n ns ks) 0)).kind = 6
        · exact tree_5y d (d - 1) (by omega) ih (by omega) (by omega) kd n ns ks c names na nc w hV hnl hnm h h6
        · exact tree_5n d (d - 1) (by omega) ih (by omega) (by omega) kd n ns ks c names na nc w hV hnl hnm h h6
    · by_cases h1 : (d : Int) ≤ 1
      · exact tree_6 d hd kd n ns ks c names na nc w hV hnl h h1
      · have ih := Tree_any (d - 1) (by omega)
        exact tree_6r d (d - 1) (by omega) ih (by omega) (by omega) kd n ns ks c names na nc w hV hnl hnm h
    · by_cases h1 : (d : Int) ≤ 1
      · exact tree_7 d hd kd n ns ks c names na nc w hV hnl h h1
      · have ih := Tree_any (d - 1) (by omega)
        exact tree_7r d (d - 1) (by omega) ih (by omega) (by omega) kd n ns ks c names na nc w hV hnl hnm h
    · by_cases h0 : names = []
      · exact tree_8n d hd kd n ns ks c names na nc w hV hnl h h0
      · by_cases h1 : (d : Int) ≤ 1
        · exact tree_8a d hd kd n ns ks c names na nc w hV hnl hnm h h0 h1
        · exact tree_8b d hd kd n ns ks c names na nc w hV hnl hnm h h0 h1
termination_by d => d
decreasing_by all_goals omega
end Sp
end Go.Proofs.Ytdophmlnmbcjlaa
namespace Go.Proofs.Ytdophmlnmbcjlaa
open Go.RowKit
namespace Sp
open Sc
/-- What a name stands for, the first of that name; nothing: a type of no kind. -/
def firstZ (l : List NT) (s : List UInt8) : Tz := match l.find? (fun x => decide (x.1 = s)) with | some x => x.2 | none => .mk 0 [] [] []
end Sp
end Go.Proofs.Ytdophmlnmbcjlaa
namespace Go.Proofs.Ytdophmlnmbcjlaa
open Go.RowKit
namespace Sp
open Sc
def openR (l : List NT) : Nat → Tz → Tz
  | 0, t => t
  | f + 1, .mk k nm ns ks => if k = 9 then openR l f (firstZ l nm) else .mk k nm ns ks
end Sp
end Go.Proofs.Ytdophmlnmbcjlaa
namespace Go.Proofs.Ytdophmlnmbcjlaa
open Go.RowKit
namespace Sp
open Sc
mutual
/-- Whether an Opt stands right in an Opt. -/
def nestR (l : List NT) : Tz → Bool
  | .mk k _ _ ks => (decide (k = 6) && decide ((openR l (l.length + 1) (kid0 ks)).kind = 6)) || nestsR l ks
def nestsR (l : List NT) : List Tz → Bool
  | [] => false
  | t :: ks => nestR l t || nestsR l ks
end
mutual
/-- Each Opt has a kid. -/
def kidsOk : Tz → Bool
  | .mk k _ _ ks => (!decide (k = 6) || decide (0 < ks.length)) && kidsOks ks
def kidsOks : List Tz → Bool
  | [] => true
  | t :: ks => kidsOk t && kidsOks ks
end
theorem kidsOks_mem : ∀ (ks : List Tz), kidsOks ks = true → ∀ (k : Nat) (h : k < ks.length), kidsOk ks[k] = true
  | t :: ks, hg, 0, _ => by simp only [kidsOks, Bool.and_eq_true] at hg; exact hg.1
  | t :: ks, hg, k + 1, h => by simp only [kidsOks, Bool.and_eq_true] at hg; exact kidsOks_mem ks hg.2 k (by simpa using h)
end Sp
end Go.Proofs.Ytdophmlnmbcjlaa
namespace Go.Proofs.Ytdophmlnmbcjlaa
open Go.RowKit
namespace Sp
open Sc
/-- The types of a schema, in order. -/
def sgT (g : Sg) : List Tz := g.params ++ [g.result]
def allT (s : Sz) : List Tz := (s.types.map (·.2) ++ [s.main]) ++ s.sigs.flatMap sgT
end Sp
end Go.Proofs.Ytdophmlnmbcjlaa
namespace Go.Proofs.Ytdophmlnmbcjlaa
open Go.RowKit
namespace Sp
open Sc
/-- What Check of the chapter's own telling answers. -/
def refC (s : Sz) : Nat :=
  if 12 < s.types.length ∨ 12 < s.sigs.length then 3
  else if namesE wordB [] (s.types.map (·.1)) ≠ 0 then namesE wordB [] (s.types.map (·.1))
  else if schZ s ≠ 0 then schZ s
  else if (finiteR s.types).length ≠ s.types.length then 14
  else if (allT s).any (nestR s.types) = true then 17 else 0
theorem schZ_bad1 {s : Sz} {e n : Nat} (h : allZ (hasZ s.types) 1 0 (s.types.map (·.2)) = (e, n)) (he : e ≠ 0) : schZ s = e := by
  unfold schZ; simp only [h]; rw [if_pos he]
theorem schZ_bad2 {s : Sz} {e n m : Nat} (h : allZ (hasZ s.types) 1 0 (s.types.map (·.2)) = (0, n)) (h2 : oneZ (hasZ s.types) 1 n s.main = (e, m)) (he : e ≠ 0) : schZ s = e := by
  unfold schZ; simp only [h, h2]; rw [if_neg (by simp), if_pos he]
theorem schZ_go {s : Sz} {n m : Nat} (h : allZ (hasZ s.types) 1 0 (s.types.map (·.2)) = (0, n)) (h2 : oneZ (hasZ s.types) 1 n s.main = (0, m)) : schZ s = (fnsZ (hasZ s.types) m [] s.sigs).1 := by
  unfold schZ; simp only [h, h2]; rw [if_neg (by simp), if_neg (by simp)]
mutual
theorem oneZ_kids (has : List UInt8 → Bool) : ∀ (t : Tz) (d n : Nat), (oneZ has d n t).1 = 0 → kidsOk t = true
  | .mk k nm ns ks, d, n, h0 => by
    rw [oneZ] at h0
    split at h0
    · cases h0
    · split at h0
      · cases h0
      · split at h0
        · rename_i h3; exact absurd h0 h3
        · rename_i h3
          rw [kidsOk, Bool.and_eq_true]
          refine ⟨?_, allZ_kids has ks (d + 1) (n + 1) h0⟩
          by_cases h6 : k = 6
          · subst h6
            have h4 : ownE has 6 nm ns ks.length = 0 := by simpa using h3
            unfold ownE at h4
            rw [if_neg (by omega)] at h4
            split at h4
            · cases h4
            · rename_i h5
              unfold formB kidsN at h5
              simp at h5
              simp; omega
          · simp [h6]
theorem allZ_kids (has : List UInt8 → Bool) : ∀ (ks : List Tz) (d n : Nat), (allZ has d n ks).1 = 0 → kidsOks ks = true
  | [], _, _, _ => rfl
  | t :: ks, d, n, h0 => by
    rw [allZ] at h0
    split at h0
    · rename_i h1
      rw [kidsOks, oneZ_kids has t d n h1, allZ_kids has ks d _ h0]; rfl
    · rename_i h1; exact absurd h0 h1
end
theorem fnsZ_few (has : List UInt8 → Bool) : ∀ (l : List Sg) (a : List UInt8) (n : Nat), (fnsZ has n a l).1 = 0 → ∀ g ∈ l, g.params.length ≤ 4 ∧ kidsOks g.params = true ∧ kidsOk g.result = true
  | [], _, _, _, g, hg => by cases hg
  | x :: l, a, n, h0, g, hg => by
    rw [fnsZ] at h0
    split at h0
    · rename_i h1
      rcases List.mem_cons.1 hg with rfl | hg
      · unfold fnZ at h1
        split at h1
        · rename_i h2; exact absurd h1 h2
        · split at h1
          · cases h1
          · rename_i h2 h3
            split at h1
            · rename_i h4; exact absurd h1 h4
            · rename_i h4
              exact ⟨by omega, allZ_kids has _ _ _ (by simpa using h4), oneZ_kids has _ _ _ h1⟩
      · exact fnsZ_few has l _ _ h0 g hg
    · rename_i h1; exact absurd h0 h1
theorem kidsOks_all {ks : List Tz} (h : kidsOks ks = true) : ∀ t ∈ ks, kidsOk t = true := fun t ht => by
  obtain ⟨i, hi, rfl⟩ := List.mem_iff_getElem.1 ht
  exact kidsOks_mem ks h i hi
theorem allT_mem {s : Sz} {P : Tz → Prop} (h1 : ∀ x ∈ s.types, P x.2) (h2 : P s.main) (h3 : ∀ g ∈ s.sigs, (∀ t ∈ g.params, P t) ∧ P g.result) : ∀ t ∈ allT s, P t := fun t ht => by
  unfold allT at ht
  rw [List.mem_append, List.mem_append] at ht
  rcases ht with (ht | ht) | ht
  · obtain ⟨x, hx, rfl⟩ := List.mem_map.1 ht; exact h1 x hx
  · rw [List.mem_singleton.1 ht]; exact h2
  · obtain ⟨g, hg, ht⟩ := List.mem_flatMap.1 ht
    unfold sgT at ht
    rcases List.mem_append.1 ht with ht | ht
    · exact (h3 g hg).1 t ht
    · rw [List.mem_singleton.1 ht]; exact (h3 g hg).2
theorem all_kids {s : Sz} {n m r : Nat} (h1 : allZ (hasZ s.types) 1 0 (s.types.map (·.2)) = (0, n)) (h2 : oneZ (hasZ s.types) 1 n s.main = (0, m)) (h3 : fnsZ (hasZ s.types) m [] s.sigs = (0, r)) : ∀ t ∈ allT s, kidsOk t = true := by
  have k1 := kidsOks_all (allZ_kids _ _ _ _ (by rw [h1]))
  have k3 := fnsZ_few _ _ _ _ (by rw [h3])
  exact allT_mem (fun x hx => k1 _ (List.mem_map.2 ⟨x, hx, rfl⟩)) (oneZ_kids _ _ _ _ (by rw [h2])) (fun g hg => ⟨kidsOks_all (k3 g hg).2.1, (k3 g hg).2.2⟩)
end Sp
end Go.Proofs.Ytdophmlnmbcjlaa
namespace Go.Proofs.Ytdophmlnmbcjlaa
namespace Sp
open Sc
theorem bl_irrefl : ∀ a : List UInt8, Op.bytesLess a a = false
  | [] => rfl
  | a :: l => by simp [Op.bytesLess, bl_irrefl l]
theorem bl_trans : ∀ a b c : List UInt8, Op.bytesLess a b = true → Op.bytesLess b c = true → Op.bytesLess a c = true
  | [], [], _, h, _ => by simp [Op.bytesLess] at h
  | [], _ :: _, [], _, h => by simp [Op.bytesLess] at h
  | [], _ :: _, _ :: _, _, _ => by simp [Op.bytesLess]
  | _ :: _, [], _, h, _ => by simp [Op.bytesLess] at h
  | _ :: _, _ :: _, [], _, h => by simp [Op.bytesLess] at h
  | x :: a, y :: b, z :: c, h1, h2 => by
    have ih := bl_trans a b c
    simp only [Op.bytesLess] at h1 h2 ⊢
    simp only [Bool.or_eq_true, Bool.and_eq_true, decide_eq_true_eq, beq_iff_eq] at h1 h2 ⊢
    rcases h1 with h1 | ⟨rfl, h1⟩
    · rcases h2 with h2 | ⟨rfl, h2⟩
      · exact .inl (UInt8.lt_trans h1 h2)
      · exact .inl h1
    · rcases h2 with h2 | ⟨rfl, h2⟩
      · exact .inl h2
      · exact .inr ⟨rfl, ih h1 h2⟩
theorem bl_total : ∀ a b : List UInt8, Op.bytesLess a b = false → (a == b) = false → Op.bytesLess b a = true
  | [], [], _, h => by simp at h
  | [], _ :: _, h, _ => by simp [Op.bytesLess] at h
  | _ :: _, [], _, _ => by simp [Op.bytesLess]
  | x :: a, y :: b, h1, h2 => by
    have ih := bl_total a b
    simp only [Op.bytesLess] at h1 ⊢
    simp only [Bool.or_eq_false_iff, Bool.and_eq_false_imp, decide_eq_false_iff_not, beq_iff_eq] at h1
    simp only [Bool.or_eq_true, Bool.and_eq_true, decide_eq_true_eq, beq_iff_eq]
    by_cases e : x = y
    · subst e
      exact .inr ⟨rfl, ih (h1.2 rfl) (by simpa using h2)⟩
    · exact .inl (by
        have := h1.1
        rw [UInt8.lt_iff_toNat_lt] at this ⊢
        have : x.toNat ≠ y.toNat := fun h => e (UInt8.toNat_inj.1 h)
        omega)
theorem namesE_rise {tk : List UInt8 → Bool} : ∀ (ns : List (List UInt8)) (a : List UInt8), namesE tk a ns = 0 → (∀ x ∈ ns, Op.bytesLess a x = true) ∧ ns.Pairwise (fun x y => Op.bytesLess x y = true)
  | [], a, _ => ⟨(fun x hx => by cases hx), List.Pairwise.nil⟩
  | n :: ns, a, h => by
    rw [namesE] at h
    split at h
    · rename_i h1
      obtain ⟨k1, k2⟩ := namesE_rise ns n h
      have hl : Op.bytesLess a n = true := by
        unfold nameE at h1
        split at h1
        · cases h1
        · split at h1
          · cases h1
          · rename_i h2
            unfold leB at h2
            simp only [Bool.or_eq_true, not_or, Bool.not_eq_true] at h2
            exact bl_total n a h2.1 h2.2
      refine ⟨fun x hx => ?_, List.Pairwise.cons k1 k2⟩
      rcases List.mem_cons.1 hx with rfl | hx
      · exact hl
      · exact bl_trans a n x hl (k1 x hx)
    · rename_i h1; exact absurd h h1
theorem rise_once {tk : List UInt8 → Bool} {l : List NT} (h : namesE tk [] (l.map (·.1)) = 0) : NoTwice l := by
  have hp := (namesE_rise _ _ h).2
  rw [List.pairwise_iff_getElem] at hp
  intro i j hi hj e
  rcases Nat.lt_trichotomy i j with hlt | rfl | hlt
  · have := hp i j (by simpa using hi) (by simpa using hj) hlt
    simp only [List.getElem_map] at this
    rw [e, bl_irrefl] at this; cases this
  · rfl
  · have := hp j i (by simpa using hj) (by simpa using hi) hlt
    simp only [List.getElem_map] at this
    rw [e, bl_irrefl] at this; cases this
mutual
theorem oneZ_good (has : List UInt8 → Bool) : ∀ (t : Tz) (d n : Nat), (oneZ has d n t).1 = 0 → kindsR t = true ∧ (oneZ has d n t).2 = n + sizeZ t
  | .mk k nm ns ks, d, n, h0 => by
    rw [oneZ] at h0 ⊢
    split at h0
    · cases h0
    · rename_i c1
      split at h0
      · cases h0
      · rename_i c2
        split at h0
        · rename_i h3; exact absurd h0 h3
        · rename_i h3
          obtain ⟨k1, k2⟩ := allZ_good has ks (d + 1) (n + 1) h0
          rw [if_neg c1, if_neg c2, if_neg h3, kindsR, sizeZ]
          refine ⟨?_, by omega⟩
          rw [k1, Bool.and_true, decide_eq_true_eq]
          have h4 : ownE has k nm ns ks.length = 0 := by simpa using h3
          unfold ownE at h4
          split at h4
          · cases h4
          · omega
theorem allZ_good (has : List UInt8 → Bool) : ∀ (ks : List Tz) (d n : Nat), (allZ has d n ks).1 = 0 → kindsRs ks = true ∧ (allZ has d n ks).2 = n + sizeZs ks
  | [], _, n, _ => ⟨rfl, by simp [allZ, sizeZs]⟩
  | t :: ks, d, n, h0 => by
    rw [allZ] at h0 ⊢
    split at h0
    · rename_i h1
      obtain ⟨a1, a2⟩ := oneZ_good has t d n h1
      obtain ⟨b1, b2⟩ := allZ_good has ks d _ h0
      rw [if_pos h1, kindsRs, a1, b1, sizeZs]
      exact ⟨rfl, by omega⟩
    · rename_i h1; exact absurd h0 h1
end
/-- Answers that loops and Opts have for themselves. -/
def own14 (e : Nat) : Prop := e ≠ 14 ∧ e ≠ 17
theorem nameE_14 (a n : List UInt8) (b : Bool) : own14 (nameE a n b) := by
  unfold nameE own14; split
  · decide
  · split <;> decide
theorem namesE_14 {tk : List UInt8 → Bool} : ∀ (ns : List (List UInt8)) (a : List UInt8), own14 (namesE tk a ns)
  | [], _ => by rw [namesE]; unfold own14; decide
  | n :: ns, a => by
    rw [namesE]; split
    · exact namesE_14 ns n
    · exact nameE_14 _ _ _
theorem ownE_14 (has : List UInt8 → Bool) (k : Int) (nm : List UInt8) (ns : List (List UInt8)) (m : Nat) : own14 (ownE has k nm ns m) := by
  unfold ownE
  split
  · unfold own14; decide
  · split
    · unfold own14; decide
    · split
      · unfold own14; decide
      · unfold fieldE
        split
        · unfold own14; decide
        · split
          · exact namesE_14 _ _
          · split <;> (unfold own14; decide)
mutual
theorem oneZ_14 (has : List UInt8 → Bool) : ∀ (t : Tz) (d n : Nat), own14 (oneZ has d n t).1
  | .mk k nm ns ks, d, n => by
    rw [oneZ]
    split
    · unfold own14; simp
    · split
      · unfold own14; simp
      · split
        · exact ownE_14 _ _ _ _ _
        · exact allZ_14 has ks _ _
theorem allZ_14 (has : List UInt8 → Bool) : ∀ (ks : List Tz) (d n : Nat), own14 (allZ has d n ks).1
  | [], _, _ => by rw [allZ]; unfold own14; simp
  | t :: ks, d, n => by
    rw [allZ]; split
    · exact allZ_14 has ks _ _
    · exact oneZ_14 has t _ _
end
theorem fnsZ_14 (has : List UInt8 → Bool) : ∀ (l : List Sg) (a : List UInt8) (n : Nat), own14 (fnsZ has n a l).1
  | [], _, _ => by rw [fnsZ]; unfold own14; simp
  | g :: l, a, n => by
    rw [fnsZ]; split
    · exact fnsZ_14 has l _ _
    · unfold fnZ
      split
      · exact nameE_14 _ _ _
      · split
        · unfold own14; simp
        · split
          · exact allZ_14 _ _ _ _
          · exact oneZ_14 _ _ _ _
theorem schZ_14 (s : Sz) : own14 (schZ s) := by
  unfold schZ
  simp only
  split
  · exact allZ_14 _ _ _ _
  · split
    · exact oneZ_14 _ _ _ _
    · exact fnsZ_14 _ _ _ _
/-- A schema of which it is told at least whether each type ends. -/
structure Told (s : Sz) : Prop where
  once : NoTwice s.types
  kinds : kindsRs (s.types.map (·.2)) = true
  mkind : kindsR s.main = true
  few : s.types.length ≤ 12
  size : totZ s.types + sizeZ s.main ≤ 400
theorem told_of {s : Sz} (h : refC s = 0 ∨ refC s = 14 ∨ refC s = 17) : Told s := by
  unfold refC at h
  by_cases h1 : 12 < s.types.length ∨ 12 < s.sigs.length
  · rw [if_pos h1] at h; omega
  · rw [if_neg h1] at h
    by_cases h2 : namesE wordB [] (s.types.map (·.1)) = 0
    · rw [if_neg (by simpa using h2)] at h
      by_cases h3 : schZ s = 0
      · have a0 : (allZ (hasZ s.types) 1 0 (s.types.map (·.2))).1 = 0 := by
          cases hh : allZ (hasZ s.types) 1 0 (s.types.map (·.2)) with
          | mk e n =>
            by_cases he : e = 0
            · exact he
            · rw [schZ_bad1 hh he] at h3; exact absurd h3 he
        obtain ⟨k1, k2⟩ := allZ_good _ _ _ _ a0
        have m0 : (oneZ (hasZ s.types) 1 (allZ (hasZ s.types) 1 0 (s.types.map (·.2))).2 s.main).1 = 0 := by
          cases hh : oneZ (hasZ s.types) 1 (allZ (hasZ s.types) 1 0 (s.types.map (·.2))).2 s.main with
          | mk e n =>
            by_cases he : e = 0
            · exact he
            · have := schZ_bad2 (n := (allZ (hasZ s.types) 1 0 (s.types.map (·.2))).2) (show _ = (0, _) from Prod.ext a0 rfl) hh he
              rw [this] at h3; exact absurd h3 he
        obtain ⟨k3, k4⟩ := oneZ_good _ _ _ _ m0
        have hle := allZ_le (hasZ s.types) (s.types.map (·.2)) 1 0 (by omega) a0
        have hle2 := oneZ_le (hasZ s.types) s.main 1 _ hle m0
        exact ⟨rise_once h2, k1, k3, by omega, by unfold totZ; omega⟩
      · rw [if_pos h3] at h
        have := schZ_14 s; unfold own14 at this; omega
    · rw [if_pos (by simpa using h2)] at h
      have := namesE_14 (tk := wordB) (s.types.map (·.1)) []; unfold own14 at this; omega
end Sp
end Go.Proofs.Ytdophmlnmbcjlaa
