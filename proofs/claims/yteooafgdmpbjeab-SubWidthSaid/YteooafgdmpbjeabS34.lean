/- Package sprueref4: Def, finite. -/
import Derived.Test.YteooafgdmpbjeabS4
import Derived.Test.YteooafgdmpbjeabS8
import Derived.Test.YteooafgdmpbjeabS23
import Derived.Test.YteooafgdmpbjeabS13
import Derived.Test.YteooafgdmpbjeabS29
import Derived.Deep.CutBlock
import Derived.Deep.DeepCutAuto
namespace Go.Proofs.Yteooafgdmpbjeab
open Go.RowKit
namespace Sp
open Sc
/-- What a name stands for, the first of that name; nothing: a type of no kind. -/
def firstZ (l : List NT) (s : List UInt8) : Tz := match l.find? (fun x => decide (x.1 = s)) with | some x => x.2 | none => .mk 0 [] [] []
end Sp
end Go.Proofs.Yteooafgdmpbjeab
namespace Go.Proofs.Yteooafgdmpbjeab
open Go.RowKit
namespace Sp
open Sc
def openR (l : List NT) : Nat → Tz → Tz
  | 0, t => t
  | f + 1, .mk k nm ns ks => if k = 9 then openR l f (firstZ l nm) else .mk k nm ns ks
end Sp
end Go.Proofs.Yteooafgdmpbjeab
namespace Go.Proofs.Yteooafgdmpbjeab
open Go.RowKit
namespace Sp
open Sc
mutual
/-- Whether an Opt stands right in an Opt. -/
def nestR (l : List NT) : Tz → Bool
  | .mk k _ _ ks => (decide (k = 6) && decide ((openR l (l.length + 1) (kid0 ks)).kind = 6)) || nestsR l ks
def nestsR (l : List NT) : List Tz → Bool
  | [] => false
  | t :: ks => nestR l t || nestsR l ks
end
mutual
/-- Each Opt has a kid. -/
def kidsOk : Tz → Bool
  | .mk k _ _ ks => (!decide (k = 6) || decide (0 < ks.length)) && kidsOks ks
def kidsOks : List Tz → Bool
  | [] => true
  | t :: ks => kidsOk t && kidsOks ks
end
theorem kidsOks_mem : ∀ (ks : List Tz), kidsOks ks = true → ∀ (k : Nat) (h : k < ks.length), kidsOk ks[k] = true
  | t :: ks, hg, 0, _ => by simp only [kidsOks, Bool.and_eq_true] at hg; exact hg.1
  | t :: ks, hg, k + 1, h => by simp only [kidsOks, Bool.and_eq_true] at hg; exact kidsOks_mem ks hg.2 k (by simpa using h)
end Sp
end Go.Proofs.Yteooafgdmpbjeab
namespace Go.Proofs.Yteooafgdmpbjeab
open Go.RowKit
namespace Sp
open Sc
/-- The types of a schema, in order. -/
def sgT (g : Sg) : List Tz := g.params ++ [g.result]
def allT (s : Sz) : List Tz := (s.types.map (·.2) ++ [s.main]) ++ s.sigs.flatMap sgT
end Sp
end Go.Proofs.Yteooafgdmpbjeab
namespace Go.Proofs.Yteooafgdmpbjeab
open Go.RowKit
namespace Sp
open Sc
/-- What Check of the chapter's own telling answers. -/
def refC (s : Sz) : Nat :=
  if 12 < s.types.length ∨ 12 < s.sigs.length then 3
  else if namesE wordB [] (s.types.map (·.1)) ≠ 0 then namesE wordB [] (s.types.map (·.1))
  else if schZ s ≠ 0 then schZ s
  else if (finiteR s.types).length ≠ s.types.length then 14
  else if (allT s).any (nestR s.types) = true then 17 else 0
theorem schZ_bad1 {s : Sz} {e n : Nat} (h : allZ (hasZ s.types) 1 0 (s.types.map (·.2)) = (e, n)) (he : e ≠ 0) : schZ s = e := by
  unfold schZ; simp only [h]; rw [if_pos he]
theorem schZ_bad2 {s : Sz} {e n m : Nat} (h : allZ (hasZ s.types) 1 0 (s.types.map (·.2)) = (0, n)) (h2 : oneZ (hasZ s.types) 1 n s.main = (e, m)) (he : e ≠ 0) : schZ s = e := by
  unfold schZ; simp only [h, h2]; rw [if_neg (by simp), if_pos he]
theorem schZ_go {s : Sz} {n m : Nat} (h : allZ (hasZ s.types) 1 0 (s.types.map (·.2)) = (0, n)) (h2 : oneZ (hasZ s.types) 1 n s.main = (0, m)) : schZ s = (fnsZ (hasZ s.types) m [] s.sigs).1 := by
  unfold schZ; simp only [h, h2]; rw [if_neg (by simp), if_neg (by simp)]
mutual
theorem oneZ_kids (has : List UInt8 → Bool) : ∀ (t : Tz) (d n : Nat), (oneZ has d n t).1 = 0 → kidsOk t = true
  | .mk k nm ns ks, d, n, h0 => by
    rw [oneZ] at h0
    split at h0
    · cases h0
    · split at h0
      · cases h0
      · split at h0
        · rename_i h3; exact absurd h0 h3
        · rename_i h3
          rw [kidsOk, Bool.and_eq_true]
          refine ⟨?_, allZ_kids has ks (d + 1) (n + 1) h0⟩
          by_cases h6 : k = 6
          · subst h6
            have h4 : ownE has 6 nm ns ks.length = 0 := by simpa using h3
            unfold ownE at h4
            rw [if_neg (by omega)] at h4
            split at h4
            · cases h4
            · rename_i h5
              unfold formB kidsN at h5
              simp at h5
              simp; omega
          · simp [h6]
theorem allZ_kids (has : List UInt8 → Bool) : ∀ (ks : List Tz) (d n : Nat), (allZ has d n ks).1 = 0 → kidsOks ks = true
  | [], _, _, _ => rfl
  | t :: ks, d, n, h0 => by
    rw [allZ] at h0
    split at h0
    · rename_i h1
      rw [kidsOks, oneZ_kids has t d n h1, allZ_kids has ks d _ h0]; rfl
    · rename_i h1; exact absurd h0 h1
end
theorem fnsZ_few (has : List UInt8 → Bool) : ∀ (l : List Sg) (a : List UInt8) (n : Nat), (fnsZ has n a l).1 = 0 → ∀ g ∈ l, g.params.length ≤ 4 ∧ kidsOks g.params = true ∧ kidsOk g.result = true
  | [], _, _, _, g, hg => by cases hg
  | x :: l, a, n, h0, g, hg => by
    rw [fnsZ] at h0
    split at h0
    · rename_i h1
      rcases List.mem_cons.1 hg with rfl | hg
      · unfold fnZ at h1
        split at h1
        · rename_i h2; exact absurd h1 h2
        · split at h1
          · cases h1
          · rename_i h2 h3
            split at h1
            · rename_i h4; exact absurd h1 h4
            · rename_i h4
              exact ⟨by omega, allZ_kids has _ _ _ (by simpa using h4), oneZ_kids has _ _ _ h1⟩
      · exact fnsZ_few has l _ _ h0 g hg
    · rename_i h1; exact absurd h0 h1
theorem kidsOks_all {ks : List Tz} (h : kidsOks ks = true) : ∀ t ∈ ks, kidsOk t = true := fun t ht => by
  obtain ⟨i, hi, rfl⟩ := List.mem_iff_getElem.1 ht
  exact kidsOks_mem ks h i hi
theorem allT_mem {s : Sz} {P : Tz → Prop} (h1 : ∀ x ∈ s.types, P x.2) (h2 : P s.main) (h3 : ∀ g ∈ s.sigs, (∀ t ∈ g.params, P t) ∧ P g.result) : ∀ t ∈ allT s, P t := fun t ht => by
  unfold allT at ht
  rw [List.mem_append, List.mem_append] at ht
  rcases ht with (ht | ht) | ht
  · obtain ⟨x, hx, rfl⟩ := List.mem_map.1 ht; exact h1 x hx
  · rw [List.mem_singleton.1 ht]; exact h2
  · obtain ⟨g, hg, ht⟩ := List.mem_flatMap.1 ht
    unfold sgT at ht
    rcases List.mem_append.1 ht with ht | ht
    · exact (h3 g hg).1 t ht
    · rw [List.mem_singleton.1 ht]; exact (h3 g hg).2
theorem all_kids {s : Sz} {n m r : Nat} (h1 : allZ (hasZ s.types) 1 0 (s.types.map (·.2)) = (0, n)) (h2 : oneZ (hasZ s.types) 1 n s.main = (0, m)) (h3 : fnsZ (hasZ s.types) m [] s.sigs = (0, r)) : ∀ t ∈ allT s, kidsOk t = true := by
  have k1 := kidsOks_all (allZ_kids _ _ _ _ (by rw [h1]))
  have k3 := fnsZ_few _ _ _ _ (by rw [h3])
  exact allT_mem (fun x hx => k1 _ (List.mem_map.2 ⟨x, hx, rfl⟩)) (oneZ_kids _ _ _ _ (by rw [h2])) (fun g hg => ⟨kidsOks_all (k3 g hg).2.1, (k3 g hg).2.2⟩)
end Sp
end Go.Proofs.Yteooafgdmpbjeab
