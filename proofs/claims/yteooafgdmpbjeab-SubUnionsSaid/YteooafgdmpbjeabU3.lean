/- Tables: what they hold. No program is named here. -/
import Derived.Test.YteooafgdmpbjeabU2
namespace Go.Proofs.Yteooafgdmpbjeab
namespace Sp
open Sc
abbrev NN := List UInt8 × Nat
/-- A function: the numbers of what it takes and answers. -/
abbrev GN := List UInt8 × List Nat × Nat
structure Tab where
  T : List Kz
  N : List NN
  G : List GN
  m : Nat
deriving Inhabited
def addK (has : List UInt8 → Bool) (T : List Kz) (t : Tz) : Nat × Nat × List Kz := if (oneC has 0 t).1 ≠ 0 then (0, (oneC has 0 t).1, T) else treeK T t
theorem addK_ok {has : List UInt8 → Bool} {T : List Kz} {t : Tz} (h : okK has t = true) (hs : sizeZ t ≤ 400) : addK has T t = treeK T t := by
  unfold addK; rw [oneC_of has t 0 h (by omega), if_neg (by simp)]
def lookN (N : List NN) (nm : List UInt8) : Nat := (lastN N nm).getD 0
end Sp
end Go.Proofs.Yteooafgdmpbjeab
namespace Go.Proofs.Yteooafgdmpbjeab
namespace Sp
open Sc
/-- The kids of the names, one behind the other, while they hold. -/
def kidsL (h : List (Nat × Nat) → Nat → Nat → Bool × List (Nat × Nat)) (x y : Kz) : List (List UInt8) → List (Nat × Nat) → Bool × List (Nat × Nat)
  | [], S => (true, S)
  | n :: r, S => if n ∈ x.names ∧ n ∈ y.names then (if (h S (x.kids.getD (x.names.idxOf n) 0) (y.kids.getD (y.names.idxOf n) 0)).1 then kidsL h x y r (h S (x.kids.getD (x.names.idxOf n) 0) (y.kids.getD (y.names.idxOf n) 0)).2 else (false, (h S (x.kids.getD (x.names.idxOf n) 0) (y.kids.getD (y.names.idxOf n) 0)).2)) else (false, S)
/-- What a pair asks of its two types, names gone through. -/
def openL (h : List (Nat × Nat) → Nat → Nat → Bool × List (Nat × Nat)) (i : Nat) (x y : Kz) (S : List (Nat × Nat)) : Bool × List (Nat × Nat) :=
  if y.kind = 6 ∧ x.kind ≠ 6 then h S i (y.kids.getD 0 0)
  else if x.kind ≠ y.kind then (false, S)
  else if y.kind = 4 ∨ y.kind = 5 ∨ y.kind = 6 then h S (x.kids.getD 0 0) (y.kids.getD 0 0)
  else if y.kind = 7 then kidsL h x y y.names S
  else if y.kind = 8 then kidsL h x y x.names S
  else (true, S)
/-- Whether a pair holds, and the pairs that were opened. -/
def holdsL (T : List Kz) (op : Nat → Nat) : Nat → List (Nat × Nat) → Nat → Nat → Bool × List (Nat × Nat)
  | 0, S, _, _ => (false, S)
  | f + 1, S, a, b => if a = b ∨ (a, b) ∈ S then (true, S) else openL (holdsL T op f) (op a) (T.getD (op a) default) (T.getD (op b) default) (S ++ [(a, b)])
def leL (T : List Kz) (op : Nat → Nat) (a b : Nat) : Bool × List (Nat × Nat) := holdsL T op (T.length * T.length + 1) [] a b
/-- Pairs of numbers, each once. -/
structure PrG (n : Nat) (S : List (Nat × Nat)) : Prop where
  nd : S.Nodup
  lt : ∀ p ∈ S, p.1 < n ∧ p.2 < n
theorem PrG.nil (n : Nat) : PrG n [] := ⟨List.nodup_nil, fun p h => by cases h⟩
theorem PrG.snoc {n : Nat} {S : List (Nat × Nat)} (h : PrG n S) {a b : Nat} (ha : a < n) (hb : b < n) (hn : (a, b) ∉ S) : PrG n (S ++ [(a, b)]) := by
  refine ⟨?_, fun p hp => ?_⟩
  · rw [List.nodup_append]
    exact ⟨h.nd, by simp, fun x hx y hy e => hn (by rw [List.mem_singleton.1 hy] at e; exact e ▸ hx)⟩
  · rcases List.mem_append.1 hp with hp | hp
    · exact h.lt p hp
    · rw [List.mem_singleton.1 hp]; exact ⟨ha, hb⟩
theorem nodup_lt : ∀ (n : Nat) (l : List Nat), l.Nodup → (∀ x ∈ l, x < n) → l.length ≤ n
  | 0, [], _, _ => Nat.le_refl _
  | 0, x :: _, _, h => by have := h x List.mem_cons_self; omega
  | n + 1, l, hd, h => by
    have h1 := nodup_lt n (l.erase n) (hd.erase n) (fun x hx => by
      have h2 := h x (List.mem_of_mem_erase hx)
      have h3 : x ≠ n := fun e => by subst e; exact (List.Nodup.not_mem_erase hd) hx
      omega)
    have h2 := List.length_erase (a := n) (l := l)
    split at h2 <;> omega
theorem pair_num {n : Nat} : ∀ (S : List (Nat × Nat)), S.Nodup → (∀ p ∈ S, p.1 < n ∧ p.2 < n) → (S.map fun p => p.1 * n + p.2).Nodup
  | [], _, _ => List.nodup_nil
  | p :: S, hd, h => by
    rw [List.nodup_cons] at hd
    rw [List.map_cons, List.nodup_cons]
    refine ⟨fun hm => ?_, pair_num S hd.2 (fun q hq => h q (List.mem_cons_of_mem _ hq))⟩
    obtain ⟨q, hq, e⟩ := List.mem_map.1 hm
    have h1 := h p List.mem_cons_self
    have h2 := h q (List.mem_cons_of_mem _ hq)
    have h3 : q.1 = p.1 := by
      have a1 : (q.1 * n + q.2) / n = q.1 := by rw [Nat.mul_comm, Nat.mul_add_div (by omega), Nat.div_eq_of_lt h2.2]; rfl
      have a2 : (p.1 * n + p.2) / n = p.1 := by rw [Nat.mul_comm, Nat.mul_add_div (by omega), Nat.div_eq_of_lt h1.2]; rfl
      rw [← a1, ← a2, e]
    have h4 : q.2 = p.2 := by rw [h3] at e; omega
    exact hd.1 (by rw [← Prod.ext h3 h4]; exact hq)
theorem PrG.few {n : Nat} {S : List (Nat × Nat)} (h : PrG n S) : S.length ≤ n * n := by
  have := nodup_lt (n * n) _ (pair_num S h.nd h.lt) (fun x hx => by
    obtain ⟨p, hp, rfl⟩ := List.mem_map.1 hx
    have h1 := h.lt p hp
    have h2 : (p.1 + 1) * n ≤ n * n := Nat.mul_le_mul_right n h1.1
    rw [Nat.add_mul] at h2
    omega)
  simpa using this
/-- What a step may be. -/
structure StepL (n : Nat) (h : List (Nat × Nat) → Nat → Nat → Bool × List (Nat × Nat)) : Prop where
  ok : ∀ S a b, PrG n S → a < n → b < n → PrG n (h S a b).2 ∧ S.length ≤ (h S a b).2.length
theorem kidsL_g {n : Nat} {h : List (Nat × Nat) → Nat → Nat → Bool × List (Nat × Nat)} (hh : StepL n h) {x y : Kz} (hx : ∀ j, x.kids.getD j 0 < n) (hy : ∀ j, y.kids.getD j 0 < n) : ∀ (l : List (List UInt8)) (S : List (Nat × Nat)), PrG n S → PrG n (kidsL h x y l S).2 ∧ S.length ≤ (kidsL h x y l S).2.length
  | [], S, hS => ⟨hS, Nat.le_refl _⟩
  | m :: l, S, hS => by
    rw [kidsL]
    split
    · obtain ⟨h1, h2⟩ := hh.ok S _ _ hS (hx (x.names.idxOf m)) (hy (y.names.idxOf m))
      split
      · obtain ⟨h3, h4⟩ := kidsL_g hh hx hy l _ h1
        exact ⟨h3, Nat.le_trans h2 h4⟩
      · exact ⟨h1, h2⟩
    · exact ⟨hS, Nat.le_refl _⟩
theorem openL_g {n : Nat} {h : List (Nat × Nat) → Nat → Nat → Bool × List (Nat × Nat)} (hh : StepL n h) {i : Nat} {x y : Kz} (hi : i < n) (hx : ∀ j, x.kids.getD j 0 < n) (hy : ∀ j, y.kids.getD j 0 < n) (S : List (Nat × Nat)) (hS : PrG n S) : PrG n (openL h i x y S).2 ∧ S.length ≤ (openL h i x y S).2.length := by
  unfold openL
  split
  · exact hh.ok S _ _ hS hi (hy 0)
  · split
    · exact ⟨hS, Nat.le_refl _⟩
    · split
      · exact hh.ok S _ _ hS (hx 0) (hy 0)
      · split
        · exact kidsL_g hh hx hy _ S hS
        · split
          · exact kidsL_g hh hx hy _ S hS
          · exact ⟨hS, Nat.le_refl _⟩
theorem kid_lt {T : List Kz} (hT : TabW T) (hn : 0 < T.length) (i j : Nat) : (T.getD i default).kids.getD j 0 < T.length := by
  rw [List.getD]
  cases h : (T.getD i default).kids[j]? with
  | none => exact hn
  | some k =>
    have hk := List.mem_of_getElem? h
    by_cases hi : i < T.length
    · rw [List.getD, List.getElem?_eq_getElem hi] at hk
      have := hT.kids i hi k hk
      show k < T.length
      omega
    · rw [List.getD, List.getElem?_eq_none (by omega)] at hk
      cases hk
theorem holdsL_g {T : List Kz} (hT : TabW T) {op : Nat → Nat} (hop : ∀ i, i < T.length → op i < T.length) : ∀ f, StepL T.length (holdsL T op f)
  | 0 => ⟨fun S a b hS _ _ => ⟨hS, Nat.le_refl _⟩⟩
  | f + 1 => ⟨fun S a b hS ha hb => by
    rw [holdsL]
    split
    · exact ⟨hS, Nat.le_refl _⟩
    · rename_i h
      have h2 : (a, b) ∉ S := fun e => h (.inr e)
      obtain ⟨h3, h4⟩ := openL_g (holdsL_g hT hop f) (i := op a) (x := T.getD (op a) default) (y := T.getD (op b) default) (hop a ha) (kid_lt hT (by omega) _) (kid_lt hT (by omega) _) _ (hS.snoc ha hb h2)
      exact ⟨h3, by rw [List.length_append, List.length_singleton] at h4; omega⟩⟩
end Sp
end Go.Proofs.Yteooafgdmpbjeab
