/- SubUnions: two unions of some of eight tags; who fits whom, as plain functions. -/
import Derived.Test.YteooafgdmpbjeabU49
namespace Go.Proofs.Yteooafgdmpbjeab
open Go.RowKit
namespace Sp
open Sc
def kzI : Kz := ⟨2, [], [], []⟩
def kzO : Kz := ⟨6, [], [], [0]⟩
def zO : Tz := .mk 6 [] [] [zI]
def tagN (k : Nat) : List UInt8 := [UInt8.ofNat (97 + k)]
def uniX (l : List Nat) (z : Tz) : Tz := .mk 8 [] (l.map tagN) (l.map fun _ => z)
def uniK (l : List Nat) (j : Nat) : Kz := ⟨8, [], l.map tagN, l.map fun _ => j⟩
def T1U (A : List Nat) : List Kz := [kzI, uniK A 0]
theorem kidsK_same {T : List Kz} {t : Tz} {j : Nat} (h : treeK T t = (j, 0, T)) : ∀ l : List Nat, kidsK T (l.map fun _ => t) = (l.map (fun _ => j), 0, T)
  | [] => rfl
  | a :: l => by rw [List.map_cons, kidsK, h]; simp [kidsK_same h l]
theorem kidsK_first {T T' : List Kz} {t : Tz} {j : Nat} (h0 : treeK T t = (j, 0, T')) (h : treeK T' t = (j, 0, T')) {l : List Nat} (hl : l ≠ []) : kidsK T (l.map fun _ => t) = (l.map (fun _ => j), 0, T') := by
  cases l with
  | nil => exact absurd rfl hl
  | cons a l => rw [List.map_cons, kidsK, h0]; simp [kidsK_same h l]
theorem uni_tree {T T' : List Kz} {t : Tz} {j : Nat} (l : List Nat) (h : kidsK T (l.map fun _ => t) = (l.map (fun _ => j), 0, T')) : treeK T (uniX l t) = numK T' (uniK l j) := by
  unfold uniX uniK
  rw [treeK, h, if_pos rfl]
theorem numK_new {T : List Kz} {k : Kz} (h : k ∉ T) (hl : T.length < 120) : numK T k = (T.length, 0, T ++ [k]) := by
  unfold numK; rw [if_neg h, if_neg (by omega)]
theorem numK_at {T : List Kz} {k : Kz} (h : k ∈ T) : numK T k = (T.idxOf k, 0, T) := by
  unfold numK; rw [if_pos h]
theorem tree_int {r : List Kz} : treeK (kzI :: r) zI = (0, 0, kzI :: r) := by
  unfold zI
  rw [treeK, kidsK, if_pos rfl, numK_at (by exact List.mem_cons_self)]
  exact congrArg (fun z => (z, 0, kzI :: r)) (by exact List.idxOf_cons_self)
theorem tree_intU {A : List Nat} : treeK (T1U A) zI = (0, 0, T1U A) := tree_int
theorem tree_intO {A : List Nat} : treeK (T1U A ++ [kzO]) zI = (0, 0, T1U A ++ [kzO]) := tree_int
theorem tree_opt0 {A : List Nat} : treeK (T1U A) zO = (2, 0, T1U A ++ [kzO]) := by
  have e : kidsK (T1U A) [zI] = ([0], 0, T1U A) := kidsK_same tree_intU [0]
  have h := numK_new (T := T1U A) (k := kzO) (by simp [T1U, kzI, uniK, kzO]) (by simp [T1U])
  unfold zO
  rw [treeK, e, if_pos rfl]
  exact h
theorem tree_opt1 {A : List Nat} : treeK (T1U A ++ [kzO]) zO = (2, 0, T1U A ++ [kzO]) := by
  have e : kidsK (T1U A ++ [kzO]) [zI] = ([0], 0, T1U A ++ [kzO]) := kidsK_same tree_intO [0]
  have h := numK_at (T := T1U A ++ [kzO]) (k := kzO) (by simp)
  have h1 : (kzI == kzO) = false := by decide
  have h2 : (uniK A 0 == kzO) = false := by simp [uniK, kzO]
  have hi : (T1U A ++ [kzO]).idxOf kzO = 2 := by
    rw [T1U, List.cons_append, List.cons_append, List.nil_append, List.idxOf_cons, h1, List.idxOf_cons, h2, List.idxOf_cons_self]
    rfl
  rw [hi] at h
  unfold zO
  rw [treeK, e, if_pos rfl]
  exact h
theorem uni_first {A : List Nat} (hA : A ≠ []) : treeK [] (uniX A zI) = (1, 0, T1U A) := by
  rw [uni_tree A (kidsK_first (T' := [kzI]) rfl tree_int hA), numK_new (by simp [kzI, uniK]) (by simp)]
  rfl
theorem uni_same {A B : List Nat} (h : B.map tagN = A.map tagN) : treeK (T1U A) (uniX B zI) = (1, 0, T1U A) := by
  have hl : B.length = A.length := by simpa using congrArg List.length h
  have e : uniK B 0 = uniK A 0 := by unfold uniK; rw [h, List.map_const', List.map_const', hl]
  have h1 : (kzI == uniK A 0) = false := by simp [kzI, uniK]
  have hi : (T1U A).idxOf (uniK A 0) = 1 := by
    rw [T1U, List.idxOf_cons, h1, List.idxOf_cons_self]
    rfl
  rw [uni_tree B (kidsK_same tree_intU B), e, numK_at (by simp [T1U]), hi]
theorem uni_other {A B : List Nat} (h : B.map tagN ≠ A.map tagN) : treeK (T1U A) (uniX B zI) = (2, 0, T1U A ++ [uniK B 0]) := by
  rw [uni_tree B (kidsK_same tree_intU B), numK_new (by simp only [T1U, List.mem_cons, List.not_mem_nil, or_false, not_or]; exact ⟨by simp [kzI, uniK], fun e => h (by unfold uniK at e; injection e)⟩) (by simp [T1U])]
  rfl
theorem uni_wide {A B : List Nat} (hA : A ≠ []) (hB : B ≠ []) : treeK (T1U A) (uniX B zO) = (3, 0, T1U A ++ [kzO] ++ [uniK B 2]) := by
  rw [uni_tree B (kidsK_first tree_opt0 tree_opt1 hB), numK_new ?_ (by simp [T1U])]
  · rfl
  · simp only [T1U, List.cons_append, List.nil_append, List.mem_cons, List.not_mem_nil, or_false, not_or]
    refine ⟨by simp [kzI, uniK], fun e => ?_, by simp [kzO, uniK]⟩
    cases B with
    | nil => exact hB rfl
    | cons b B =>
      cases A with
      | nil => exact hA rfl
      | cons a A => simp [uniK] at e
/-- Names of one row that stand in another, their kids all right. -/
theorem kidsL_all {h : List (Nat × Nat) → Nat → Nat → Bool × List (Nat × Nat)} {x y : Kz} (hh : ∀ S i j, (h S (x.kids.getD i 0) (y.kids.getD j 0)).1 = true) : ∀ (l : List (List UInt8)) (S : List (Nat × Nat)), (∀ n ∈ l, n ∈ x.names) → (kidsL h x y l S).1 = l.all fun n => decide (n ∈ y.names)
  | [], S, _ => rfl
  | n :: r, S, hx => by
    rw [kidsL, List.all_cons]
    by_cases hn : n ∈ y.names
    · rw [if_pos ⟨hx n List.mem_cons_self, hn⟩, if_pos (hh _ _ _), kidsL_all hh r _ (fun m hm => hx m (List.mem_cons_of_mem _ hm)), decide_eq_true hn, Bool.true_and]
    · rw [if_neg (fun e => hn e.2), decide_eq_false hn]; rfl
theorem getD_const (l : List Nat) (j i : Nat) : (l.map fun _ => j).getD i 0 = j ∨ (l.map fun _ => j).getD i 0 = 0 := by
  rw [List.getD, List.getElem?_map]
  cases l[i]? with
  | none => exact .inr rfl
  | some _ => exact .inl rfl
theorem holds_same (T : List Kz) (op : Nat → Nat) (f : Nat) (S : List (Nat × Nat)) (a : Nat) : holdsL T op (f + 1) S a a = (true, S) := by rw [holdsL, if_pos (.inl rfl)]
/-- A union of numbers, one of integers: all that is asked. -/
theorem uni_le {T : List Kz} {A B : List Nat} {id : Nat} (j : Nat) (h1 : T.getD 1 default = uniK A 0) (hi : T.getD id default = uniK B j) (hid : id ≠ 1) (hT : 9 ≤ T.length * T.length)
    (hj : j = 0 ∨ (∀ f S, (holdsL T (openK T [] 13) (f + 2) S 0 j).1 = true)) :
    (leL T (openK T [] 13) 1 id).1 = (A.map tagN).all fun n => decide (n ∈ B.map tagN) := by
  unfold leL
  have e1 : openK T [] 13 1 = 1 := openK_stop T [] 13 1 (by rw [h1]; simp [uniK])
  have e2 : openK T [] 13 id = id := openK_stop T [] 13 id (by rw [hi]; simp [uniK])
  rw [holdsL, if_neg (by simp; omega), e1, e2, h1, hi]
  unfold openL
  rw [if_neg (by simp [uniK]), if_neg (by simp [uniK]), if_neg (by simp [uniK]), if_neg (by simp [uniK]), if_pos (by simp [uniK])]
  obtain ⟨f, hf⟩ : ∃ f, T.length * T.length = f + 2 := ⟨T.length * T.length - 2, by omega⟩
  rw [hf]
  refine kidsL_all (fun S i i2 => ?_) _ _ (fun n hn => hn)
  have a0 : (uniK A 0).kids.getD i 0 = 0 := by rcases getD_const A 0 i with e | e <;> exact e
  rw [a0]
  rcases getD_const B j i2 with e | e
  · rw [show (uniK B j).kids.getD i2 0 = j from e]
    rcases hj with rfl | hj
    · rw [holds_same]
    · exact hj f S
  · rw [show (uniK B j).kids.getD i2 0 = 0 from e, holds_same]
theorem opL_plain {T : List Kz} (h9 : ∀ k ∈ T, k.kind ≠ 9) (h4 : ∀ k ∈ T, k.kind = 4 ∨ k.kind = 5 ∨ k.kind = 6 → k.kids.length = 1) : OpL T [] := by
  have h : ∀ i, i < T.length → (T.getD i default).kind ≠ 9 := fun i hi => by rw [List.getD, List.getElem?_eq_getElem hi]; exact h9 _ (List.getElem_mem hi)
  exact ⟨fun i hi => by rw [openK_stop T [] 13 i (h i hi)]; exact hi, fun i hi => by rw [openK_stop T [] 13 i (h i hi)]; exact h i hi, fun k hk e => absurd e (h9 k hk), h4⟩
structure UniF (A B : List Nat) (z : Tz) (id : Nat) (T3 : List Kz) : Prop where
  add : treeK (T1U A) (uniX B z) = (id, 0, T3)
  op : OpL T3 []
  ml : 1 < T3.length
  il : id < T3.length
  le : (leL T3 (openK T3 [] 13) 1 id).1 = (A.map tagN).all fun n => decide (n ∈ B.map tagN)
theorem uni_is {A B : List Nat} (hA : A ≠ []) (hB : B ≠ []) (wide : Bool) : ∃ id T3, UniF A B (if wide then zO else zI) id T3 := by
  cases wide with
  | false =>
    by_cases h : B.map tagN = A.map tagN
    · refine ⟨1, T1U A, uni_same h, opL_plain ?_ ?_, by simp [T1U], by simp [T1U], ?_⟩
      · intro k hk; simp [T1U] at hk; rcases hk with rfl | rfl <;> simp [kzI, uniK]
      · intro k hk; simp [T1U] at hk; rcases hk with rfl | rfl <;> simp [kzI, uniK]
      · rw [leL, holds_same, h]
        exact (List.all_eq_true.2 fun n hn => decide_eq_true hn).symm
    · refine ⟨2, _, uni_other h, opL_plain ?_ ?_, by simp [T1U], by simp [T1U], uni_le 0 (by simp [T1U]) (by simp [T1U]) (by omega) (by simp [T1U]) (.inl rfl)⟩
      · intro k hk; simp [T1U] at hk; rcases hk with rfl | rfl | rfl <;> simp [kzI, uniK]
      · intro k hk; simp [T1U] at hk; rcases hk with rfl | rfl | rfl <;> simp [kzI, uniK]
  | true =>
    refine ⟨3, _, uni_wide hA hB, opL_plain ?_ ?_, by simp [T1U], by simp [T1U], uni_le 2 (by simp [T1U]) (by simp [T1U]) (by omega) (by simp [T1U]) (.inr fun f S => ?_)⟩
    · intro k hk; simp [T1U] at hk; rcases hk with rfl | rfl | rfl | rfl <;> simp [kzI, kzO, uniK]
    · intro k hk; simp [T1U] at hk; rcases hk with rfl | rfl | rfl | rfl <;> simp [kzI, kzO, uniK]
    · rw [holdsL]
      split
      · rfl
      · rw [openK_stop _ _ _ 0 (by simp [T1U, kzI]), openK_stop _ _ _ 2 (by simp [T1U, kzO])]
        unfold openL
        rw [if_pos (by simp [T1U, kzI, kzO])]
        rw [show (List.getD (T1U A ++ [kzO] ++ [uniK B 2]) 2 default).kids.getD 0 0 = 0 by simp [T1U, kzO]]
        rw [holds_same]
theorem tagN_inj {k j : Nat} (hk : k < 8) (hj : j < 8) (h : tagN k = tagN j) : k = j := by
  unfold tagN at h
  injection h with h
  have := congrArg UInt8.toNat h
  simp at this
  omega
/-- All of the first's tags are the other's. -/
theorem uni_all (f g : Nat → Bool) : (((widL f 8).map tagN).all fun n => decide (n ∈ (widL g 8).map tagN)) = (List.range 8).all fun k => !f k || g k := by
  rw [Bool.eq_iff_iff, List.all_eq_true, List.all_eq_true]
  have mem : ∀ (h : Nat → Bool) k, k ∈ widL h 8 ↔ k < 8 ∧ h k = true := fun h k => by unfold widL; rw [List.mem_filter, List.mem_range]
  constructor
  · intro h k hk
    have hk8 := List.mem_range.1 hk
    cases hf : f k with
    | false => rfl
    | true =>
      have := of_decide_eq_true (h (tagN k) (List.mem_map.2 ⟨k, (mem f k).2 ⟨hk8, hf⟩, rfl⟩))
      obtain ⟨j, hj, e⟩ := List.mem_map.1 this
      obtain ⟨hj8, hg⟩ := (mem g j).1 hj
      rw [← tagN_inj hj8 hk8 e, hg]; rfl
  · intro h n hn
    obtain ⟨k, hk, rfl⟩ := List.mem_map.1 hn
    obtain ⟨hk8, hf⟩ := (mem f k).1 hk
    have := h k (List.mem_range.2 hk8)
    rw [hf] at this
    exact decide_eq_true (List.mem_map.2 ⟨k, (mem g k).2 ⟨hk8, by simpa using this⟩, rfl⟩)
/-- What is asked of each row of names alone. -/
def uniA (m : Nat) : Bool := decide ((widM m).length = 0) || [zI, zO].all fun z => fitZ (uniX (widM m) z) && (shortZ (uniX (widM m) z) && (okK (hasZ ([] : List NT)) (uniX (widM m) z) && (decide (sizeZ (uniX (widM m) z) ≤ 400) && decide (refC ⟨uniX (widM m) z, [], []⟩ = 0))))
set_option maxRecDepth 100000
theorem uniA_0 : (List.range 64).all (fun m => uniA (0 + m)) = true := by kernel_rfl
theorem uniA_1 : (List.range 64).all (fun m => uniA (64 + m)) = true := by kernel_rfl
theorem uniA_2 : (List.range 64).all (fun m => uniA (128 + m)) = true := by kernel_rfl
theorem uniA_3 : (List.range 64).all (fun m => uniA (192 + m)) = true := by kernel_rfl
theorem uniA_all {m : Nat} (h : m < 256) : uniA m = true := by
  have a0 := fun k (hk : k < 64) => List.all_eq_true.1 uniA_0 k (List.mem_range.2 hk)
  have a1 := fun k (hk : k < 64) => List.all_eq_true.1 uniA_1 k (List.mem_range.2 hk)
  have a2 := fun k (hk : k < 64) => List.all_eq_true.1 uniA_2 k (List.mem_range.2 hk)
  have a3 := fun k (hk : k < 64) => List.all_eq_true.1 uniA_3 k (List.mem_range.2 hk)
  rcases (by omega : m < 64 ∨ (64 ≤ m ∧ m < 128) ∨ (128 ≤ m ∧ m < 192) ∨ 192 ≤ m) with h | h | h | h
  · have := a0 m h; rwa [Nat.zero_add] at this
  · have := a1 (m - 64) (by omega); rwa [show 64 + (m - 64) = m by omega] at this
  · have := a2 (m - 128) (by omega); rwa [show 128 + (m - 128) = m by omega] at this
  · have := a3 (m - 192) (by omega); rwa [show 192 + (m - 192) = m by omega] at this
structure UniZ (t : Tz) : Prop where
  fit : fitZ t = true
  short : shortZ t = true
  ok : okK (hasZ ([] : List NT)) t = true
  size : sizeZ t ≤ 400
  ref : refC ⟨t, [], []⟩ = 0
theorem uni_z (f : Nat → Bool) (h : widL f 8 ≠ []) {z : Tz} (hz : z ∈ [zI, zO]) : UniZ (uniX (widL f 8) z) := by
  have a := uniA_all (widN_lt f 8)
  unfold uniA at a
  rw [widM_of, Bool.or_eq_true, decide_eq_true_eq, List.length_eq_zero_iff] at a
  have b := List.all_eq_true.1 (a.resolve_left h) z hz
  simp only [Bool.and_eq_true, decide_eq_true_eq] at b
  obtain ⟨b1, b2, b3, b4, b5⟩ := b
  exact ⟨b1, b2, b3, b4, b5⟩
theorem uni_new {A : List Nat} (hA : A ≠ []) (hz : UniZ (uniX A zI)) : newK ⟨uniX A zI, [], []⟩ = (0, ⟨T1U A, [], [], 1⟩) := by
  unfold newK
  rw [if_neg (by simp [hz.ref])]
  unfold schemaK
  have e : addK (hasZ ([] : List NT)) [] (uniX A zI) = (1, 0, T1U A) := by rw [addK_ok hz.ok hz.size, uni_first hA]
  simp only [namK, zerosN, List.map_nil, e, fnsK]
  rfl
theorem uni_add {A B : List Nat} {z : Tz} {id : Nat} {T3 : List Kz} (hz : UniZ (uniX B z)) (h : UniF A B z id T3) : addK (hasZ ([] : List NN)) (T1U A) (uniX B z) = (id, 0, T3) := by
  have : hasZ ([] : List NN) = hasZ ([] : List NT) := rfl
  rw [this, addK_ok hz.ok hz.size, h.add]
end Sp
end Go.Proofs.Yteooafgdmpbjeab
