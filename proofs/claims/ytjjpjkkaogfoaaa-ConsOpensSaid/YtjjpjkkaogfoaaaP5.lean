/- Tables of types, each once, as plain functions. No program is named here. -/
import Derived.Test.YtjjpjkkaogfoaaaZPure
import Derived.Test.YtjjpjkkaogfoaaaZMem
import Derived.DeepKeys4
import Derived.Test.YtjjpjkkaogfoaaaZGrow
import Derived.Deep.AppendLies
import Derived.Test.YtjjpjkkaogfoaaaRows
import Derived.WalkKit
import Derived.Deep.MidRow
import Derived.Laws.CopyRow
import Derived.Deep.QuietTactic
import Derived.StillTailTactics
import Derived.Test.YtjjpjkkaogfoaaaShelf
import Derived.Deep.CutBlock
import Derived.Deep.DeepCutAuto
import Derived.BigQuiet
import Derived.Carry
import Derived.RegionTactic
import Derived.Test.YtjjpjkkaogfoaaaDrawG
import Derived.Test.YtjjpjkkaogfoaaaP1
import Derived.Test.YtjjpjkkaogfoaaaZCheck
import Derived.Test.YtjjpjkkaogfoaaaP2
namespace Go.Proofs.Ytjjpjkkaogfoaaa
namespace Sp
open Sc

/-- A type whose kids are numbers. -/
structure Kz where
  kind : Int
  name : List UInt8
  names : List (List UInt8)
  kids : List Nat
deriving DecidableEq, Inhabited

/-- The number of the type that is there, or the next one. -/
def numK (T : List Kz) (k : Kz) : Nat × Nat × List Kz := if k ∈ T then (T.idxOf k, 0, T) else if 120 ≤ T.length then (0, 20, T) else (T.length, 0, T ++ [k])
mutual
def treeK (T : List Kz) : Tz → Nat × Nat × List Kz
  | .mk k nm ns ks => if (kidsK T ks).2.1 = 0 then numK (kidsK T ks).2.2 ⟨k, nm, ns, (kidsK T ks).1⟩ else (0, (kidsK T ks).2.1, (kidsK T ks).2.2)
def kidsK (T : List Kz) : List Tz → List Nat × Nat × List Kz
  | [] => ([], 0, T)
  | t :: ks => if (treeK T t).2.1 = 0 then ((treeK T t).1 :: (kidsK (treeK T t).2.2 ks).1, (kidsK (treeK T t).2.2 ks).2) else ([], (treeK T t).2)
end
theorem kidsK_append : ∀ (T : List Kz) (a b : List Tz), kidsK T (a ++ b) = if (kidsK T a).2.1 = 0 then ((kidsK T a).1 ++ (kidsK (kidsK T a).2.2 b).1, (kidsK (kidsK T a).2.2 b).2) else kidsK T a
  | T, [], b => by simp [kidsK]
  | T, t :: a, b => by
    rw [List.cons_append, kidsK, kidsK]
    by_cases h : (treeK T t).2.1 = 0
    · rw [if_pos h, if_pos h, kidsK_append _ a b]
      dsimp only
      split
      · rfl
      · rfl
    · rw [if_neg h, if_neg h, if_neg h]
theorem kidsK_snoc (T : List Kz) (a : List Tz) (t : Tz) : kidsK T (a ++ [t]) = if (kidsK T a).2.1 = 0 then (if (treeK (kidsK T a).2.2 t).2.1 = 0 then ((kidsK T a).1 ++ [(treeK (kidsK T a).2.2 t).1], (0, (treeK (kidsK T a).2.2 t).2.2)) else ((kidsK T a).1, (treeK (kidsK T a).2.2 t).2)) else kidsK T a := by
  rw [kidsK_append]
  split
  · simp only [kidsK]
    by_cases h : (treeK (kidsK T a).2.2 t).2.1 = 0
    · rw [if_pos h, if_pos h]
    · rw [if_neg h, if_neg h]; simp
  · rfl
/-- What stops within a front stops the whole. -/
theorem kidsK_bad {T : List Kz} {ks : List Tz} {i : Nat} (h : (kidsK T (ks.take i)).2.1 ≠ 0) : kidsK T ks = kidsK T (ks.take i) := by
  have := kidsK_append T (ks.take i) (ks.drop i)
  rwa [List.take_append_drop, if_neg h] at this

/-- What is wrong with a type that is added, and how many types were gone through. -/
def ownC (has : List UInt8 → Bool) (k : Int) (nm : List UInt8) (ns : List (List UInt8)) (nk : Nat) : Nat :=
  if 8 < nk then 3 else if k < 1 ∨ 9 < k then 1 else if formB k nm ns nk = false then 12 else if k = 9 ∧ has nm = false then 15 else 0
mutual
def oneC (has : List UInt8 → Bool) (n : Nat) : Tz → Nat × Nat
  | .mk k nm ns ks => if 400 < n + 1 then (3, n + 1) else if ownC has k nm ns ks.length ≠ 0 then (ownC has k nm ns ks.length, n + 1) else allC has (n + 1) ks
def allC (has : List UInt8 → Bool) (n : Nat) : List Tz → Nat × Nat
  | [] => (0, n)
  | t :: ks => if (oneC has n t).1 = 0 then allC has (oneC has n t).2 ks else oneC has n t
end
mutual
/-- A type that may be added, but for its size. -/
def okK (has : List UInt8 → Bool) : Tz → Bool
  | .mk k nm ns ks => decide (ownC has k nm ns ks.length = 0) && okKs has ks
def okKs (has : List UInt8 → Bool) : List Tz → Bool
  | [] => true
  | t :: ks => okK has t && okKs has ks
end
mutual
theorem oneC_ok (has : List UInt8 → Bool) : ∀ (t : Tz) (n : Nat), (oneC has n t).1 = 0 → okK has t = true ∧ (oneC has n t).2 = n + sizeZ t ∧ n + sizeZ t ≤ 400
  | .mk k nm ns ks, n, h => by
    rw [oneC] at h ⊢
    split at h
    · cases h
    · rename_i h1
      split at h
      · rename_i h2; exact absurd h h2
      · rename_i h2
        have h3 : ownC has k nm ns ks.length = 0 := by simpa using h2
        obtain ⟨a, b, c⟩ := allC_ok has ks (n + 1) h (by omega)
        rw [if_neg h1, if_neg h2, okK, a, sizeZ]
        exact ⟨by simp [h3], by omega, by omega⟩
theorem allC_ok (has : List UInt8 → Bool) : ∀ (ks : List Tz) (n : Nat), (allC has n ks).1 = 0 → n ≤ 400 → okKs has ks = true ∧ (allC has n ks).2 = n + sizeZs ks ∧ n + sizeZs ks ≤ 400
  | [], n, _, hn => ⟨rfl, by simp [allC, sizeZs], by simpa [sizeZs] using hn⟩
  | t :: ks, n, h, hn => by
    rw [allC] at h ⊢
    split at h
    · rename_i h1
      obtain ⟨a, b, c⟩ := oneC_ok has t n h1
      obtain ⟨d, e, f⟩ := allC_ok has ks _ h (by omega)
      rw [if_pos h1, okKs, a, d, sizeZs]
      exact ⟨rfl, by omega, by omega⟩
    · rename_i h1; exact absurd h h1
end
mutual
theorem oneC_of (has : List UInt8 → Bool) : ∀ (t : Tz) (n : Nat), okK has t = true → n + sizeZ t ≤ 400 → oneC has n t = (0, n + sizeZ t)
  | .mk k nm ns ks, n, h, hs => by
    rw [okK, Bool.and_eq_true, decide_eq_true_eq] at h
    rw [sizeZ] at hs ⊢
    rw [oneC, if_neg (by omega), if_neg (by omega), allC_of has ks (n + 1) h.2 (by omega)]
    congr 1; omega
theorem allC_of (has : List UInt8 → Bool) : ∀ (ks : List Tz) (n : Nat), okKs has ks = true → n + sizeZs ks ≤ 400 → allC has n ks = (0, n + sizeZs ks)
  | [], n, _, _ => by simp [allC, sizeZs]
  | t :: ks, n, h, hs => by
    rw [okKs, Bool.and_eq_true] at h
    rw [sizeZs] at hs ⊢
    have := sizeZ_pos t
    rw [allC, oneC_of has t n h.1 (by omega), if_pos rfl, allC_of has ks _ h.2 (by omega)]
    congr 1; omega
end
theorem okKs_mem {has : List UInt8 → Bool} : ∀ {ks : List Tz}, okKs has ks = true → ∀ t ∈ ks, okK has t = true
  | t :: ks, h, x, hx => by
    rw [okKs, Bool.and_eq_true] at h
    rcases List.mem_cons.1 hx with rfl | hx
    · exact h.1
    · exact okKs_mem h.2 x hx
theorem okKs_of {has : List UInt8 → Bool} {ks : List Tz} (h : ∀ t ∈ ks, okK has t = true) : okKs has ks = true := by
  induction ks with
  | nil => rfl
  | cons t ks ih => rw [okKs, h t List.mem_cons_self, ih (fun x hx => h x (List.mem_cons_of_mem _ hx))]; rfl
/-- What a key says is what its kind asks. -/
structure WfK (k : Kz) : Prop where
  rng : 1 ≤ k.kind ∧ k.kind ≤ 9
  few : k.kids.length ≤ 8
  form : k.names.length = if k.kind = 7 ∨ k.kind = 8 then k.kids.length else 0
theorem WfK.names8 {k : Kz} (h : WfK k) : k.names.length ≤ 8 := by
  have := h.form; have := h.few; split at * <;> omega
theorem wfK_of {has : List UInt8 → Bool} {k : Int} {nm : List UInt8} {ns : List (List UInt8)} {ids : List Nat} (h : ownC has k nm ns ids.length = 0) : WfK ⟨k, nm, ns, ids⟩ := by
  unfold ownC at h
  by_cases h1 : 8 < ids.length
  · rw [if_pos h1] at h; cases h
  · rw [if_neg h1] at h
    by_cases h2 : k < 1 ∨ 9 < k
    · rw [if_pos h2] at h; cases h
    · rw [if_neg h2] at h
      by_cases h3 : formB k nm ns ids.length = false
      · rw [if_pos h3] at h; cases h
      · refine ⟨by dsimp only; omega, by dsimp only; omega, ?_⟩
        dsimp only
        unfold formB at h3
        simp only [Bool.not_eq_false, Bool.and_eq_true, Bool.or_eq_true, decide_eq_true_eq] at h3
        obtain ⟨⟨h4, _⟩, h5⟩ := h3
        unfold kidsN at h4
        split
        · rename_i h6
          rw [if_neg (by omega), if_pos h6] at h4; omega
        · rename_i h6; rcases h5 with h5 | h5
          · exact h5
          · exact absurd h5 h6

/-- A table: each type once, kids ahead. -/
structure TabW (T : List Kz) : Prop where
  nd : T.Nodup
  len : T.length ≤ 120
  kids : ∀ i (h : i < T.length), ∀ j ∈ T[i].kids, j < i
  wf : ∀ k ∈ T, WfK k
theorem TabW.nil : TabW [] := ⟨List.nodup_nil, by simp, (fun i h => by cases h), (fun k h => by cases h)⟩
theorem numK_grow (T : List Kz) (k : Kz) : T <+: (numK T k).2.2 := by
  unfold numK
  split
  · exact List.prefix_refl _
  · split
    · exact List.prefix_refl _
    · exact List.prefix_append _ _
mutual
theorem treeK_grow : ∀ (t : Tz) (T : List Kz), T <+: (treeK T t).2.2
  | .mk k nm ns ks, T => by
    rw [treeK]
    split
    · exact (kidsK_grow ks T).trans (numK_grow _ _)
    · exact kidsK_grow ks T
theorem kidsK_grow : ∀ (ks : List Tz) (T : List Kz), T <+: (kidsK T ks).2.2
  | [], T => by rw [kidsK]; exact List.prefix_refl _
  | t :: ks, T => by
    rw [kidsK]
    split
    · exact (treeK_grow t T).trans (kidsK_grow ks _)
    · exact treeK_grow t T
end
theorem numK_e (T : List Kz) (k : Kz) : (numK T k).2.1 = 0 ∨ (numK T k).2.1 = 20 := by
  unfold numK; split
  · exact .inl rfl
  · split
    · exact .inr rfl
    · exact .inl rfl
mutual
theorem treeK_e : ∀ (t : Tz) (T : List Kz), (treeK T t).2.1 = 0 ∨ (treeK T t).2.1 = 20
  | .mk k nm ns ks, T => by
    rw [treeK]
    split
    · exact numK_e _ _
    · exact kidsK_e ks T
theorem kidsK_e : ∀ (ks : List Tz) (T : List Kz), (kidsK T ks).2.1 = 0 ∨ (kidsK T ks).2.1 = 20
  | [], T => by rw [kidsK]; exact .inl rfl
  | t :: ks, T => by
    rw [kidsK]
    split
    · exact kidsK_e ks _
    · exact treeK_e t T
end
theorem idxOf_in {T r : List Kz} {k : Kz} (h : k ∈ T) : (T ++ r).idxOf k = T.idxOf k := by rw [List.idxOf_append, if_pos h]
theorem idxOf_end {T : List Kz} {k : Kz} (h : ¬ k ∈ T) : (T ++ [k]).idxOf k = T.length := by rw [List.idxOf_append, if_neg h]; simp
theorem idxOf_at {T : List Kz} (hd : T.Nodup) (i : Nat) (hi : i < T.length) : T.idxOf T[i] = i := by
  have h1 := List.idxOf_lt_length_iff.2 (List.getElem_mem hi)
  exact (List.getElem_inj (h₀ := h1) (h₁ := hi) hd).1 (List.getElem_idxOf h1)
/-- What a number's being given says. -/
theorem numK_ok {T T' : List Kz} {k : Kz} {i : Nat} (h : numK T k = (i, 0, T')) : k ∈ T' ∧ i = T'.idxOf k ∧ (T' = T ∨ (T' = T ++ [k] ∧ k ∉ T ∧ T.length < 120)) := by
  unfold numK at h
  split at h
  · rename_i h1
    simp only [Prod.mk.injEq] at h
    obtain ⟨rfl, -, rfl⟩ := h
    exact ⟨h1, rfl, .inl rfl⟩
  · rename_i h1
    split at h
    · simp at h
    · rename_i h2
      simp only [Prod.mk.injEq] at h
      obtain ⟨rfl, -, rfl⟩ := h
      exact ⟨by simp, (idxOf_end h1).symm, .inr ⟨rfl, h1, by omega⟩⟩
theorem numK_there {T : List Kz} {k : Kz} (h : k ∈ T) : numK T k = (T.idxOf k, 0, T) := by unfold numK; exact if_pos h
theorem idx_prefix {T T' : List Kz} (h : T <+: T') {k : Kz} (hk : k ∈ T) : T'.idxOf k = T.idxOf k := by
  obtain ⟨r, rfl⟩ := h
  exact idxOf_in hk
theorem get_prefix {T T' : List Kz} (h : T <+: T') {i : Nat} (hi : i < T.length) : ∃ hi' : i < T'.length, T'[i] = T[i] := by
  obtain ⟨r, rfl⟩ := h
  exact ⟨by simp; omega, List.getElem_append_left hi⟩
theorem get_idx {T : List Kz} {k : Kz} (hk : k ∈ T) : ∃ h : T.idxOf k < T.length, T[T.idxOf k] = k := ⟨List.idxOf_lt_length_iff.2 hk, List.getElem_idxOf (List.idxOf_lt_length_iff.2 hk)⟩

/-! ### Trees of numbers -/
def typK (T : List Kz) : Nat → Nat → Tz
  | 0, _ => .mk 0 [] [] []
  | f + 1, i => match T[i]? with | some k => .mk k.kind k.name k.names (k.kids.map (typK T f)) | none => .mk 0 [] [] []
def typT (T : List Kz) (i : Nat) : Tz := typK T (i + 1) i
theorem typK_some {T : List Kz} {f i : Nat} (h : i < T.length) : typK T (f + 1) i = .mk T[i].kind T[i].name T[i].names (T[i].kids.map (typK T f)) := by rw [typK, List.getElem?_eq_getElem h]
theorem typK_none {T : List Kz} {f i : Nat} (h : T.length ≤ i) : typK T f i = .mk 0 [] [] [] := by
  cases f with
  | zero => rfl
  | succ f => rw [typK, List.getElem?_eq_none h]
theorem typK_fuel {T : List Kz} (hT : ∀ i (h : i < T.length), ∀ j ∈ T[i].kids, j < i) : ∀ (f g i : Nat), i < f → i < g → typK T f i = typK T g i
  | 0, _, _, h, _ => by omega
  | _ + 1, 0, _, _, h => by omega
  | f + 1, g + 1, i, hf, hg => by
    by_cases hi : i < T.length
    · rw [typK_some hi, typK_some hi]
      congr 1
      exact List.map_congr_left fun j hj => typK_fuel hT f g j (by have := hT i hi j hj; omega) (by have := hT i hi j hj; omega)
    · rw [typK_none (by omega), typK_none (by omega)]
theorem typT_at {T : List Kz} (hT : ∀ i (h : i < T.length), ∀ j ∈ T[i].kids, j < i) {i : Nat} (h : i < T.length) : typT T i = .mk T[i].kind T[i].name T[i].names (T[i].kids.map (typT T)) := by
  unfold typT
  rw [typK_some h]
  congr 1
  exact List.map_congr_left fun j hj => typK_fuel hT _ _ j (hT i h j hj) (by omega)
theorem typK_prefix {T T' : List Kz} (hp : T <+: T') (hT : ∀ i (h : i < T.length), ∀ j ∈ T[i].kids, j < i) : ∀ (f i : Nat), i < T.length → typK T' f i = typK T f i
  | 0, _, _ => rfl
  | f + 1, i, hi => by
    obtain ⟨hi', e⟩ := get_prefix hp hi
    rw [typK_some hi, typK_some hi', e]
    congr 1
    exact List.map_congr_left fun j hj => typK_prefix hp hT f j (by have := hT i hi j hj; omega)
theorem typT_prefix {T T' : List Kz} (hp : T <+: T') (hT : ∀ i (h : i < T.length), ∀ j ∈ T[i].kids, j < i) {i : Nat} (hi : i < T.length) : typT T' i = typT T i := typK_prefix hp hT _ _ hi

theorem numK_wf {T : List Kz} {k : Kz} (hT : TabW T) (hk : WfK k) (hj : ∀ j ∈ k.kids, j < T.length) : TabW (numK T k).2.2 := by
  unfold numK
  split
  · exact hT
  · rename_i h1
    split
    · exact hT
    · rename_i h2
      refine ⟨?_, by simp; omega, fun i hi j hjm => ?_, fun x hx => ?_⟩
      · rw [List.nodup_append]
        exact ⟨hT.nd, by simp, fun a ha b hb e => h1 (by rw [List.mem_singleton.1 hb] at e; exact e ▸ ha)⟩
      · simp only [List.length_append, List.length_singleton] at hi
        by_cases h : i < T.length
        · rw [List.getElem_append_left h] at hjm; exact hT.kids i h j hjm
        · rw [List.getElem_append_right (by omega)] at hjm
          simp at hjm
          have := hj j hjm; omega
      · rcases List.mem_append.1 hx with hx | hx
        · exact hT.wf x hx
        · rw [List.mem_singleton.1 hx]; exact hk
mutual
/-- A type that is added: the table stays one; its number's tree is it. -/
theorem treeK_wf {has : List UInt8 → Bool} : ∀ (t : Tz) (T : List Kz), TabW T → okK has t = true → TabW (treeK T t).2.2 ∧ ((treeK T t).2.1 = 0 → (treeK T t).1 < (treeK T t).2.2.length ∧ typT (treeK T t).2.2 (treeK T t).1 = t)
  | .mk k nm ns ks, T, hT, hk => by
    rw [okK, Bool.and_eq_true, decide_eq_true_eq] at hk
    obtain ⟨a, b⟩ := kidsK_wf ks T hT hk.2
    rw [treeK]
    by_cases h : (kidsK T ks).2.1 = 0
    · rw [if_pos h]
      obtain ⟨b1, b2, b3⟩ := b h
      obtain ⟨ids, hids⟩ : ∃ ids, (kidsK T ks).1 = ids := ⟨_, rfl⟩
      obtain ⟨T1, hT1⟩ : ∃ T1, (kidsK T ks).2.2 = T1 := ⟨_, rfl⟩
      rw [hids, hT1] at b2 b3
      rw [hids] at b1
      rw [hT1] at a
      rw [hids, hT1]
      have hw := numK_wf a (k := ⟨k, nm, ns, ids⟩) (wfK_of (by rw [b1]; exact hk.1)) b2
      refine ⟨hw, fun he => ?_⟩
      obtain ⟨⟨i, e, T2⟩, h2⟩ : ∃ p, numK T1 ⟨k, nm, ns, ids⟩ = p := ⟨_, rfl⟩
      rw [h2] at he hw ⊢
      dsimp only at he hw ⊢
      subst he
      obtain ⟨c1, c2, c3⟩ := numK_ok h2
      obtain ⟨d1, d2⟩ := get_idx c1
      rw [← c2] at d1
      refine ⟨d1, ?_⟩
      have d3 : T2[i] = ⟨k, nm, ns, ids⟩ := by subst c2; exact d2
      rw [typT_at hw.kids d1, d3]
      dsimp only
      congr 1
      have hp : T1 <+: T2 := by have := numK_grow T1 ⟨k, nm, ns, ids⟩; rw [h2] at this; exact this
      rw [← b3]
      exact List.map_congr_left fun j hj => typT_prefix hp a.kids (b2 j hj)
    · rw [if_neg h]; exact ⟨a, fun he => absurd he h⟩
theorem kidsK_wf {has : List UInt8 → Bool} : ∀ (ks : List Tz) (T : List Kz), TabW T → okKs has ks = true → TabW (kidsK T ks).2.2 ∧ ((kidsK T ks).2.1 = 0 → (kidsK T ks).1.length = ks.length ∧ (∀ j ∈ (kidsK T ks).1, j < (kidsK T ks).2.2.length) ∧ (kidsK T ks).1.map (typT (kidsK T ks).2.2) = ks)
  | [], T, hT, _ => by rw [kidsK]; exact ⟨hT, fun _ => ⟨rfl, (fun j hj => by cases hj), rfl⟩⟩
  | t :: ks, T, hT, hk => by
    rw [okKs, Bool.and_eq_true] at hk
    obtain ⟨a, b⟩ := treeK_wf t T hT hk.1
    rw [kidsK]
    by_cases h : (treeK T t).2.1 = 0
    · rw [if_pos h]
      obtain ⟨b1, b2⟩ := b h
      obtain ⟨c, d⟩ := kidsK_wf ks _ a hk.2
      refine ⟨c, fun he => ?_⟩
      obtain ⟨d1, d2, d3⟩ := d he
      have hp := kidsK_grow ks (treeK T t).2.2
      refine ⟨by simp [d1], fun j hj => ?_, ?_⟩
      · rcases List.mem_cons.1 hj with rfl | hj
        · exact Nat.lt_of_lt_of_le b1 hp.length_le
        · exact d2 j hj
      · rw [List.map_cons, d3, typT_prefix hp a.kids b1, b2]
    · rw [if_neg h]; exact ⟨a, fun he => absurd he h⟩
end
mutual
/-- Added again, it is there. -/
theorem treeK_again : ∀ (t : Tz) (T T2 : List Kz), (treeK T t).2.1 = 0 → (treeK T t).2.2 <+: T2 → treeK T2 t = ((treeK T t).1, 0, T2)
  | .mk k nm ns ks, T, T2, he, hp => by
    rw [treeK] at he hp ⊢
    by_cases h : (kidsK T ks).2.1 = 0
    · rw [if_pos h] at he hp
      have hk := kidsK_again ks T T2 h ((numK_grow _ _).trans hp)
      rw [hk, treeK, if_pos h]
      dsimp only
      rw [if_pos rfl]
      obtain ⟨⟨i, e, T3⟩, h2⟩ : ∃ p, numK (kidsK T ks).2.2 ⟨k, nm, ns, (kidsK T ks).1⟩ = p := ⟨_, rfl⟩
      rw [h2] at he hp ⊢
      dsimp only at he hp ⊢
      subst he
      obtain ⟨c1, c2, -⟩ := numK_ok h2
      rw [numK_there (hp.subset c1), idx_prefix hp c1, ← c2]
    · rw [if_neg h] at he; exact absurd he h
theorem kidsK_again : ∀ (ks : List Tz) (T T2 : List Kz), (kidsK T ks).2.1 = 0 → (kidsK T ks).2.2 <+: T2 → kidsK T2 ks = ((kidsK T ks).1, 0, T2)
  | [], T, T2, _, _ => by rw [kidsK, kidsK]
  | t :: ks, T, T2, he, hp => by
    rw [kidsK] at he hp ⊢
    by_cases h : (treeK T t).2.1 = 0
    · rw [if_pos h] at he hp
      have h1 := treeK_again t T T2 h ((kidsK_grow ks _).trans hp)
      have h2 := kidsK_again ks _ T2 he hp
      rw [h1]
      dsimp only
      rw [if_pos rfl, h2, kidsK, if_pos h]
    · rw [if_neg h] at he; exact absurd he h
end
/-- The tree of a number has that number. -/
theorem typT_again {T : List Kz} (hT : TabW T) : ∀ (n i : Nat), i < n → i < T.length → treeK T (typT T i) = (i, 0, T)
  | 0, _, h, _ => by omega
  | n + 1, i, hn, hi => by
    have key : ∀ ids : List Nat, (∀ j ∈ ids, j < i) → kidsK T (ids.map (typT T)) = (ids, 0, T) := by
      intro ids
      induction ids with
      | nil => intro _; rw [List.map_nil, kidsK]
      | cons j ids ih =>
        intro h
        have hj := h j List.mem_cons_self
        rw [List.map_cons, kidsK, typT_again hT n j (by omega) (by omega)]
        dsimp only
        rw [if_pos rfl, ih fun x hx => h x (List.mem_cons_of_mem _ hx)]
    rw [typT_at hT.kids hi, treeK, key _ (hT.kids i hi)]
    dsimp only
    rw [if_pos rfl, numK_there (List.getElem_mem hi)]
    congr 1
    exact idxOf_at hT.nd i hi
/-- A table of types that may be, none greater than M. -/
structure TabG (has : List UInt8 → Bool) (M : Nat) (T : List Kz) : Prop extends TabW T where
  ok : ∀ i, i < T.length → okK has (typT T i) = true ∧ sizeZ (typT T i) ≤ M
theorem TabG.nil {has : List UInt8 → Bool} {M : Nat} : TabG has M [] := ⟨TabW.nil, fun i h => by cases h⟩
mutual
theorem treeK_g {has : List UInt8 → Bool} {M : Nat} : ∀ (t : Tz) (T : List Kz), TabG has M T → okK has t = true → sizeZ t ≤ M → TabG has M (treeK T t).2.2
  | .mk k nm ns ks, T, hT, hk, hM => by
    have hw := treeK_wf (.mk k nm ns ks) T hT.toTabW hk
    have hk' := hk
    rw [okK, Bool.and_eq_true] at hk
    have hM' := hM
    rw [sizeZ] at hM
    have hg := kidsK_g ks T hT hk.2 (by omega)
    refine ⟨hw.1, fun i hi => ?_⟩
    obtain ⟨hw1, hw2⟩ := hw
    rw [treeK] at hw1 hw2 hi ⊢
    by_cases h : (kidsK T ks).2.1 = 0
    · rw [if_pos h] at hw1 hw2 hi ⊢
      obtain ⟨⟨j, e, T2⟩, h2⟩ : ∃ p, numK (kidsK T ks).2.2 ⟨k, nm, ns, (kidsK T ks).1⟩ = p := ⟨_, rfl⟩
      rw [h2] at hw1 hw2 hi ⊢
      dsimp only at hw1 hw2 hi ⊢
      by_cases hi2 : i < (kidsK T ks).2.2.length
      · have hp := numK_grow (kidsK T ks).2.2 ⟨k, nm, ns, (kidsK T ks).1⟩
        rw [h2] at hp
        rw [typT_prefix hp hg.kids hi2]
        exact hg.ok i hi2
      · by_cases he : e = 0
        · obtain ⟨c1, c2⟩ := hw2 he
          subst he
          obtain ⟨d1, d2, d3⟩ := numK_ok h2
          rcases d3 with d3 | ⟨d3, d4, -⟩
          · rw [d3] at hi; exact absurd hi hi2
          · have : i = j := by
              rw [d2, d3, idxOf_end d4]
              rw [d3] at hi
              simp at hi; omega
            rw [this, c2]
            exact ⟨hk', hM'⟩
        · have : T2 = (kidsK T ks).2.2 := by
            unfold numK at h2
            split at h2
            · simp only [Prod.mk.injEq] at h2; exact h2.2.2.symm
            · split at h2
              · simp only [Prod.mk.injEq] at h2; exact h2.2.2.symm
              · simp only [Prod.mk.injEq] at h2; exact absurd h2.2.1.symm he
          rw [this] at hi; exact absurd hi hi2
    · rw [if_neg h] at hi ⊢; exact hg.ok i hi
theorem kidsK_g {has : List UInt8 → Bool} {M : Nat} : ∀ (ks : List Tz) (T : List Kz), TabG has M T → okKs has ks = true → sizeZs ks ≤ M → TabG has M (kidsK T ks).2.2
  | [], T, hT, _, _ => by rw [kidsK]; exact hT
  | t :: ks, T, hT, hk, hM => by
    rw [okKs, Bool.and_eq_true] at hk
    rw [sizeZs] at hM
    have := treeK_g t T hT hk.1 (by omega)
    rw [kidsK]
    split
    · exact kidsK_g ks _ this hk.2 (by omega)
    · exact this
end
/-- How many there may be: as many more as it has types. -/
theorem numK_len (T : List Kz) (k : Kz) : (numK T k).2.2.length ≤ T.length + 1 := by
  unfold numK; split
  · simp
  · split <;> simp
mutual
theorem treeK_len : ∀ (t : Tz) (T : List Kz), (treeK T t).2.2.length ≤ T.length + sizeZ t
  | .mk k nm ns ks, T => by
    have h1 := kidsK_len ks T
    rw [treeK, sizeZ]
    split
    · have := numK_len (kidsK T ks).2.2 ⟨k, nm, ns, (kidsK T ks).1⟩; omega
    · dsimp only; omega
theorem kidsK_len : ∀ (ks : List Tz) (T : List Kz), (kidsK T ks).2.2.length ≤ T.length + sizeZs ks
  | [], T => by rw [kidsK]; simp [sizeZs]
  | t :: ks, T => by
    have h1 := treeK_len t T
    rw [kidsK, sizeZs]
    split
    · have := kidsK_len ks (treeK T t).2.2; dsimp only; omega
    · dsimp only; omega
end
end Sp
end Go.Proofs.Ytjjpjkkaogfoaaa

namespace Go.Proofs.Ytjjpjkkaogfoaaa
namespace Sp
open Sc

abbrev NN := List UInt8 × Nat
/-- A function: the numbers of what it takes and answers. -/
abbrev GN := List UInt8 × List Nat × Nat
structure Tab where
  T : List Kz
  N : List NN
  G : List GN
  m : Nat
deriving Inhabited

def addK (has : List UInt8 → Bool) (T : List Kz) (t : Tz) : Nat × Nat × List Kz := if (oneC has 0 t).1 ≠ 0 then (0, (oneC has 0 t).1, T) else treeK T t
theorem addK_ok {has : List UInt8 → Bool} {T : List Kz} {t : Tz} (h : okK has t = true) (hs : sizeZ t ≤ 400) : addK has T t = treeK T t := by
  unfold addK; rw [oneC_of has t 0 h (by omega), if_neg (by simp)]
def lookN (N : List NN) (nm : List UInt8) : Nat := (lastN N nm).getD 0
end Sp
end Go.Proofs.Ytjjpjkkaogfoaaa

namespace Go.Proofs.Ytjjpjkkaogfoaaa
open Go.RowKit
namespace Sp
open Sc

/-- The cells of a key: padded to eight names, eight kids. -/
def keyL (k : Int) (nm : List UInt8) (sz : Nat) (ns : List (List UInt8)) (ids : List Nat) : List Value :=
  [.int .i64 k, .string ⟨nm.toArray⟩, .int .i64 sz, .string ⟨(ns.getD 0 []).toArray⟩, .string ⟨(ns.getD 1 []).toArray⟩, .string ⟨(ns.getD 2 []).toArray⟩, .string ⟨(ns.getD 3 []).toArray⟩, .string ⟨(ns.getD 4 []).toArray⟩,
   .string ⟨(ns.getD 5 []).toArray⟩, .string ⟨(ns.getD 6 []).toArray⟩, .string ⟨(ns.getD 7 []).toArray⟩, .int .i64 (ids.getD 0 0 : Nat), .int .i64 (ids.getD 1 0 : Nat), .int .i64 (ids.getD 2 0 : Nat), .int .i64 (ids.getD 3 0 : Nat),
   .int .i64 (ids.getD 4 0 : Nat), .int .i64 (ids.getD 5 0 : Nat), .int .i64 (ids.getD 6 0 : Nat), .int .i64 (ids.getD 7 0 : Nat)]
def Kz.cells (k : Kz) : List Value := keyL k.kind k.name k.kids.length k.names k.kids
def Kz.val (k : Kz) : Value := .agg k.cells.toArray
/-- A key that memory can hold, as a table makes them. -/
structure KFit (k : Kz) : Prop extends WfK k where
  nm : k.name.length ≤ 1000
  nms : ∀ n ∈ k.names, n.length ≤ 1000
  ids : ∀ j ∈ k.kids, j < 120
theorem le_max {n : Nat} (h : n ≤ 1000) : n ≤ maxLen := by unfold maxLen; omega
theorem Kz.one (k : Kz) : ∀ v ∈ k.cells, v.oneCell' = true := by
  intro v hv
  simp only [Kz.cells, keyL, List.mem_cons, List.not_mem_nil, or_false] at hv
  rcases hv with rfl | rfl | rfl | rfl | rfl | rfl | rfl | rfl | rfl | rfl | rfl | rfl | rfl | rfl | rfl | rfl | rfl | rfl | rfl <;> rfl
def lits (k : Kz) : List Go.Lit := [.int .i64 k.kind, .string k.name, .int .i64 k.kids.length, .string (k.names.getD 0 []), .string (k.names.getD 1 []), .string (k.names.getD 2 []), .string (k.names.getD 3 []), .string (k.names.getD 4 []),
   .string (k.names.getD 5 []), .string (k.names.getD 6 []), .string (k.names.getD 7 []), .int .i64 (k.kids.getD 0 0 : Nat), .int .i64 (k.kids.getD 1 0 : Nat), .int .i64 (k.kids.getD 2 0 : Nat), .int .i64 (k.kids.getD 3 0 : Nat),
   .int .i64 (k.kids.getD 4 0 : Nat), .int .i64 (k.kids.getD 5 0 : Nat), .int .i64 (k.kids.getD 6 0 : Nat), .int .i64 (k.kids.getD 7 0 : Nat)]
def klit (k : Kz) : Go.Lit := .string (keyBytes (lits k))

set_option maxRecDepth 100000
theorem laidK : laidOutB Try.prog = true := by kernel_rfl
theorem rowKey : (111 : TypeId) < Try.prog.types.size := of_decide_eq_true (by kernel_rfl)
theorem cellsKey : Try.prog.cellsOf 111 = 19 := by kernel_rfl
theorem wideKey : (match Try.prog.underlying 111 with | some (.array _ _) | some (.struct _) => true | _ => false) = true := by kernel_rfl
theorem keysLaw : Maps.Keyed Try.prog 111 := Maps.Keyed.of_law (deep_law_laid laidK (m := 3) (by omega) rowKey (by kernel_rfl) wideKey)
theorem typeKey : Try.prog.keyType 111 = true := by kernel_rfl
theorem formedKey (l : List Value) (h : l.length = 19) : (Value.agg l.toArray).formed Try.prog 111 = true := by
  simp [Value.formed, Try.underlying111, cellsKey, h]
theorem lit_str (d : Nat) (s : List UInt8) (hs : s.length ≤ maxLen) : Try.prog.keyLits (d + 1) 9 [.string ⟨s.toArray⟩] = some [.string s] := by
  rw [Program.keyLits.eq_def]
  simp [Try.underlying9, ByteArray.size, hs]
theorem lit_int (d : Nat) (n : Int) (h : (Go.Lit.int .i64 n).wf = true) : Try.prog.keyLits (d + 1) 3 [.int .i64 n] = some [.int .i64 n] := by
  rw [Program.keyLits.eq_def]
  simp [Try.underlying3, h]
theorem lits_of (k : Kz) (h : KFit k) (d : Nat) : Try.prog.keyLits (d + 3) 111 k.cells = some (lits k) := by
  have hn : ∀ j, (k.names.getD j []).length ≤ maxLen := fun j => by
    rw [List.getD]
    cases e : k.names[j]? with
    | none => simp
    | some x => exact le_max (h.nms x (List.mem_of_getElem? e))
  have hi : ∀ j, (Go.Lit.int .i64 (k.kids.getD j 0 : Nat)).wf = true := fun j => by
    have : k.kids.getD j 0 < 120 := by
      rw [List.getD]
      cases e : k.kids[j]? with
      | none => simp
      | some x => exact h.ids x (List.mem_of_getElem? e)
    exact WalkArith.wf_i64 (by omega)
  have h1 := h.rng
  have h2 := h.few
  have s0 := lit_str (d + 1) _ (le_max h.nm)
  have i0 := lit_int (d + 1) k.kind (WalkArith.wf_i64 (by omega))
  have i1 := lit_int (d + 1) (k.kids.length : Nat) (WalkArith.wf_i64 (by omega))
  have ss := fun j => lit_str d _ (hn j)
  have ii := fun j => lit_int d _ (hi j)
  have cs : Try.prog.cellsOf 9 = 1 := by kernel_rfl
  have ci : Try.prog.cellsOf 3 = 1 := by kernel_rfl
  have ca : Try.prog.cellsOf 108 = 8 := by kernel_rfl
  have cb : Try.prog.cellsOf 109 = 8 := by kernel_rfl
  have ha : ∀ (f : Nat → Value), (∀ j, Try.prog.keyLits (d + 1) 9 [f j] = some [.string (k.names.getD j [])]) → Try.prog.keyLits (d + 2) 108 [f 0, f 1, f 2, f 3, f 4, f 5, f 6, f 7] = some [.string (k.names.getD 0 []), .string (k.names.getD 1 []), .string (k.names.getD 2 []), .string (k.names.getD 3 []), .string (k.names.getD 4 []), .string (k.names.getD 5 []), .string (k.names.getD 6 []), .string (k.names.getD 7 [])] := by
    intro f hf
    rw [Program.keyLits.eq_def]
    simp only [Try.underlying108, ca, cs]
    simp [List.range_succ, hf]
  have hb : ∀ (f : Nat → Value), (∀ j, Try.prog.keyLits (d + 1) 3 [f j] = some [.int .i64 (k.kids.getD j 0 : Nat)]) → Try.prog.keyLits (d + 2) 109 [f 0, f 1, f 2, f 3, f 4, f 5, f 6, f 7] = some [.int .i64 (k.kids.getD 0 0 : Nat), .int .i64 (k.kids.getD 1 0 : Nat), .int .i64 (k.kids.getD 2 0 : Nat), .int .i64 (k.kids.getD 3 0 : Nat), .int .i64 (k.kids.getD 4 0 : Nat), .int .i64 (k.kids.getD 5 0 : Nat), .int .i64 (k.kids.getD 6 0 : Nat), .int .i64 (k.kids.getD 7 0 : Nat)] := by
    intro f hf
    rw [Program.keyLits.eq_def]
    simp only [Try.underlying109, cb, ci]
    simp [List.range_succ, hf]
  have A := ha (fun j => .string ⟨(k.names.getD j []).toArray⟩) ss
  have B := hb (fun j => .int .i64 (k.kids.getD j 0 : Nat)) ii
  rw [Program.keyLits.eq_def]
  simp only [Try.underlying111, cellsKey, Kz.cells, keyL, lits]
  simp only [List.mapM_cons, List.mapM_nil, cs, ci, ca, cb, List.drop, List.take, s0, i0, i1, A, B]
  simp
theorem keyOf_key (k : Kz) (h : KFit k) : keyOf Try.prog 111 k.val = some (klit k) := by
  unfold keyOf
  rw [Try.underlying111]
  simp only [typeKey, Kz.val, formedKey k.cells rfl]
  have e : Try.prog.types.size + 1 = (Try.prog.types.size - 2) + 3 := by
    have : (3 : Nat) ≤ Try.prog.types.size := Nat.le_of_lt (Nat.lt_of_le_of_lt (by decide) rowKey)
    omega
  have e2 : (Value.agg k.cells.toArray).cells.toList = k.cells := by simp [Value.cells]
  rw [e, e2, lits_of k h]
  simp [klit]
/-- Keys that read alike are alike. -/
theorem getD_ext8 {α : Type} (d : α) {l m : List α} (hl : l.length = m.length) (h8 : l.length ≤ 8) (h : ∀ j, j < 8 → l.getD j d = m.getD j d) : l = m := by
  apply List.ext_getElem hl
  intro i h1 h2
  have := h i (by omega)
  rwa [List.getD, List.getD, List.getElem?_eq_getElem h1, List.getElem?_eq_getElem h2] at this
theorem klit_inj {a b : Kz} (ha : KFit a) (hb : KFit b) (h : klit a = klit b) : a = b := by
  have e := keysLaw.inj (keyOf_key a ha) (by rw [h]; exact keyOf_key b hb)
  simp only [Kz.val, Value.agg.injEq] at e
  have e2 : a.cells = b.cells := by simpa using congrArg Array.toList e
  simp only [Kz.cells, keyL, List.cons.injEq, Value.int.injEq, Value.string.injEq, ByteArray.mk.injEq, true_and, and_true] at e2
  obtain ⟨h1, h2, h3, n0, n1, n2, n3, n4, n5, n6, n7, i0, i1, i2, i3, i4, i5, i6, i7⟩ := e2
  have inj : ∀ {l m : List UInt8}, l.toArray = m.toArray → l = m := fun h => by simpa using congrArg Array.toList h
  obtain ⟨k, nm, ns, ids⟩ := a
  obtain ⟨k', nm', ns', ids'⟩ := b
  have h3' : ids.length = ids'.length := by simp only at h3; omega
  have hf := ha.form; have hf' := hb.form; have h8 := ha.names8
  simp only at h1 h2 n0 n1 n2 n3 n4 n5 n6 n7 i0 i1 i2 i3 i4 i5 i6 i7 hf hf' h8
  subst h1
  have hids : ids = ids' := getD_ext8 0 h3' ha.few fun j hj => by
    match j, hj with
    | 0, _ => omega
    | 1, _ => omega
    | 2, _ => omega
    | 3, _ => omega
    | 4, _ => omega
    | 5, _ => omega
    | 6, _ => omega
    | 7, _ => omega
  have hnl : ns.length = ns'.length := by rw [hf, hf', h3']
  have hns : ns = ns' := getD_ext8 [] hnl h8 fun j hj => by
    match j, hj with
    | 0, _ => exact inj n0
    | 1, _ => exact inj n1
    | 2, _ => exact inj n2
    | 3, _ => exact inj n3
    | 4, _ => exact inj n4
    | 5, _ => exact inj n5
    | 6, _ => exact inj n6
    | 7, _ => exact inj n7
  rw [inj h2, hids, hns]

/-! ### The map of numbers -/
def numD (T : List Kz) : DataW Value := T.zipIdx.foldl (fun D x => D.put (klit x.1) (.held (.int .i64 (x.2 : Nat)))) (.map [])
theorem numD_snoc (T : List Kz) (k : Kz) : numD (T ++ [k]) = (numD T).put (klit k) (.held (.int .i64 (T.length : Nat))) := by
  unfold numD; rw [List.zipIdx_append, List.foldl_append]; simp
theorem snoc_ind {α : Type} {P : List α → Prop} (h0 : P []) (h1 : ∀ l x, P l → P (l ++ [x])) : ∀ l, P l := by
  intro l
  rw [← List.reverse_reverse l]
  induction l.reverse with
  | nil => exact h0
  | cons x r ih => rw [List.reverse_cons]; exact h1 _ _ ih
theorem keyLit (k : Kz) : WideAt.IsKeyLit (klit k) := trivial
theorem tidy_numD : ∀ T, Maps.Tidy (numD T) := by
  apply snoc_ind
  · exact Maps.tidy_empty
  · intro l x h; rw [numD_snoc]; exact h.put (keyLit x) _
theorem has_numD {k : Kz} (hk : KFit k) : ∀ T : List Kz, (∀ x ∈ T, KFit x) → Maps.has (numD T) (klit k) = decide (k ∈ T) := by
  apply snoc_ind
  · intro _; simp [numD]; rfl
  · intro l x ih h
    have ih := ih fun y hy => h y (by simp [hy])
    rw [numD_snoc]
    by_cases e : x = k
    · rw [e, Maps.has_put_same (tidy_numD l).isMap (keyLit k)]; simp
    · rw [Maps.has_put_other (fun e' => e (klit_inj (h x (by simp)) hk e'.symm)), ih]
      simp [Ne.symm e]
theorem at_numD {k : Kz} (hk : KFit k) (z : DataW Value) : ∀ T : List Kz, (∀ x ∈ T, KFit x) → T.Nodup → (numD T).atKey (klit k) z = if k ∈ T then .held (.int .i64 (T.idxOf k : Nat)) else z := by
  apply snoc_ind
  · intro _ _; simp [numD]; rfl
  · intro l x ih h hd
    have hd' := List.nodup_append.1 hd
    have ih := ih (fun y hy => h y (by simp [hy])) hd'.1
    rw [numD_snoc]
    by_cases e : x = k
    · subst e
      have hx : ¬ x ∈ l := fun hx => hd'.2.2 x hx x (by simp) rfl
      rw [Maps.atKey_put_same (tidy_numD l).isMap (keyLit x), idxOf_end hx, if_pos (by simp)]
    · rw [Maps.atKey_put_other (fun e' => e (klit_inj (h x (by simp)) hk e'.symm)), ih]
      by_cases hm : k ∈ l
      · rw [if_pos hm, if_pos (by simp [hm]), idxOf_in hm]
      · rw [if_neg hm, if_neg (by simp [hm, Ne.symm e])]
/-- Block mb is the map of a table's numbers. -/
def NumV (w : World) (mb : Nat) (T : List Kz) : Prop := w.ownsMap Try.prog 111 heldR mb T.length (numD T)
theorem NumV.keep {w w' : World} {mb : Nat} {T : List Kz} (h : NumV w mb T) {row : Option Nat} (hg : w.grownBy w' row) (hne : some mb ≠ row) : NumV w' mb T := World.ownsMap.kept h hg hne
theorem NumV.lt {w : World} {mb : Nat} {T : List Kz} (h : NumV w mb T) : mb < w.heap.size := World.ownsMap.lt h
theorem NumV.made (w : World) : NumV (w.alloc (.map #[] 0)) w.heap.size [] := World.ownsMap_made _ _ _ _
theorem NumV.same {w w' : World} {mb : Nat} {T : List Kz} (h : NumV w mb T) (hb : w'.heap[mb]? = w.heap[mb]?) : NumV w' mb T := by
  obtain ⟨es, clock, h1, h2⟩ := h
  exact ⟨es, clock, hb.trans h1, h2⟩
theorem zeroI (w : World) : (zeroValue 3).run Try.prog w = .ok (.int .i64 0) w := by kernel_rfl
theorem NumV.at_ok {w : World} {mb : Nat} {T : List Kz} (h : NumV w mb T) {k : Kz} (hk : KFit k) (hT : ∀ x ∈ T, KFit x) (hd : T.Nodup) :
    (Instr.lookup 101 (.map (some mb)) k.val true).run Try.prog w = .ok (.tuple #[.int .i64 ((if k ∈ T then T.idxOf k else 0 : Nat) : Int), .bool (decide (k ∈ T))]) w := by
  obtain ⟨v, ps, hrun, hv⟩ := World.ownsMap.look_ok h keysLaw Try.underlying101 (zeroI w) (zd := .held (.int .i64 0)) (zp := []) rfl (keyOf_key k hk)
  rw [at_numD hk _ T hT hd] at hv
  rw [has_numD hk T hT] at hrun
  have : v = .int .i64 ((if k ∈ T then T.idxOf k else 0 : Nat) : Int) := by
    by_cases hm : k ∈ T
    · rw [if_pos hm] at hv ⊢; exact heldR_inv hv
    · rw [if_neg hm] at hv ⊢; exact heldR_inv hv
  rw [← this]; exact hrun
theorem num_nil (w : World) {k : Kz} (hk : KFit k) : (Instr.lookup 101 (.map none) k.val true).run Try.prog w = .ok (.tuple #[.int .i64 0, .bool false]) w :=
  Maps.look_nil true keysLaw Try.underlying101 (zeroI w) (keyOf_key k hk)
theorem NumV.put {w : World} {mb : Nat} {T : List Kz} (h : NumV w mb T) {k : Kz} (hk : KFit k) (hl : T.length < maxLen) :
    ∃ w', (Instr.mapUpdate 101 (.map (some mb)) k.val (.int .i64 (T.length : Nat))).run Try.prog w = .ok () w' ∧ NumV w' mb (T ++ [k]) ∧ w.grownBy w' (some mb) := by
  obtain ⟨w', hrun, h1, h2⟩ := World.ownsMap.update h keysLaw Try.underlying101 hl (val := .int .i64 (T.length : Nat)) (d := .held (.int .i64 (T.length : Nat))) (ps := []) (keyOf_key k hk) rfl
  exact ⟨w', hrun, by unfold NumV; rw [numD_snoc, List.length_append]; exact h1, h2⟩
end Sp
end Go.Proofs.Ytjjpjkkaogfoaaa

namespace Go.Proofs.Ytjjpjkkaogfoaaa
open Go.RowKit
namespace Sp
open Sc
set_option maxRecDepth 100000

/-- Only blocks of O are written; there may be new ones. -/
structure Keeps (O : Nat → Prop) (w w' : World) : Prop where
  os : w'.os = w.os
  tape : w'.tape = w.tape
  output : w'.output = w.output
  size : w.heap.size ≤ w'.heap.size
  block : ∀ g, g < w.heap.size → ¬ O g → w'.heap[g]? = w.heap[g]?
theorem Keeps.refl (O : Nat → Prop) (w : World) : Keeps O w w := ⟨rfl, rfl, rfl, Nat.le_refl _, fun _ _ _ => rfl⟩
theorem Keeps.trans {O O' : Nat → Prop} {a b c : World} (h : Keeps O a b) (k : Keeps O' b c) (ho : ∀ g, O' g → O g ∨ a.heap.size ≤ g) : Keeps O a c := by
  refine ⟨k.os.trans h.os, k.tape.trans h.tape, k.output.trans h.output, Nat.le_trans h.size k.size, fun g hg hn => (k.block g (Nat.lt_of_lt_of_le hg h.size) (fun e => ?_)).trans (h.block g hg hn)⟩
  rcases ho g e with h | h
  · exact hn h
  · omega
theorem Keeps.of_below {O : Nat → Prop} {w w' : World} (h : Below w.heap.size w w') : Keeps O w w' := ⟨h.os, h.tape, h.output, h.size, fun g hg _ => h.block g hg⟩
theorem Keeps.below {O : Nat → Prop} {w w' : World} {B : Nat} (h : Keeps O w w') (hB : B ≤ w.heap.size) (ho : ∀ g, O g → B ≤ g) : Below B w w' :=
  ⟨h.os, h.tape, h.output, h.size, fun g hg => h.block g (Nat.lt_of_lt_of_le hg hB) (fun e => by have := ho g e; omega)⟩
theorem Keeps.of_grown {O : Nat → Prop} {w w' : World} {row : Option Nat} (h : w.grownBy w' row) (ho : ∀ g, row = some g → O g) : Keeps O w w' :=
  ⟨h.os, h.tape, h.output, h.size, fun g hg hn => h.block g hg (fun e => hn (ho g e.symm))⟩
theorem Keeps.setCell {O : Nat → Prop} {w w' : World} (h : Keeps O w w') {b : Nat} (o : Nat) (v : Value) (hb : O b) : Keeps O w (w'.setCell ⟨b, o, none⟩ v) :=
  ⟨h.os, h.tape, h.output, by simpa using h.size, fun g hg hn => by rw [RowKit.Below.heap_setCell _ _ _ _ (fun e => hn (by rw [e]; exact hb))]; exact h.block g hg hn⟩
theorem Keeps.alloc {O : Nat → Prop} {w w' : World} (h : Keeps O w w') (o : Obj) : Keeps O w (w'.alloc o) :=
  h.trans (O' := O) (Keeps.of_below ((Below.refl _ _).alloc (Nat.le_refl _) o)) (fun _ e => .inl e)
theorem Keeps.drew {O : Nat → Prop} {w w' : World} (h : Keeps O w w') : Keeps O w w'.drew := ⟨h.os, h.tape, h.output, h.size, h.block⟩
theorem Keeps.undrew {O : Nat → Prop} {w w' : World} (h : Keeps O w.drew w') : Keeps O w w' := ⟨h.os, h.tape, h.output, h.size, h.block⟩

/-! ### Maps of texts -/
def mapE (l : List (List UInt8 × Value)) : DataW Value := l.foldl (fun D x => D.put (.string x.1) (.held x.2)) (.map [])
theorem mapE_snoc (l : List (List UInt8 × Value)) (x : List UInt8 × Value) : mapE (l ++ [x]) = (mapE l).put (.string x.1) (.held x.2) := by simp [mapE, List.foldl_append]
theorem tidy_mapE : ∀ l, Maps.Tidy (mapE l) := by
  apply snoc_ind
  · exact Maps.tidy_empty
  · intro l x h; rw [mapE_snoc]; exact h.put (k := .string x.1) trivial _
theorem has_mapE (s : List UInt8) : ∀ l, Maps.has (mapE l) (.string s) = hasZ l s := by
  apply snoc_ind
  · rfl
  · intro l x h
    rw [mapE_snoc, hasZ_snoc]
    by_cases e : x.1 = s
    · rw [e, Maps.has_put_same (tidy_mapE l).isMap (k := .string s) trivial]; simp
    · rw [Maps.has_put_other (by simpa using fun e' => e e'.symm), h]; simp [e]
theorem at_mapE (s : List UInt8) (z : DataW Value) : ∀ l, (mapE l).atKey (.string s) z = match lastN l s with | some c => .held c | none => z := by
  apply snoc_ind
  · rfl
  · intro l x h
    rw [mapE_snoc, lastN_snoc]
    by_cases e : x.1 = s
    · rw [e, Maps.atKey_put_same (tidy_mapE l).isMap (k := .string s) trivial]; simp
    · rw [Maps.atKey_put_other (by simpa using fun e' => e e'.symm), h]; simp [e]
/-- Block mb is the map of these entries. -/
def TxtV (w : World) (mb : Nat) (l : List (List UInt8 × Value)) : Prop := w.ownsMap Try.prog 9 heldR mb l.length (mapE l)
theorem TxtV.lt {w : World} {mb : Nat} {l : List (List UInt8 × Value)} (h : TxtV w mb l) : mb < w.heap.size := World.ownsMap.lt h
theorem TxtV.same {w w' : World} {mb : Nat} {l : List (List UInt8 × Value)} (h : TxtV w mb l) (hb : w'.heap[mb]? = w.heap[mb]?) : TxtV w' mb l := by
  obtain ⟨es, clock, h1, h2⟩ := h
  exact ⟨es, clock, hb.trans h1, h2⟩
theorem TxtV.isMap {w : World} {mb : Nat} {l : List (List UInt8 × Value)} (h : TxtV w mb l) : ∃ es clock, w.heap[mb]? = some (.map es clock) := by
  obtain ⟨es, clock, h1, h2⟩ := h
  exact ⟨es, clock, h1⟩
theorem TxtV.made (w : World) : TxtV (w.alloc (.map #[] 0)) w.heap.size [] := World.ownsMap_made _ _ _ _
theorem TxtV.at_ok {w : World} {mb : Nat} {l : List (List UInt8 × Value)} {t e : TypeId} {z : Value} (h : TxtV w mb l) (ht : Try.prog.underlying t = some (.map 9 e)) (hz : (zeroValue e).run Try.prog w = .ok z w) (s : List UInt8) (hs : s.length ≤ maxLen) :
    (Instr.lookup t (.map (some mb)) (.string ⟨s.toArray⟩) true).run Try.prog w = .ok (.tuple #[(lastN l s).getD z, .bool (hasZ l s)]) w := by
  obtain ⟨v, ps, hrun, hv⟩ := World.ownsMap.look_ok h key_law ht hz (zd := .held z) (zp := []) rfl (key_of s hs)
  rw [at_mapE] at hv
  rw [has_mapE] at hrun
  have : v = (lastN l s).getD z := by
    cases hl : lastN l s with
    | none => rw [hl] at hv; exact heldR_inv hv
    | some c => rw [hl] at hv; exact heldR_inv hv
  rw [← this]; exact hrun
theorem TxtV.at {w : World} {mb : Nat} {l : List (List UInt8 × Value)} {t e : TypeId} {z : Value} (h : TxtV w mb l) (ht : Try.prog.underlying t = some (.map 9 e)) (hz : (zeroValue e).run Try.prog w = .ok z w) (s : List UInt8) (hs : s.length ≤ maxLen) :
    (Instr.lookup t (.map (some mb)) (.string ⟨s.toArray⟩) false).run Try.prog w = .ok ((lastN l s).getD z) w := by
  obtain ⟨v, ps, hrun, hv⟩ := World.ownsMap.lookup h key_law ht hz (zd := .held z) (zp := []) rfl (key_of s hs)
  rw [at_mapE] at hv
  have : v = (lastN l s).getD z := by
    cases hl : lastN l s with
    | none => rw [hl] at hv; exact heldR_inv hv
    | some c => rw [hl] at hv; exact heldR_inv hv
  rw [← this]; exact hrun
theorem TxtV.put {w : World} {mb : Nat} {l : List (List UInt8 × Value)} {t e : TypeId} (h : TxtV w mb l) (ht : Try.prog.underlying t = some (.map 9 e)) (s : List UInt8) (v : Value) (hs : s.length ≤ maxLen) (hl : l.length < maxLen) :
    ∃ w', (Instr.mapUpdate t (.map (some mb)) (.string ⟨s.toArray⟩) v).run Try.prog w = .ok () w' ∧ TxtV w' mb (l ++ [(s, v)]) ∧ w.grownBy w' (some mb) := by
  obtain ⟨w', hrun, h1, h2⟩ := World.ownsMap.update h key_law ht hl (val := v) (d := .held v) (ps := []) (key_of s hs) rfl
  exact ⟨w', hrun, by unfold TxtV; rw [mapE_snoc, List.length_append]; exact h1, h2⟩

/-- What names stand for, as values. -/
def encNN (N : List NN) : List (List UInt8 × Value) := N.map fun x => (x.1, .int .i64 (x.2 : Nat))
theorem look_encNN (N : List NN) (s : List UInt8) : (lastN (encNN N) s).getD (.int .i64 0) = .int .i64 (lookN N s : Nat) := by
  unfold encNN lookN; rw [lastN_map N (fun i : Nat => Value.int .i64 (i : Nat))]
  cases lastN N s <;> rfl
theorem has_encNN (N : List NN) (s : List UInt8) : hasZ (encNN N) s = hasZ N s := hasZ_map N (fun i : Nat => Value.int .i64 (i : Nat)) s
/-- A function's numbers lie in a row of their own. -/
def IdsV (w : World) (v : Value) (ids : List Nat) : Prop := w.ownsRow 0 3 1 v ids.length (ids.map fun i => .int .i64 (i : Nat))
theorem IdsV.keep {w w' : World} {v : Value} {ids : List Nat} (h : IdsV w v ids) (hk : ∀ (g : Nat) (cs : Array Value) (fr : Nat × Nat), w.heap[g]? = some (Obj.cells cs 3 fr) → w'.heap[g]? = w.heap[g]?) : IdsV w' v ids := by
  obtain ⟨h1, h2⟩ := h
  refine ⟨h1, ?_⟩
  rcases h2 with h2 | ⟨g, cap, cur, e1, e2, e3, e4⟩
  · exact .inl h2
  · exact .inr ⟨g, cap, cur, e1, e2, (hk g _ _ e3).trans e3, e4⟩
/-- The functions of a table. -/
structure FnsV (w : World) (sb : Nat) (G : List GN) (vs : List Value) : Prop where
  len : vs.length = G.length
  map : TxtV w sb ((G.map (·.1)).zip (List.zipWith (fun v (x : GN) => .agg #[v, .int .i64 (x.2.2 : Nat)]) vs G))
  row : ∀ i (h : i < G.length) (h' : i < vs.length), IdsV w vs[i] G[i].2.1

/-! ### Tables -/
def T5 (ty nu : Value) (mb sb m : Nat) : Array Value := #[ty, nu, .map (some mb), .map (some sb), .int .i64 m]
/-- A table lies at block tb; rb, nb: the blocks of its row and of its numbers (tb itself, if there is nothing yet). -/
structure TabV (w : World) (tb rb nb mb sb m : Nat) (ty nu : Value) (T : List Kz) : Prop where
  box : w.heap[tb]? = some (.cells #[ty, nu, .map (some mb), .map (some sb), .int .i64 m] 103 (0, 0))
  own : w.ownsRow 0 111 19 ty T.length (T.flatMap Kz.cells)
  row : (T = [] ∧ ty = .slice none 0 0 ∧ rb = tb) ∨ ∃ cap, ty = .slice (some ⟨rb, 0, none⟩) T.length cap
  num : (T = [] ∧ nu = .map none ∧ nb = tb) ∨ (nu = .map (some nb) ∧ NumV w nb T)
  fit : ∀ k ∈ T, KFit k
  wf : TabW T
  mlt : mb < w.heap.size
  slt : sb < w.heap.size
  nm : nb ≠ mb
  ns : nb ≠ sb
/-- The blocks that a table may write. -/
def Own (tb rb nb g : Nat) : Prop := g = tb ∨ g = rb ∨ g = nb
theorem five_blkF {w : World} {b : Nat} {t : TypeId} {v0 v1 v2 v3 v4 : Value} (h : w.heap[b]? = some (.cells #[v0, v1, v2, v3, v4] t (0, 0))) :
    (w.cell? ⟨b, 0, none⟩ = some v0 ∧ w.cell? ⟨b, 1, none⟩ = some v1 ∧ w.cell? ⟨b, 2, none⟩ = some v2 ∧ w.cell? ⟨b, 3, none⟩ = some v3 ∧ w.cell? ⟨b, 4, none⟩ = some v4) ∧
    (w.frozen? ⟨b, 0, none⟩ = false ∧ w.frozen? ⟨b, 1, none⟩ = false ∧ w.frozen? ⟨b, 2, none⟩ = false ∧ w.frozen? ⟨b, 3, none⟩ = false ∧ w.frozen? ⟨b, 4, none⟩ = false) := by
  refine ⟨⟨?_, ?_, ?_, ?_, ?_⟩, ⟨?_, ?_, ?_, ?_, ?_⟩⟩ <;> simp [World.cell?, World.frozen?, h]
theorem TabV.tlt {w : World} {tb rb nb mb sb m : Nat} {ty nu : Value} {T : List Kz} (h : TabV w tb rb nb mb sb m ty nu T) : tb < w.heap.size := (Array.getElem?_eq_some_iff.1 h.box).1
/-- What lies in the blocks that a table may write. -/
theorem TabV.kinds {w : World} {tb rb nb mb sb m : Nat} {ty nu : Value} {T : List Kz} (h : TabV w tb rb nb mb sb m ty nu T) {g : Nat} (hg : Own tb rb nb g) :
    (∃ cs t, w.heap[g]? = some (.cells cs t (0, 0)) ∧ (t = 103 ∨ t = 111)) ∨ (g = nb ∧ ∃ es c, w.heap[g]? = some (.map es c)) := by
  rcases hg with rfl | rfl | rfl
  · exact .inl ⟨_, _, h.box, .inl rfl⟩
  · rcases h.row with ⟨-, -, rfl⟩ | ⟨cap, rfl⟩
    · exact .inl ⟨_, _, h.box, .inl rfl⟩
    · obtain ⟨-, h2⟩ := h.own
      rcases h2 with ⟨h2, -⟩ | ⟨g, cap', cur, e1, -, e3, -⟩
      · cases h2
      · cases e1; exact .inl ⟨_, _, e3, .inr rfl⟩
  · rcases h.num with ⟨-, -, rfl⟩ | ⟨-, es, c, h1, -⟩
    · exact .inl ⟨_, _, h.box, .inl rfl⟩
    · exact .inr ⟨rfl, es, c, h1⟩
theorem TabV.lt {w : World} {tb rb nb mb sb m : Nat} {ty nu : Value} {T : List Kz} (h : TabV w tb rb nb mb sb m ty nu T) {g : Nat} (hg : Own tb rb nb g) : g < w.heap.size := by
  rcases h.kinds hg with ⟨cs, t, h1, -⟩ | ⟨-, es, c, h1⟩ <;> exact (Array.getElem?_eq_some_iff.1 h1).1
/-- A map that is not the table's numbers stays. -/
theorem TabV.txt {w w' : World} {tb rb nb mb sb m : Nat} {ty nu : Value} {T : List Kz} (h : TabV w tb rb nb mb sb m ty nu T) (hk : Keeps (Own tb rb nb) w w') {b : Nat} (hb : b ≠ nb) {l : List (List UInt8 × Value)} (hl : TxtV w b l) : TxtV w' b l := by
  refine hl.same (hk.block b hl.lt fun ho => ?_)
  obtain ⟨es, c, hm⟩ := hl.isMap
  rcases h.kinds ho with ⟨cs, t, h1, -⟩ | ⟨h1, -⟩
  · rw [hm] at h1; cases h1
  · exact hb h1
theorem TabV.ids {w w' : World} {tb rb nb mb sb m : Nat} {ty nu : Value} {T : List Kz} (h : TabV w tb rb nb mb sb m ty nu T) (hk : Keeps (Own tb rb nb) w w') {v : Value} {ids : List Nat} (hl : IdsV w v ids) : IdsV w' v ids := by
  refine hl.keep fun g cs fr hg => hk.block g (Array.getElem?_eq_some_iff.1 hg).1 fun ho => ?_
  rcases h.kinds ho with ⟨cs', t, h1, h2⟩ | ⟨-, es, c, h1⟩
  · rw [hg] at h1
    simp only [Option.some.injEq, Obj.cells.injEq] at h1
    rcases h2 with h2 | h2
    · exact absurd (h1.2.1.trans h2) (by decide)
    · exact absurd (h1.2.1.trans h2) (by decide)
  · rw [hg] at h1; cases h1
theorem TabV.sgs {w w' : World} {tb rb nb mb sb m : Nat} {ty nu : Value} {T : List Kz} (h : TabV w tb rb nb mb sb m ty nu T) (hk : Keeps (Own tb rb nb) w w') {G : List GN} {vs : List Value} (hl : FnsV w sb G vs) : FnsV w' sb G vs :=
  ⟨hl.len, h.txt hk (fun e => h.ns e.symm) hl.map, fun i h1 h2 => h.ids hk (hl.row i h1 h2)⟩
/-- The table stays while its blocks do. -/
theorem TabV.keep {w w' : World} {tb rb nb mb sb m : Nat} {ty nu : Value} {T : List Kz} (h : TabV w tb rb nb mb sb m ty nu T) (hk : ∀ g, Own tb rb nb g → w'.heap[g]? = w.heap[g]?) (hs : w.heap.size ≤ w'.heap.size) : TabV w' tb rb nb mb sb m ty nu T := by
  refine ⟨(hk tb (.inl rfl)).trans h.box, ?_, h.row, ?_, h.fit, h.wf, Nat.lt_of_lt_of_le h.mlt hs, Nat.lt_of_lt_of_le h.slt hs, h.nm, h.ns⟩
  · obtain ⟨h1, h2⟩ := h.own
    refine ⟨h1, ?_⟩
    rcases h2 with h2 | ⟨g, cap, cur, e1, e2, e3, e4⟩
    · exact .inl h2
    · refine .inr ⟨g, cap, cur, e1, e2, (hk g ?_).trans e3, e4⟩
      rcases h.row with ⟨-, h5, -⟩ | ⟨cap', h5⟩
      · rw [e1] at h5; cases h5
      · rw [e1] at h5; cases h5; exact .inr (.inl rfl)
  · rcases h.num with h1 | ⟨h1, h2⟩
    · exact .inl h1
    · exact .inr ⟨h1, h2.same (hk nb (.inr (.inr rfl)))⟩
theorem TabV.below {w w' : World} {tb rb nb mb sb m : Nat} {ty nu : Value} {T : List Kz} (h : TabV w tb rb nb mb sb m ty nu T) (hb : Below w.heap.size w w') : TabV w' tb rb nb mb sb m ty nu T :=
  h.keep (fun g hg => hb.block g (h.lt hg)) hb.size
theorem TabV.drew {w : World} {tb rb nb mb sb m : Nat} {ty nu : Value} {T : List Kz} (h : TabV w tb rb nb mb sb m ty nu T) : TabV w.drew tb rb nb mb sb m ty nu T := h.below (Below.refl _ _).drew
/-- Blocks of a table behind one that has grown. -/
structure Grew (w : World) (tb rb nb rb' nb' : Nat) : Prop where
  row : rb' = rb ∨ w.heap.size ≤ rb'
  num : nb' = nb ∨ w.heap.size ≤ nb'
theorem Grew.refl (w : World) (tb rb nb : Nat) : Grew w tb rb nb rb nb := ⟨.inl rfl, .inl rfl⟩
theorem Grew.own {w : World} {tb rb nb rb' nb' : Nat} (h : Grew w tb rb nb rb' nb') : ∀ g, Own tb rb' nb' g → Own tb rb nb g ∨ w.heap.size ≤ g := by
  rintro g (rfl | rfl | rfl)
  · exact .inl (.inl rfl)
  · rcases h.row with rfl | h
    · exact .inl (.inr (.inl rfl))
    · exact .inr h
  · rcases h.num with rfl | h
    · exact .inl (.inr (.inr rfl))
    · exact .inr h
theorem Grew.trans {w w' : World} {tb rb nb rb' nb' rb2 nb2 : Nat} (h : Grew w tb rb nb rb' nb') (k : Grew w' tb rb' nb' rb2 nb2) (hs : w.heap.size ≤ w'.heap.size) : Grew w tb rb nb rb2 nb2 := by
  refine ⟨?_, ?_⟩
  · rcases k.row with rfl | k
    · exact h.row
    · exact .inr (by omega)
  · rcases k.num with rfl | k
    · exact h.num
    · exact .inr (by omega)
/-- What a call that adds leaves: the table with these types. -/
structure Added (w w' : World) (tb rb nb mb sb m : Nat) (T : List Kz) (rb' nb' : Nat) (ty' nu' : Value) : Prop where
  tab : TabV w' tb rb' nb' mb sb m ty' nu' T
  keeps : Keeps (Own tb rb nb) w w'
  grew : Grew w tb rb nb rb' nb'
theorem Added.trans {w w' w2 : World} {tb rb nb mb sb m rb' nb' rb2 nb2 : Nat} {T T2 : List Kz} {ty' nu' ty2 nu2 : Value} (h : Added w w' tb rb nb mb sb m T rb' nb' ty' nu') (k : Added w' w2 tb rb' nb' mb sb m T2 rb2 nb2 ty2 nu2) : Added w w2 tb rb nb mb sb m T2 rb2 nb2 ty2 nu2 :=
  ⟨k.tab, h.keeps.trans k.keeps h.grew.own, h.grew.trans k.grew h.keeps.size⟩
/-- A tree that a table does not write. -/
theorem TzV.keeps {w w' : World} {O S : Nat → Prop} {t : Tz} {c : C4} (h : TzV w S t c) (hS : ∀ g, S g → g < w.heap.size ∧ ¬ O g) (hk : Keeps O w w') : TzV w' S t c :=
  h.keep (fun _ h => h) fun g hg => hk.block g (hS g hg).1 (hS g hg).2
end Sp
end Go.Proofs.Ytjjpjkkaogfoaaa

namespace Go.Proofs.Ytjjpjkkaogfoaaa
open Go.RowKit
namespace Sp

theorem rangeAt_blk {w : World} {b : Nat} {cs : List Value} {t : TypeId} {fr : Nat × Nat} (h : w.heap[b]? = some (.cells cs.toArray t fr)) : w.rangeAt b 0 cs := fun j v hv => by
  rw [Nat.zero_add]; simp [World.cell?, h, hv]
theorem there_blk {w : World} {b : Nat} {cs : List Value} {t : TypeId} (h : w.heap[b]? = some (.cells cs.toArray t (0, 0))) : w.there b 0 cs.length := fun j hj => by
  rw [Nat.zero_add]
  exact ⟨by simp [World.cell?, h, hj], by simp [World.frozen?, h]⟩
theorem setCells_row (b : Nat) (t : TypeId) : ∀ (cs : List Value) (o : Nat) (w : World) (pre old post : List Value), pre.length = o → old.length = cs.length → w.heap[b]? = some (.cells (pre ++ old ++ post).toArray t (0, 0)) →
    (w.setCells b o cs).heap[b]? = some (.cells (pre ++ cs ++ post).toArray t (0, 0))
  | [], o, w, pre, old, post, hp, ho, h => by
    have : old = [] := List.length_eq_zero_iff.1 ho
    subst this
    exact h
  | v :: cs, o, w, pre, [], post, hp, ho, h => by simp at ho
  | v :: cs, o, w, pre, x :: old, post, hp, ho, h => by
    have ih := setCells_row b t cs (o + 1) (w.setCell ⟨b, o, none⟩ v) (pre ++ [v]) old post (by simp [hp]) (by simpa using ho) (by
      rw [Go.setCell_eq_setRow w b o _ t (0, 0) v h, setRow_heap w b _ _ t _ h]
      congr 2
      subst hp
      simp)
    have e : w.setCells b o (v :: cs) = (w.setCell ⟨b, o, none⟩ v).setCells b (o + 1) cs := rfl
    rw [e, ih]; simp
/-- A block that is written whole. -/
theorem setCells_blk {w : World} {b : Nat} {t : TypeId} {old cs : List Value} (h : w.heap[b]? = some (.cells old.toArray t (0, 0))) (hl : old.length = cs.length) : (w.setCells b 0 cs).heap[b]? = some (.cells cs.toArray t (0, 0)) := by
  have := setCells_row b t cs 0 w [] old [] rfl hl (by simpa using h)
  simpa using this
theorem setCells_other (b : Nat) : ∀ (cs : List Value) (o : Nat) (w : World) (g : Nat), g ≠ b → (w.setCells b o cs).heap[g]? = w.heap[g]?
  | [], _, _, _, _ => rfl
  | v :: cs, o, w, g, h => by
    rw [show w.setCells b o (v :: cs) = (w.setCell ⟨b, o, none⟩ v).setCells b (o + 1) cs from rfl, setCells_other b cs (o + 1) _ g h]
    exact RowKit.Below.heap_setCell _ _ _ _ h
theorem setCells_size (b : Nat) : ∀ (cs : List Value) (o : Nat) (w : World), (w.setCells b o cs).heap.size = w.heap.size
  | [], _, _ => rfl
  | v :: cs, o, w => by
    rw [show w.setCells b o (v :: cs) = (w.setCell ⟨b, o, none⟩ v).setCells b (o + 1) cs from rfl, setCells_size b cs (o + 1)]
    simp
theorem setCells_below {B : Nat} {w : World} (b : Nat) (hb : B ≤ b) : ∀ (cs : List Value) (o : Nat) (w' : World), Below B w w' → Below B w (w'.setCells b o cs)
  | [], _, _, h => h
  | v :: cs, o, w', h => by
    rw [show w'.setCells b o (v :: cs) = (w'.setCell ⟨b, o, none⟩ v).setCells b (o + 1) cs from rfl]
    exact setCells_below b hb cs (o + 1) _ (h.setCell hb v)
/-- A block whose cells are written as they were. -/
theorem setCells_same (b : Nat) : ∀ (cs : List Value) (o : Nat) (w : World), (∀ j v, cs[j]? = some v → w.cell? ⟨b, o + j, none⟩ = some v) → (∀ (a : Nat) (v : Value), w.cell? ⟨b, a, none⟩ = some v → w.setCell ⟨b, a, none⟩ v = w) → w.setCells b o cs = w
  | [], _, _, _, _ => rfl
  | v :: cs, o, w, h, hs => by
    rw [show w.setCells b o (v :: cs) = (w.setCell ⟨b, o, none⟩ v).setCells b (o + 1) cs from rfl, hs o v (h 0 v rfl)]
    exact setCells_same b cs (o + 1) w (fun j u hu => by rw [show o + 1 + j = o + (j + 1) by omega]; exact h (j + 1) u hu) hs
/-- A cell that is written as it was. -/
theorem setCell_same {w : World} {b o : Nat} {v : Value} (h : w.cell? ⟨b, o, none⟩ = some v) : w.setCell ⟨b, o, none⟩ v = w := by
  cases hg : w.heap[b]? with
  | none => unfold World.cell? at h; simp [hg] at h
  | some x =>
    unfold World.cell? at h
    simp only [hg] at h
    cases x with
    | cells cs t fr =>
      rw [Go.setCell_eq_setRow w b o cs t fr v hg]
      have : cs.setIfInBounds o v = cs := by
        apply Array.ext_getElem?
        intro i
        rw [Array.getElem?_setIfInBounds]
        simp at h
        split
        · rename_i e; subst e
          split
          · exact h.symm
          · rename_i h2; rw [Array.getElem?_eq_none (by omega)] at h; cases h
        · rfl
      rw [this]
      exact Go.setRow_self w b cs t fr hg
    | _ => simp at h
theorem setCells_keep {w : World} {b : Nat} {cs : List Value} {t : TypeId} {fr : Nat × Nat} (h : w.heap[b]? = some (.cells cs.toArray t fr)) : w.setCells b 0 cs = w :=
  setCells_same b cs 0 w (fun j v hv => rangeAt_blk h j v hv) (fun _ _ h => setCell_same h)
/-- A variable of many cells that is read in a region that only reads. -/
theorem wpQuiet_load {P : Program} {ops : Array Oper} {C : World → Prop} {Q : Act → Prop} {a : Act} {o : Oper} {rest : List Oper} (hgd : o.guard = none) (ty : TypeId) (x : Operand) (ho : o.op = .load ty x) {p : Value} (hx : a.eval x = p) (v : Value)
    (hr : ∀ w, C w → (Instr.loadAt ty p).run P w = .ok v w) (h : wpQuiet P ops C Q rest (a.put o.dst v)) : wpQuiet P ops C Q (o :: rest) a := by
  refine wpQuiet_step fun K hK => ?_
  rw [if_pos (by simp [Region.wanted, hgd])]
  refine ⟨v, fun w hw => ?_, hK _ h⟩
  unfold Oper.quietAt execOp
  simp only [ho, hx, Sem.run_bind, hr w hw, Result.andThen_ok, Sem.run_pure]
  exact ⟨rfl, rfl⟩
/-- An operation by its run. -/
theorem wpStill_run {P : Program} {ops : Array Oper} {w : World} {Q : Act → Prop} {a : Act} {o : Oper} {rest : List Oper} (hgd : o.guard = none) (v : Value) (hr : (execOp a.eval o).run P w = .ok (.value v) w) (h : wpStill P ops w Q rest (a.put o.dst v)) : wpStill P ops w Q (o :: rest) a := by
  refine wpStill_step fun K hK => ?_
  rw [if_pos (by simp [Region.wanted, hgd])]
  unfold Oper.still
  rw [hr]
  exact ⟨rfl, hK _ h⟩
theorem wpList_runV {P : Program} {ops : Array Oper} {w w' : World} {Q : Exit → Act → World → Prop} {a : Act} {o : Oper} {rest : List Oper} (hgd : o.guard = none) (v : Value) (hr : (execOp a.eval o).run P w = .ok (.value v) w') (h : wpList P ops Q rest (a.put o.dst v) w') : wpList P ops Q (o :: rest) a w :=
  wpList_plain hgd fun K hK => by
    unfold Oper.wp
    rw [hr]
    exact hK _ _ h
theorem wpList_runU {P : Program} {ops : Array Oper} {w w' : World} {Q : Exit → Act → World → Prop} {a : Act} {o : Oper} {rest : List Oper} (hgd : o.guard = none) (hr : (execOp a.eval o).run P w = .ok .skip w') (h : wpList P ops Q rest (a.put o.dst undef) w') : wpList P ops Q (o :: rest) a w :=
  wpList_plain hgd fun K hK => by
    unfold Oper.wp
    rw [hr]
    exact hK _ _ h
theorem wpList_enter {P : Program} {ops : Array Oper} {w : World} {Q : Exit → Act → World → Prop} {a : Act} {o : Oper} {rest : List Oper} {f : FuncId} {args : Array Value} {R : Ending → World → Prop} (hgd : o.guard = none) (hr : (execOp a.eval o).run P w = .ok (.enter f args) w) (hR : Calls P f args w R)
    (h : ∀ e w', R e w' → ∃ v, e = .returned v ∧ wpList P ops Q rest (a.put o.dst v) w') : wpList P ops Q (o :: rest) a w :=
  wpList_plain hgd fun K hK => by
    unfold Oper.wp
    rw [hr]
    refine hR.mono fun e w' hh => ?_
    obtain ⟨v, rfl, hv⟩ := h e w' hh
    exact hK _ _ hv
theorem exec_load {P : Program} {b : Act} {o : Oper} {v : World} {t : TypeId} {x : Operand} {p u : Value} (ho : o.op = .load t x) (hx : b.eval x = p) (hr : (Instr.loadAt t p).run P v = .ok u v) : (execOp b.eval o).run P v = .ok (.value u) v := by
  unfold execOp
  simp only [ho, hx, Sem.run_bind, hr, Result.andThen_ok, Sem.run_pure]
theorem exec_build1 {P : Program} {b : Act} {o : Oper} {v v' : World} {t : TypeId} {n i : Nat} {x : Operand} {p u : Value} (ho : o.op = .buildSlice t n #[(i, x)]) (hx : b.eval x = p) (hr : (Instr.buildSlice t n #[(i, p)]).run P v = .ok u v') : (execOp b.eval o).run P v = .ok (.value u) v' := by
  unfold execOp
  simp only [ho, List.map_toArray, List.map_cons, List.map_nil, hx, Sem.run_bind, hr, Result.andThen_ok, Sem.run_pure]
theorem exec_append {P : Program} {b : Act} {o : Oper} {v v' : World} {t : TypeId} {x y : Operand} {p q u : Value} (ho : o.op = .call { callee := .builtin .append, args := #[x, y], argTypes := #[t, t] }) (hx : b.eval x = p) (hy : b.eval y = q) (hr : (Builtin.append_ #[t, t] o.type #[p, q]).run P v = .ok u v') :
    (execOp b.eval o).run P v = .ok (.value u) v' := by
  unfold execOp
  simp only [ho, resolve, invoke, builtin, Sem.run_bind, Sem.run_pure, Result.andThen_ok, List.map_toArray, List.map_cons, List.map_nil, hx, hy, hr]
theorem exec_mapUpdate {P : Program} {b : Act} {o : Oper} {v v' : World} {t : TypeId} {m k x : Operand} {pm pk px : Value} (ho : o.op = .mapUpdate t m k x) (hm : b.eval m = pm) (hk : b.eval k = pk) (hx : b.eval x = px) (hr : (Instr.mapUpdate t pm pk px).run P v = .ok () v') : (execOp b.eval o).run P v = .ok .skip v' := by
  unfold execOp
  simp only [ho, hm, hk, hx, Sem.run_bind, hr, Result.andThen_ok, Sem.run_pure]
end Sp
end Go.Proofs.Ytjjpjkkaogfoaaa

namespace Go.Proofs.Ytjjpjkkaogfoaaa
open Go.RowKit
namespace Sp
open Sc
set_option maxRecDepth 100000

theorem clone_any (s : List UInt8) (w : World) (hs : s.length ≤ 1000) :
    Calls Try.prog 90 #[.string ⟨s.toArray⟩] w fun e w' => e = .returned (.string ⟨s.toArray⟩) ∧ Below w.heap.size w w' := by
  have HK := Try.stringslite_Clone ⟨s.toArray⟩
  have hs2 : (⟨s.toArray⟩ : ByteArray).size ≤ 281474976710656 := by simp [ByteArray.size]; omega
  go_enter Try.func90, Try.ntmps90
  go_wp2_with (go_at_call 92; refine (HK _ hs2).mono ?_; rintro e w1 ⟨rfl, hb⟩)
  go_ret
  exact ⟨rfl, by assumption⟩

/-- Nineteen cells of a block. -/
theorem key_blkF {w : World} {b : Nat} {t : TypeId} {v0 v1 v2 v3 v4 v5 v6 v7 v8 v9 v10 v11 v12 v13 v14 v15 v16 v17 v18 : Value} (h : w.heap[b]? = some (.cells #[v0, v1, v2, v3, v4, v5, v6, v7, v8, v9, v10, v11, v12, v13, v14, v15, v16, v17, v18] t (0, 0))) :
    (w.cell? ⟨b, 0, none⟩ = some v0 ∧ w.cell? ⟨b, 1, none⟩ = some v1 ∧ w.cell? ⟨b, 2, none⟩ = some v2 ∧ w.cell? ⟨b, 3, none⟩ = some v3 ∧ w.cell? ⟨b, 4, none⟩ = some v4 ∧ w.cell? ⟨b, 5, none⟩ = some v5 ∧ w.cell? ⟨b, 6, none⟩ = some v6 ∧ w.cell? ⟨b, 7, none⟩ = some v7 ∧ w.cell? ⟨b, 8, none⟩ = some v8 ∧ w.cell? ⟨b, 9, none⟩ = some v9 ∧ w.cell? ⟨b, 10, none⟩ = some v10 ∧ w.cell? ⟨b, 11, none⟩ = some v11 ∧ w.cell? ⟨b, 12, none⟩ = some v12 ∧ w.cell? ⟨b, 13, none⟩ = some v13 ∧ w.cell? ⟨b, 14, none⟩ = some v14 ∧ w.cell? ⟨b, 15, none⟩ = some v15 ∧ w.cell? ⟨b, 16, none⟩ = some v16 ∧ w.cell? ⟨b, 17, none⟩ = some v17 ∧ w.cell? ⟨b, 18, none⟩ = some v18) ∧
    (w.frozen? ⟨b, 0, none⟩ = false ∧ w.frozen? ⟨b, 1, none⟩ = false ∧ w.frozen? ⟨b, 2, none⟩ = false ∧ w.frozen? ⟨b, 3, none⟩ = false ∧ w.frozen? ⟨b, 4, none⟩ = false ∧ w.frozen? ⟨b, 5, none⟩ = false ∧ w.frozen? ⟨b, 6, none⟩ = false ∧ w.frozen? ⟨b, 7, none⟩ = false ∧ w.frozen? ⟨b, 8, none⟩ = false ∧ w.frozen? ⟨b, 9, none⟩ = false ∧ w.frozen? ⟨b, 10, none⟩ = false ∧ w.frozen? ⟨b, 11, none⟩ = false ∧ w.frozen? ⟨b, 12, none⟩ = false ∧ w.frozen? ⟨b, 13, none⟩ = false ∧ w.frozen? ⟨b, 14, none⟩ = false ∧ w.frozen? ⟨b, 15, none⟩ = false ∧ w.frozen? ⟨b, 16, none⟩ = false ∧ w.frozen? ⟨b, 17, none⟩ = false ∧ w.frozen? ⟨b, 18, none⟩ = false) := by
  refine ⟨⟨?_, ?_, ?_, ?_, ?_, ?_, ?_, ?_, ?_, ?_, ?_, ?_, ?_, ?_, ?_, ?_, ?_, ?_, ?_⟩, ⟨?_, ?_, ?_, ?_, ?_, ?_, ?_, ?_, ?_, ?_, ?_, ?_, ?_, ?_, ?_, ?_, ?_, ?_, ?_⟩⟩ <;> simp [World.cell?, World.frozen?, h]
/-- A place of eight texts. -/
theorem index8 (s : Nat → List UInt8) (j : Nat) (hj : j < 8) (w : World) : (Instr.index 108 (.agg #[.string ⟨(s 0).toArray⟩, .string ⟨(s 1).toArray⟩, .string ⟨(s 2).toArray⟩, .string ⟨(s 3).toArray⟩, .string ⟨(s 4).toArray⟩, .string ⟨(s 5).toArray⟩, .string ⟨(s 6).toArray⟩, .string ⟨(s 7).toArray⟩]) (.int .i64 (j : Nat))).run Try.prog w = .ok (.string ⟨(s j).toArray⟩) w := by
  match j, hj with
  | 0, _ => rfl
  | 1, _ => rfl
  | 2, _ => rfl
  | 3, _ => rfl
  | 4, _ => rfl
  | 5, _ => rfl
  | 6, _ => rfl
  | 7, _ => rfl
theorem cell8 {w : World} {b : Nat} {t : TypeId} {k sz : Int} {nm : List UInt8} {s : Nat → List UInt8} {i : Nat → Int} (h : w.heap[b]? = some (.cells #[.int .i64 k, .string ⟨nm.toArray⟩, .int .i64 sz, .string ⟨(s 0).toArray⟩, .string ⟨(s 1).toArray⟩, .string ⟨(s 2).toArray⟩, .string ⟨(s 3).toArray⟩, .string ⟨(s 4).toArray⟩, .string ⟨(s 5).toArray⟩, .string ⟨(s 6).toArray⟩, .string ⟨(s 7).toArray⟩, .int .i64 (i 0), .int .i64 (i 1), .int .i64 (i 2), .int .i64 (i 3), .int .i64 (i 4), .int .i64 (i 5), .int .i64 (i 6), .int .i64 (i 7)] t (0, 0))) (j : Nat) (hj : j < 8) :
    w.cell? ⟨b, 3 + j, none⟩ = some (.string ⟨(s j).toArray⟩) ∧ w.frozen? ⟨b, 3 + j, none⟩ = false := by
  refine ⟨?_, by simp [World.frozen?, h]⟩
  match j, hj with
  | 0, _ => simp [World.cell?, h]
  | 1, _ => simp [World.cell?, h]
  | 2, _ => simp [World.cell?, h]
  | 3, _ => simp [World.cell?, h]
  | 4, _ => simp [World.cell?, h]
  | 5, _ => simp [World.cell?, h]
  | 6, _ => simp [World.cell?, h]
  | 7, _ => simp [World.cell?, h]
/-- The slots of a round. -/
structure OwnR (w : World) (A Z : Array Value) (jv : Value) (wr : World) (j : Nat) : Prop where
  slot : jv = .int .i64 j
  le : j ≤ 8
  box : wr.heap[w.heap.size]? = some (.cells A 111 (0, 0))
  res : wr.heap[w.heap.size + 1]? = some (.cells Z 111 (0, 0))
  below : Below w.heap.size w wr
theorem infoKey : (Try.prog.info? 111).map (·.size) = some 19 := by kernel_rfl
theorem oneA {k sz : Int} {nm : List UInt8} {s : Nat → List UInt8} {i : Nat → Int} : ∀ v ∈ ([.int .i64 k, .string ⟨nm.toArray⟩, .int .i64 sz, .string ⟨(s 0).toArray⟩, .string ⟨(s 1).toArray⟩, .string ⟨(s 2).toArray⟩, .string ⟨(s 3).toArray⟩, .string ⟨(s 4).toArray⟩, .string ⟨(s 5).toArray⟩, .string ⟨(s 6).toArray⟩, .string ⟨(s 7).toArray⟩, .int .i64 (i 0), .int .i64 (i 1), .int .i64 (i 2), .int .i64 (i 3), .int .i64 (i 4), .int .i64 (i 5), .int .i64 (i 6), .int .i64 (i 7)] : List Value), v.oneCell' = true := by
  intro v hv
  simp only [List.mem_cons, List.not_mem_nil, or_false] at hv
  rcases hv with rfl | rfl | rfl | rfl | rfl | rfl | rfl | rfl | rfl | rfl | rfl | rfl | rfl | rfl | rfl | rfl | rfl | rfl | rfl <;> rfl
set_option maxHeartbeats 400000 in
theorem own_key (k sz : Int) (nm : List UInt8) (s : Nat → List UInt8) (i : Nat → Int) (w : World) (hn : nm.length ≤ 1000) (hs : ∀ j, (s j).length ≤ 1000) :
    Calls Try.prog 80 #[.agg #[.int .i64 k, .string ⟨nm.toArray⟩, .int .i64 sz, .string ⟨(s 0).toArray⟩, .string ⟨(s 1).toArray⟩, .string ⟨(s 2).toArray⟩, .string ⟨(s 3).toArray⟩, .string ⟨(s 4).toArray⟩, .string ⟨(s 5).toArray⟩, .string ⟨(s 6).toArray⟩, .string ⟨(s 7).toArray⟩, .int .i64 (i 0), .int .i64 (i 1), .int .i64 (i 2), .int .i64 (i 3), .int .i64 (i 4), .int .i64 (i 5), .int .i64 (i 6), .int .i64 (i 7)]] w fun e w' => e = .returned (.agg #[.int .i64 k, .string ⟨nm.toArray⟩, .int .i64 sz, .string ⟨(s 0).toArray⟩, .string ⟨(s 1).toArray⟩, .string ⟨(s 2).toArray⟩, .string ⟨(s 3).toArray⟩, .string ⟨(s 4).toArray⟩, .string ⟨(s 5).toArray⟩, .string ⟨(s 6).toArray⟩, .string ⟨(s 7).toArray⟩, .int .i64 (i 0), .int .i64 (i 1), .int .i64 (i 2), .int .i64 (i 3), .int .i64 (i 4), .int .i64 (i 5), .int .i64 (i 6), .int .i64 (i 7)]) ∧ Below w.heap.size w w' := by
  obtain ⟨W0, hW0⟩ : ∃ W0, W0 = (w.alloc (.cells #[.int .i64 k, .string ⟨nm.toArray⟩, .int .i64 sz, .string ⟨(s 0).toArray⟩, .string ⟨(s 1).toArray⟩, .string ⟨(s 2).toArray⟩, .string ⟨(s 3).toArray⟩, .string ⟨(s 4).toArray⟩, .string ⟨(s 5).toArray⟩, .string ⟨(s 6).toArray⟩, .string ⟨(s 7).toArray⟩, .int .i64 (i 0), .int .i64 (i 1), .int .i64 (i 2), .int .i64 (i 3), .int .i64 (i 4), .int .i64 (i 5), .int .i64 (i 6), .int .i64 (i 7)] 111)).alloc (.cells #[.int .i64 0, .string ⟨#[]⟩, .int .i64 0, .string ⟨#[]⟩, .string ⟨#[]⟩, .string ⟨#[]⟩, .string ⟨#[]⟩, .string ⟨#[]⟩, .string ⟨#[]⟩, .string ⟨#[]⟩, .string ⟨#[]⟩, .int .i64 0, .int .i64 0, .int .i64 0, .int .i64 0, .int .i64 0, .int .i64 0, .int .i64 0, .int .i64 0] 111) := ⟨_, rfl⟩
  have hb0 : Below w.heap.size w W0 := by rw [hW0]; exact ((Below.refl _ _).alloc (Nat.le_refl _) _).alloc (by simp) _
  have hz0 : W0.heap.size = w.heap.size + 2 := by rw [hW0]; simp
  have ha0 : W0.heap[w.heap.size]? = some (.cells #[.int .i64 k, .string ⟨nm.toArray⟩, .int .i64 sz, .string ⟨(s 0).toArray⟩, .string ⟨(s 1).toArray⟩, .string ⟨(s 2).toArray⟩, .string ⟨(s 3).toArray⟩, .string ⟨(s 4).toArray⟩, .string ⟨(s 5).toArray⟩, .string ⟨(s 6).toArray⟩, .string ⟨(s 7).toArray⟩, .int .i64 (i 0), .int .i64 (i 1), .int .i64 (i 2), .int .i64 (i 3), .int .i64 (i 4), .int .i64 (i 5), .int .i64 (i 6), .int .i64 (i 7)] 111 (0, 0)) := by rw [hW0, blk_if, if_neg (by simp), blk_if, if_pos rfl]
  have hc0 : W0.heap[w.heap.size + 1]? = some (.cells #[.int .i64 0, .string ⟨#[]⟩, .int .i64 0, .string ⟨#[]⟩, .string ⟨#[]⟩, .string ⟨#[]⟩, .string ⟨#[]⟩, .string ⟨#[]⟩, .string ⟨#[]⟩, .string ⟨#[]⟩, .string ⟨#[]⟩, .int .i64 0, .int .i64 0, .int .i64 0, .int .i64 0, .int .i64 0, .int .i64 0, .int .i64 0, .int .i64 0] 111 (0, 0)) := by rw [hW0, blk_if, if_pos (by simp)]
  obtain ⟨⟨-, a1, -⟩, _⟩ := key_blkF ha0
  have HW0 := Lib.hid hW0; have HB0 := Lib.hid hb0; have HA0 := Lib.hid ha0; have HC0 := Lib.hid hc0
  have C := fun W => clone_any nm W hn
  have D := fun j W => clone_any (s j) W (hs j)
  have HC := Lib.hid C; have HD := Lib.hid D
  clear hW0 hb0 ha0 hc0 C D hs
  go_enter Try.func80, Try.ntmps80
  go_upto_region 1 with fail
  rw [← HW0.out]
  go_upto_region 2 with (go_at_call 90; (refine (HC.out _).mono ?_); rintro e w1 ⟨rfl, x1⟩; have hz1 := x1.size; have ka := (x1.block w.heap.size (by omega)).trans HA0.out; have HK1 := Lib.hid ((x1.block (w.heap.size + 1) (by omega)).trans HC0.out); obtain ⟨⟨-, b1, -⟩, ⟨-, f1, -⟩⟩ := key_blkF ka; have HB1 := Lib.hid (HB0.out.trans (x1.mono (by omega))); have HKA := Lib.hid ka; clear ka x1)
  rw [setCell_same b1]
  obtain ⟨⟨b0, b1, b2, b3, b4, b5, b6, b7, b8, b9, b10, b11, b12, b13, b14, b15, b16, b17, b18⟩, _⟩ := key_blkF HKA.out
  go_wp2
  clear b0 b1 b2 b3 b4 b5 b6 b7 b8 b9 b10 b11 b12 b13 b14 b15 b16 b17 b18 f1 a1
  go_loopw [11] (fun jv wr => ∃ j, OwnR w #[.int .i64 k, .string ⟨nm.toArray⟩, .int .i64 sz, .string ⟨(s 0).toArray⟩, .string ⟨(s 1).toArray⟩, .string ⟨(s 2).toArray⟩, .string ⟨(s 3).toArray⟩, .string ⟨(s 4).toArray⟩, .string ⟨(s 5).toArray⟩, .string ⟨(s 6).toArray⟩, .string ⟨(s 7).toArray⟩, .int .i64 (i 0), .int .i64 (i 1), .int .i64 (i 2), .int .i64 (i 3), .int .i64 (i 4), .int .i64 (i 5), .int .i64 (i 6), .int .i64 (i 7)] #[.int .i64 0, .string ⟨#[]⟩, .int .i64 0, .string ⟨#[]⟩, .string ⟨#[]⟩, .string ⟨#[]⟩, .string ⟨#[]⟩, .string ⟨#[]⟩, .string ⟨#[]⟩, .string ⟨#[]⟩, .string ⟨#[]⟩, .int .i64 0, .int .i64 0, .int .i64 0, .int .i64 0, .int .i64 0, .int .i64 0, .int .i64 0, .int .i64 0] jv wr j) (fun jv _ => 8 - (intOf jv).toNat)
  case atStart => exact ⟨0, rfl, Nat.zero_le _, HKA.out, HK1.out, HB1.out⟩
  case round =>
    obtain ⟨j, h⟩ := hrel
    obtain rfl := h.slot
    have hle := h.le
    have hwz := h.below.size
    have hwl := (Array.getElem?_eq_some_iff.1 h.res).1
    have H := Lib.hid h
    clear h
    by_cases hj : j < 8
    · have hjz : (j : Int) < 8 := by omega
      have hj0 : (0 : Int) ≤ (j : Int) := by omega
      have hix := index8 s j hj wr
      have HCJ := Lib.hid (HD.out j)
      go_wp2_with (go_at_call 90; (refine (HCJ.out _).mono ?_); rintro e w2 ⟨rfl, x2⟩; have hz2 := x2.size; have ka := (x2.block w.heap.size (by omega)).trans H.out.box; have HC2 := Lib.hid ((x2.block (w.heap.size + 1) (by omega)).trans H.out.res); obtain ⟨g1, g2⟩ := cell8 ka j hj; have HB2 := Lib.hid (H.out.below.trans (x2.mono (by omega))); have HKA2 := Lib.hid ka; clear ka x2)
      rw [setCell_same g1]
      go_wp2
      go_roundw
      case rel => exact ⟨j + 1, by go_num, by omega, HKA2.out, HC2.out, HB2.out⟩
      case measure => simp [intOf]; omega
    · obtain rfl : j = 8 := by omega
      have RA := Lib.hid (rangeAt_blk (cs := [.int .i64 k, .string ⟨nm.toArray⟩, .int .i64 sz, .string ⟨(s 0).toArray⟩, .string ⟨(s 1).toArray⟩, .string ⟨(s 2).toArray⟩, .string ⟨(s 3).toArray⟩, .string ⟨(s 4).toArray⟩, .string ⟨(s 5).toArray⟩, .string ⟨(s 6).toArray⟩, .string ⟨(s 7).toArray⟩, .int .i64 (i 0), .int .i64 (i 1), .int .i64 (i 2), .int .i64 (i 3), .int .i64 (i 4), .int .i64 (i 5), .int .i64 (i 6), .int .i64 (i 7)]) H.out.box)
      have TH := Lib.hid (there_blk H.out.res)
      have HE := Lib.hid (setCells_blk (cs := [.int .i64 k, .string ⟨nm.toArray⟩, .int .i64 sz, .string ⟨(s 0).toArray⟩, .string ⟨(s 1).toArray⟩, .string ⟨(s 2).toArray⟩, .string ⟨(s 3).toArray⟩, .string ⟨(s 4).toArray⟩, .string ⟨(s 5).toArray⟩, .string ⟨(s 6).toArray⟩, .string ⟨(s 7).toArray⟩, .int .i64 (i 0), .int .i64 (i 1), .int .i64 (i 2), .int .i64 (i 3), .int .i64 (i 4), .int .i64 (i 5), .int .i64 (i 6), .int .i64 (i 7)]) H.out.res rfl)
      have HB := Lib.hid (setCells_below (w := w) (w.heap.size + 1) (Nat.le_succ _) [.int .i64 k, .string ⟨nm.toArray⟩, .int .i64 sz, .string ⟨(s 0).toArray⟩, .string ⟨(s 1).toArray⟩, .string ⟨(s 2).toArray⟩, .string ⟨(s 3).toArray⟩, .string ⟨(s 4).toArray⟩, .string ⟨(s 5).toArray⟩, .string ⟨(s 6).toArray⟩, .string ⟨(s 7).toArray⟩, .int .i64 (i 0), .int .i64 (i 1), .int .i64 (i 2), .int .i64 (i 3), .int .i64 (i 4), .int .i64 (i 5), .int .i64 (i 6), .int .i64 (i 7)] 0 wr H.out.below)
      have hes := setCells_size (w.heap.size + 1) [.int .i64 k, .string ⟨nm.toArray⟩, .int .i64 sz, .string ⟨(s 0).toArray⟩, .string ⟨(s 1).toArray⟩, .string ⟨(s 2).toArray⟩, .string ⟨(s 3).toArray⟩, .string ⟨(s 4).toArray⟩, .string ⟨(s 5).toArray⟩, .string ⟨(s 6).toArray⟩, .string ⟨(s 7).toArray⟩, .int .i64 (i 0), .int .i64 (i 1), .int .i64 (i 2), .int .i64 (i 3), .int .i64 (i 4), .int .i64 (i 5), .int .i64 (i 6), .int .i64 (i 7)] 0 wr
      go_upto_region 7 with fail
      refine wp_region_lit ?_
      refine wpList_load_mid rfl 111 _ rfl w.heap.size 0 rfl [.int .i64 k, .string ⟨nm.toArray⟩, .int .i64 sz, .string ⟨(s 0).toArray⟩, .string ⟨(s 1).toArray⟩, .string ⟨(s 2).toArray⟩, .string ⟨(s 3).toArray⟩, .string ⟨(s 4).toArray⟩, .string ⟨(s 5).toArray⟩, .string ⟨(s 6).toArray⟩, .string ⟨(s 7).toArray⟩, .int .i64 (i 0), .int .i64 (i 1), .int .i64 (i 2), .int .i64 (i 3), .int .i64 (i 4), .int .i64 (i 5), .int .i64 (i 6), .int .i64 (i 7)] _ RA.out Try.underlying111 rfl infoKey ?_
      refine wpList_store_mid rfl 111 _ _ rfl (w.heap.size + 1) 0 #[.int .i64 k, .string ⟨nm.toArray⟩, .int .i64 sz, .string ⟨(s 0).toArray⟩, .string ⟨(s 1).toArray⟩, .string ⟨(s 2).toArray⟩, .string ⟨(s 3).toArray⟩, .string ⟨(s 4).toArray⟩, .string ⟨(s 5).toArray⟩, .string ⟨(s 6).toArray⟩, .string ⟨(s 7).toArray⟩, .int .i64 (i 0), .int .i64 (i 1), .int .i64 (i 2), .int .i64 (i 3), .int .i64 (i 4), .int .i64 (i 5), .int .i64 (i 6), .int .i64 (i 7)] rfl rfl TH.out infoKey (all_oneCell_toArray oneA) ?_
      refine wpList_nil ?_
      obtain ⟨wE, hwE⟩ : ∃ wE, wE = wr.setCells (w.heap.size + 1) 0 [.int .i64 k, .string ⟨nm.toArray⟩, .int .i64 sz, .string ⟨(s 0).toArray⟩, .string ⟨(s 1).toArray⟩, .string ⟨(s 2).toArray⟩, .string ⟨(s 3).toArray⟩, .string ⟨(s 4).toArray⟩, .string ⟨(s 5).toArray⟩, .string ⟨(s 6).toArray⟩, .string ⟨(s 7).toArray⟩, .int .i64 (i 0), .int .i64 (i 1), .int .i64 (i 2), .int .i64 (i 3), .int .i64 (i 4), .int .i64 (i 5), .int .i64 (i 6), .int .i64 (i 7)] := ⟨_, rfl⟩
      rw [← hwE] at HE HB hes
      rw [show ([.int .i64 k, .string ⟨nm.toArray⟩, .int .i64 sz, .string ⟨(s 0).toArray⟩, .string ⟨(s 1).toArray⟩, .string ⟨(s 2).toArray⟩, .string ⟨(s 3).toArray⟩, .string ⟨(s 4).toArray⟩, .string ⟨(s 5).toArray⟩, .string ⟨(s 6).toArray⟩, .string ⟨(s 7).toArray⟩, .int .i64 (i 0), .int .i64 (i 1), .int .i64 (i 2), .int .i64 (i 3), .int .i64 (i 4), .int .i64 (i 5), .int .i64 (i 6), .int .i64 (i 7)] : List Value).toArray.toList = [.int .i64 k, .string ⟨nm.toArray⟩, .int .i64 sz, .string ⟨(s 0).toArray⟩, .string ⟨(s 1).toArray⟩, .string ⟨(s 2).toArray⟩, .string ⟨(s 3).toArray⟩, .string ⟨(s 4).toArray⟩, .string ⟨(s 5).toArray⟩, .string ⟨(s 6).toArray⟩, .string ⟨(s 7).toArray⟩, .int .i64 (i 0), .int .i64 (i 1), .int .i64 (i 2), .int .i64 (i 3), .int .i64 (i 4), .int .i64 (i 5), .int .i64 (i 6), .int .i64 (i 7)] from rfl, ← hwE]
      clear hwE RA TH
      simp only [Act.put]
      go_wp2
      have hl := run_loadVar_mid (P := Try.prog) wE (w.heap.size + 1) 0 111 [.int .i64 k, .string ⟨nm.toArray⟩, .int .i64 sz, .string ⟨(s 0).toArray⟩, .string ⟨(s 1).toArray⟩, .string ⟨(s 2).toArray⟩, .string ⟨(s 3).toArray⟩, .string ⟨(s 4).toArray⟩, .string ⟨(s 5).toArray⟩, .string ⟨(s 6).toArray⟩, .string ⟨(s 7).toArray⟩, .int .i64 (i 0), .int .i64 (i 1), .int .i64 (i 2), .int .i64 (i 3), .int .i64 (i 4), .int .i64 (i 5), .int .i64 (i 6), .int .i64 (i 7)] _ (rangeAt_blk HE.out) Try.underlying111 rfl infoKey
      refine bodyPost_ret (v := .agg #[.int .i64 k, .string ⟨nm.toArray⟩, .int .i64 sz, .string ⟨(s 0).toArray⟩, .string ⟨(s 1).toArray⟩, .string ⟨(s 2).toArray⟩, .string ⟨(s 3).toArray⟩, .string ⟨(s 4).toArray⟩, .string ⟨(s 5).toArray⟩, .string ⟨(s 6).toArray⟩, .string ⟨(s 7).toArray⟩, .int .i64 (i 0), .int .i64 (i 1), .int .i64 (i 2), .int .i64 (i 3), .int .i64 (i 4), .int .i64 (i 5), .int .i64 (i 6), .int .i64 (i 7)]) ?_ rfl ⟨rfl, HB.out⟩
      simp [results, Try.results80, asAddr, hl]
end Sp
end Go.Proofs.Ytjjpjkkaogfoaaa

namespace Go.Proofs.Ytjjpjkkaogfoaaa
open Go.RowKit
namespace Sp
open Sc
set_option maxRecDepth 100000

theorem own_kz (k : Kz) (hk : KFit k) (w : World) : Calls Try.prog 80 #[.agg k.cells.toArray] w fun e w' => e = .returned (.agg k.cells.toArray) ∧ Below w.heap.size w w' :=
  own_key k.kind k.kids.length k.name (fun j => k.names.getD j []) (fun j => (k.kids.getD j 0 : Nat)) w hk.nm fun j => by
    show (k.names.getD j []).length ≤ 1000
    rw [List.getD]
    cases e : k.names[j]? with
    | none => simp
    | some x => exact hk.nms x (List.mem_of_getElem? e)

set_option maxHeartbeats 400000 in
/-- A type that is there. -/
theorem number_there (k : Kz) (hk : KFit k) (w : World) (tb rb nb mb sb m : Nat) (ty nu : Value) (T : List Kz) (hT : TabV w tb rb nb mb sb m ty nu T) (hin : k ∈ T) :
    Calls Try.prog 60 #[.pointer (some ⟨tb, 0, none⟩), .agg k.cells.toArray] w fun e w' => e = .returned (.tuple #[.int .i64 (T.idxOf k : Nat), .int .i64 0]) ∧ Below w.heap.size w w' := by
  obtain ⟨A, hA⟩ : ∃ A, A = k.cells.toArray := ⟨_, rfl⟩
  have hlen : k.cells.length = 19 := rfl
  obtain ⟨W0, hW0⟩ : ∃ W0, W0 = w.alloc (.cells A 111) := ⟨_, rfl⟩
  have hb0 : Below w.heap.size w W0 := by rw [hW0]; exact (Below.refl _ _).alloc (Nat.le_refl _) _
  have ha0 : W0.heap[w.heap.size]? = some (.cells k.cells.toArray 111 (0, 0)) := by rw [hW0, ← hA]; exact heap_alloc_new w _
  have hT0 := hT.below hb0
  rcases hT0.num with ⟨rfl, -, -⟩ | ⟨rfl, hN⟩
  · cases hin
  · obtain ⟨⟨t0, t1, t2, t3, t4⟩, -⟩ := five_blkF hT0.box
    have hlk : ∀ n, (Instr.lookup 101 (.map (some nb)) (.agg A) true).run Try.prog (W0.drewN n) = .ok (.tuple #[.int .i64 (T.idxOf k : Nat), .bool true]) (W0.drewN n) := fun n => by
      have := (show NumV (W0.drewN n) nb T from hN.same rfl).at_ok hk hT0.fit hT0.wf.nd
      rw [if_pos hin, show decide (k ∈ T) = true by simpa using hin] at this
      rw [hA]; exact this
    have hld : ∀ n, (Instr.loadAt 111 (.pointer (some ⟨w.heap.size, 0, none⟩))).run Try.prog (W0.drewN n) = .ok (.agg A) (W0.drewN n) := fun n => by
      rw [hA]
      exact run_loadAt_mid (W0.drewN n) w.heap.size 0 111 k.cells _ (rangeAt_blk (w := W0.drewN n) ha0) Try.underlying111 rfl (by rw [hlen]; exact infoKey)
    rw [← hA]
    have HB0 := Lib.hid hb0
    have HW0 := Lib.hid hW0
    generalize T.idxOf k = q at *
    clear hb0 ha0 hT0 hN hT hW0 hA hk hin hlen
    go_enter Try.func60, Try.ntmps60
    go_upto_region 1 with fail
    rw [← HW0.out]
    refine wp_region_quiet_lit (by kernel_rfl) (by kernel_rfl) ?_
    iterate 4 (quiet_step (fail))
    refine wpQuiet_load rfl 111 _ rfl rfl (.agg A) (by rintro w' ⟨n, rfl⟩; exact hld n) ?_
    simp only [Act.put]
    repeat (quiet_step (fail))
    refine wpQuiet_nil ?_
    rintro _ ⟨nq, rfl⟩
    go_wp2
    go_ret2
    exact ⟨rfl, HB0.out.os, HB0.out.tape, HB0.out.output, HB0.out.size, HB0.out.block⟩
-- NEW
theorem eval_of {b : Act} {i : Nat} {v : Value} (h : b.tmps[i]? = some v) : b.eval (.tmp i) = v := by simp [Act.eval, h]
theorem QJ.skipU {P : Program} {Q : Exit → Act → World → Prop} {α : Type} {ops : Array Oper} {vals : α → Nat → Value} {M : α → Array Bool → World → Prop} {a0 b : Act} {listed : Array Bool} {v v' : World} {i : Nat} {o : Oper} {x : α} (hz : listed.size = ops.size) (hC : Closed ops listed) (hi : i ∈ Region.ready .any ops listed) (hF : Fr ops a0 (vals x) listed b) (hs : Slots ops a0.tmps.size) (ho : ops[i]? = some o) (hg : Region.wanted o (yielded ops b.tmps) = true)
    (hM : M x (listed.setIfInBounds i true) v') (hu : vals x i = undef) (hr : (execOp b.eval o).run P v = .ok .skip v') : wpOp P ops Q i (fun b' v' => QJ vals M ops a0 (listed.setIfInBounds i true) b' v') b v := by
  refine wpOp_wpG ho hg ?_
  unfold Oper.wp
  rw [hr]
  exact ⟨by simp [hz], hC.put hi, x, hu ▸ hF.put hs hz ho, hM⟩
theorem build_key (A : Array Value) (hA : A.size = 19) (w : World) : (Instr.buildSlice 100 1 #[(0, .agg A)]).run Try.prog w = .ok (.slice (some ⟨w.heap.size, 0, none⟩) 1 1) (w.alloc (.cells A 111)) := by
  obtain ⟨l⟩ := A
  match l, hA with
  | [a0, a1, a2, a3, a4, a5, a6, a7, a8, a9, a10, a11, a12, a13, a14, a15, a16, a17, a18], _ => simp [Instr.buildSlice, go_sem]
def ZK : Value := .agg #[.int .i64 0, .string ⟨#[]⟩, .int .i64 0, .string ⟨#[]⟩, .string ⟨#[]⟩, .string ⟨#[]⟩, .string ⟨#[]⟩, .string ⟨#[]⟩, .string ⟨#[]⟩, .string ⟨#[]⟩, .string ⟨#[]⟩, .int .i64 0, .int .i64 0, .int .i64 0, .int .i64 0, .int .i64 0, .int .i64 0, .int .i64 0, .int .i64 0]
theorem infoKeyZ : (Try.prog.info? 111).map (fun i => (i.zero, i.size, i.bytes)) = some (some ZK, 19, 224) := by kernel_rfl
/-- What the append leaves. -/
def AppP (W : World) (A : Array Value) (ty : Value) (n : Nat) (xs : List Value) (v : World) (y : Value) : Prop :=
  ∃ g cap, y = .slice (some ⟨g, 0, none⟩) (n + 1) cap ∧ v.ownsRow 0 111 19 (.slice (some ⟨g, 0, none⟩) (n + 1) cap) (n + 1) (xs ++ A.toList) ∧ (W.alloc (.cells A 111)).grownBy v ty.ownBlock ∧ (ty.ownBlock = some g ∨ g = W.heap.size + 1) ∧ g < v.heap.size
def NumM (W : World) (tb : Nat) (A : Array Value) (ty : Value) (n : Nat) (xs : List Value) (x : Nat × Value) (listed : Array Bool) (v : World) : Prop :=
  match listed.getD 6 false, listed.getD 7 false, listed.getD 10 false with
  | false, false, false => v = W
  | true, false, false => v = W.alloc (.cells A 111) ∧ x.1 = W.heap.size
  | true, true, false => AppP W A ty n xs v x.2
  | true, true, true => ∃ w3, AppP W A ty n xs w3 x.2 ∧ v = w3.setCell ⟨tb, 0, none⟩ x.2
  | _, _, _ => False
section
variable {W v : World} {tb : Nat} {A : Array Value} {ty : Value} {n : Nat} {xs : List Value} {x : Nat × Value} {listed : Array Bool}
theorem NumM.at0 (h : NumM W tb A ty n xs x listed v) (h6 : listed.getD 6 false = false) (h7 : listed.getD 7 false = false) (h10 : listed.getD 10 false = false) : v = W := by
  unfold NumM at h; rw [h6, h7, h10] at h; exact h
theorem NumM.at1 (h : NumM W tb A ty n xs x listed v) (h6 : listed.getD 6 false = true) (h7 : listed.getD 7 false = false) (h10 : listed.getD 10 false = false) : v = W.alloc (.cells A 111) ∧ x.1 = W.heap.size := by
  unfold NumM at h; rw [h6, h7, h10] at h; exact h
theorem NumM.at2 (h : NumM W tb A ty n xs x listed v) (h6 : listed.getD 6 false = true) (h7 : listed.getD 7 false = true) (h10 : listed.getD 10 false = false) : AppP W A ty n xs v x.2 := by
  unfold NumM at h; rw [h6, h7, h10] at h; exact h
theorem NumM.at3 (h : NumM W tb A ty n xs x listed v) (h6 : listed.getD 6 false = true) (h7 : listed.getD 7 false = true) (h10 : listed.getD 10 false = true) : ∃ w3, AppP W A ty n xs w3 x.2 ∧ v = w3.setCell ⟨tb, 0, none⟩ x.2 := by
  unfold NumM at h; rw [h6, h7, h10] at h; exact h
theorem NumM.same (h : NumM W tb A ty n xs x listed v) (i : Nat) (h6 : i ≠ 6) (h7 : i ≠ 7) (h10 : i ≠ 10) : NumM W tb A ty n xs x (listed.setIfInBounds i true) v := by
  unfold NumM at h ⊢; rw [getD_setN h6, getD_setN h7, getD_setN h10]; exact h
theorem AppP.far {y : Value} (h : AppP W A ty n xs v y) {g : Nat} (hg : g < W.heap.size) (hx : ty.ownBlock ≠ some g) : v.heap[g]? = W.heap[g]? := by
  obtain ⟨g', cap, -, -, h3, -⟩ := h
  exact (h3.block g (by simp; omega) (fun e => hx e.symm)).trans (Below.heap_alloc _ _ _ hg)
theorem NumM.far (h : NumM W tb A ty n xs x listed v) {g : Nat} (hg : g < W.heap.size) (hx : ty.ownBlock ≠ some g) (hn : g ≠ tb ∨ listed.getD 10 false = false) : v.heap[g]? = W.heap[g]? := by
  unfold NumM at h
  generalize listed.getD 6 false = b6 at h
  generalize listed.getD 7 false = b7 at h
  generalize listed.getD 10 false = b10 at h hn
  match b6, b7, b10, h with
  | false, false, false, h => rw [show v = W from h]
  | true, false, false, h => rw [show v = _ from h.1]; exact Below.heap_alloc _ _ _ hg
  | true, true, false, h => exact AppP.far h hg hx
  | true, true, true, ⟨w3, hp, e⟩ =>
    rcases hn with hn | hn
    · rw [e, RowKit.Below.heap_setCell _ _ _ _ hn]; exact hp.far hg hx
    · cases hn
end
/-- Behind the map's making. -/
structure NumR (w : World) (tb nb mb sb m : Nat) (ty : Value) (A : Array Value) (T : List Kz) (wx : World) (nb2 : Nat) : Prop where
  box : wx.heap[tb]? = some (.cells #[ty, .map (some nb2), .map (some mb), .map (some sb), .int .i64 m] 103 (0, 0))
  num : NumV wx nb2 T
  key : wx.heap[w.heap.size]? = some (.cells A 111 (0, 0))
  keeps : Keeps (fun g => g = tb) w wx
  nb : (nb2 = nb ∧ nb ≠ tb) ∨ w.heap.size < nb2
  grown : w.heap.size < wx.heap.size

theorem set_five0 {w : World} {b : Nat} {t : TypeId} {v0 v1 v2 v3 v4 : Value} (h : w.heap[b]? = some (.cells #[v0, v1, v2, v3, v4] t (0, 0))) (v : Value) : (w.setCell ⟨b, 0, none⟩ v).heap[b]? = some (.cells #[v, v1, v2, v3, v4] t (0, 0)) := by
  unfold World.setCell; simp [Array.getElem?_modify, h]
theorem set_five1 {w : World} {b : Nat} {t : TypeId} {v0 v1 v2 v3 v4 : Value} (h : w.heap[b]? = some (.cells #[v0, v1, v2, v3, v4] t (0, 0))) (v : Value) : (w.setCell ⟨b, 1, none⟩ v).heap[b]? = some (.cells #[v0, v, v2, v3, v4] t (0, 0)) := by
  unfold World.setCell; simp [Array.getElem?_modify, h]
theorem set_five4 {w : World} {b : Nat} {t : TypeId} {v0 v1 v2 v3 v4 : Value} (h : w.heap[b]? = some (.cells #[v0, v1, v2, v3, v4] t (0, 0))) (v : Value) : (w.setCell ⟨b, 4, none⟩ v).heap[b]? = some (.cells #[v0, v1, v2, v3, v] t (0, 0)) := by
  unfold World.setCell; simp [Array.getElem?_modify, h]
/-- A row that is owned lies in a block of keys. -/
theorem own_key_blk {w : World} {v : Value} {n : Nat} {xs : List Value} (h : w.ownsRow 0 111 19 v n xs) {g : Nat} (hg : v.ownBlock = some g) : ∃ cs, w.heap[g]? = some (.cells cs 111 (0, 0)) := by
  obtain ⟨-, h2⟩ := h
  rcases h2 with ⟨rfl, -⟩ | ⟨g', cap, cur, rfl, -, e3, -⟩
  · cases hg
  · cases hg; exact ⟨_, e3⟩
theorem TabV.rowIs {w : World} {tb rb nb mb sb m : Nat} {ty nu : Value} {T : List Kz} (h : TabV w tb rb nb mb sb m ty nu T) {g : Nat} (hg : ty.ownBlock = some g) : g = rb := by
  rcases h.row with ⟨-, rfl, -⟩ | ⟨cap, rfl⟩
  · cases hg
  · cases hg; rfl
theorem TabV.notT {w : World} {tb rb nb mb sb m : Nat} {ty nu : Value} {T : List Kz} (h : TabV w tb rb nb mb sb m ty nu T) : ty.ownBlock ≠ some tb := fun e => by
  obtain ⟨cs, hc⟩ := own_key_blk h.own e
  rw [h.box] at hc
  simp only [Option.some.injEq, Obj.cells.injEq] at hc
  exact absurd hc.2.1 (by decide)
theorem TabV.rowLt {w : World} {tb rb nb mb sb m : Nat} {ty nu : Value} {T : List Kz} (h : TabV w tb rb nb mb sb m ty nu T) {g : Nat} (hg : ty.ownBlock = some g) : g < w.heap.size := by
  obtain ⟨cs, hc⟩ := own_key_blk h.own hg
  exact (Array.getElem?_eq_some_iff.1 hc).1
theorem own_same {w w' : World} {v : Value} {n : Nat} {xs : List Value} (h : w.ownsRow 0 111 19 v n xs) (hk : ∀ g, v.ownBlock = some g → w'.heap[g]? = w.heap[g]?) : w'.ownsRow 0 111 19 v n xs := by
  obtain ⟨h1, h2⟩ := h
  refine ⟨h1, ?_⟩
  rcases h2 with h2 | ⟨g, cap, cur, rfl, e2, e3, e4⟩
  · exact .inl h2
  · exact .inr ⟨g, cap, cur, rfl, e2, (hk g rfl).trans e3, e4⟩
theorem NumR.own {w wx : World} {tb rb nb mb sb m : Nat} {ty nu : Value} {A : Array Value} {T : List Kz} {nb2 : Nat} (h : NumR w tb nb mb sb m ty A T wx nb2) (hT : TabV w tb rb nb mb sb m ty nu T) : wx.ownsRow 0 111 19 ty T.length (T.flatMap Kz.cells) :=
  own_same hT.own fun g hg => h.keeps.block g (hT.rowLt hg) (fun e => hT.notT (e ▸ hg))
theorem NumV.isMap {w : World} {b : Nat} {T : List Kz} (h : NumV w b T) : ∃ es clock, w.heap[b]? = some (.map es clock) := by
  obtain ⟨es, clock, h1, h2⟩ := h
  exact ⟨es, clock, h1⟩
theorem num_done {w wc w2 w3 w5 : World} {tb rb nb mb sb m nb2 g cap : Nat} {ty nu : Value} {A : Array Value} {T : List Kz} {k : Kz} (hT : TabV w tb rb nb mb sb m ty nu T) (H : NumR w tb nb mb sb m ty A T wc nb2) (x2 : Below wc.heap.size wc w2) (hA : A.toList = k.cells)
    (hap : AppP w2.drew A ty T.length (T.flatMap Kz.cells) w3 (.slice (some ⟨g, 0, none⟩) (T.length + 1) cap)) (h5 : (w3.setCell ⟨tb, 0, none⟩ (.slice (some ⟨g, 0, none⟩) (T.length + 1) cap)).grownBy w5 (some nb2)) (hN5 : NumV w5 nb2 (T ++ [k]))
    (hk : KFit k) (hj : ∀ j ∈ k.kids, j < T.length) (hin : ¬ k ∈ T) (h120 : ¬ 120 ≤ T.length) : Added w w5 tb rb nb mb sb m (T ++ [k]) g nb2 (.slice (some ⟨g, 0, none⟩) (T.length + 1) cap) (.map (some nb2)) := by
  have hap' := hap
  obtain ⟨g', cap', hy, h2, h3, h4, h5'⟩ := hap
  cases hy
  have htl := hT.tlt
  have s1 := H.keeps.size
  have s2 := x2.size
  have s3 := h3.size
  simp at s3
  have s5 := h5.size
  simp at s5
  have hx0 : ∀ g, g < wc.heap.size → ty.ownBlock ≠ some g → w3.heap[g]? = wc.heap[g]? := fun g hg hx => (hap'.far (show g < w2.heap.size by omega) hx).trans (x2.block g hg)
  have hbx : w3.heap[tb]? = some (.cells #[ty, .map (some nb2), .map (some mb), .map (some sb), .int .i64 m] 103 (0, 0)) := (hx0 tb (by omega) hT.notT).trans H.box
  obtain ⟨es, cl, hm5⟩ := hN5.isMap
  have hnt : nb2 ≠ tb := by
    rcases H.nb with ⟨rfl, h⟩ | h
    · exact h
    · omega
  obtain ⟨cs, hgk⟩ := own_key_blk h2 (g := g) rfl
  have hgt : g ≠ tb := fun e => by
    rw [e, hbx] at hgk
    simp only [Option.some.injEq, Obj.cells.injEq] at hgk
    exact absurd hgk.2.1 (by decide)
  have hgn : g ≠ nb2 := fun e => by
    have hl : nb2 < wc.heap.size := H.num.lt
    obtain ⟨es', cl', hm⟩ := H.num.isMap
    rcases h4 with h4 | h4
    · obtain ⟨cs', hc⟩ := own_key_blk (H.own hT) h4
      rw [e, hm] at hc; cases hc
    · simp at h4; omega
  have hset : ∀ b, b ≠ tb → (w3.setCell ⟨tb, 0, none⟩ (.slice (some ⟨g, 0, none⟩) (T.length + 1) cap)).heap[b]? = w3.heap[b]? := fun b hb => RowKit.Below.heap_setCell _ _ _ _ hb
  refine ⟨⟨?_, ?_, .inr ⟨cap, by simp⟩, .inr ⟨rfl, hN5⟩, fun x hx => ?_, ?_, by have := hT.mlt; omega, by have := hT.slt; omega, ?_, ?_⟩, ?_, ?_⟩
  · rw [h5.block tb (by simp; omega) (by simpa using fun e => hnt e.symm)]
    exact set_five0 hbx _
  · have := own_same (w' := w5) h2 fun b hb => by
      cases hb
      rw [h5.block g (by simp; exact h5') (by simpa using hgn)]
      exact hset g hgt
    rw [hA] at this
    simpa using this
  · rcases List.mem_append.1 hx with hx | hx
    · exact hT.fit x hx
    · rw [List.mem_singleton.1 hx]; exact hk
  · have := numK_wf hT.wf hk.toWfK hj
    unfold numK at this
    rwa [if_neg hin, if_neg h120] at this
  · rcases H.nb with ⟨rfl, -⟩ | h
    · exact hT.nm
    · have := hT.mlt; omega
  · rcases H.nb with ⟨rfl, -⟩ | h
    · exact hT.ns
    · have := hT.slt; omega
  · refine ⟨h5.os.trans (h3.os.trans (x2.os.trans H.keeps.os)), h5.tape.trans (h3.tape.trans (x2.tape.trans H.keeps.tape)), h5.output.trans (h3.output.trans (x2.output.trans H.keeps.output)), by omega, fun b hb hn => ?_⟩
    have hbt : b ≠ tb := fun e => hn (.inl e)
    rw [h5.block b (by simp; omega) (by
      simp only [ne_eq, Option.some.injEq]
      rintro rfl
      rcases H.nb with ⟨rfl, -⟩ | h
      · exact hn (.inr (.inr rfl))
      · omega), hset b hbt, hx0 b (by omega) (fun e => hn (.inr (.inl (hT.rowIs e))))]
    exact H.keeps.block b hb hbt
  · refine ⟨?_, ?_⟩
    · rcases h4 with h4 | h4
      · exact .inl (hT.rowIs h4)
      · simp at h4; exact .inr (by omega)
    · rcases H.nb with ⟨rfl, -⟩ | h
      · exact .inl rfl
      · exact .inr (by omega)
set_option maxHeartbeats 8000000 in
/-- A type that is not there. -/
theorem number_new (k : Kz) (hk : KFit k) (w : World) (tb rb nb mb sb m : Nat) (ty nu : Value) (T : List Kz) (hT : TabV w tb rb nb mb sb m ty nu T) (hin : ¬ k ∈ T) (hj : ∀ j ∈ k.kids, j < T.length) :
    Calls Try.prog 60 #[.pointer (some ⟨tb, 0, none⟩), .agg k.cells.toArray] w fun e w' => ∃ rb' nb' ty' nu', e = .returned (.tuple #[.int .i64 ((numK T k).1 : Nat), .int .i64 ((numK T k).2.1 : Nat)]) ∧ Added w w' tb rb nb mb sb m (numK T k).2.2 rb' nb' ty' nu' := by
  obtain ⟨A, hA⟩ : ∃ A, A = k.cells.toArray := ⟨_, rfl⟩
  have hlen : k.cells.length = 19 := rfl
  have hal : A.size = 19 := by rw [hA]; rfl
  obtain ⟨W0, hW0⟩ : ∃ W0, W0 = w.alloc (.cells A 111) := ⟨_, rfl⟩
  have hb0 : Below w.heap.size w W0 := by rw [hW0]; exact (Below.refl _ _).alloc (Nat.le_refl _) _
  have ha0 : W0.heap[w.heap.size]? = some (.cells k.cells.toArray 111 (0, 0)) := by rw [hW0, ← hA]; exact heap_alloc_new w _
  have hz0 : W0.heap.size = w.heap.size + 1 := by rw [hW0]; simp
  have hT0 := hT.below hb0
  obtain ⟨ta, tc, hty⟩ : ∃ ta tc, ty = .slice ta T.length tc := by
    rcases hT.row with ⟨rfl, rfl, -⟩ | ⟨cap, rfl⟩
    · exact ⟨none, 0, rfl⟩
    · exact ⟨_, _, rfl⟩
  obtain ⟨mv, hmv⟩ : ∃ mv, nu = .map mv := by
    rcases hT.num with ⟨-, rfl, -⟩ | ⟨rfl, -⟩
    · exact ⟨_, rfl⟩
    · exact ⟨_, rfl⟩
  have hlk : ∀ n, (Instr.lookup 101 nu (.agg A) true).run Try.prog (W0.drewN n) = .ok (.tuple #[.int .i64 0, .bool false]) (W0.drewN n) := fun n => by
    rw [hA]
    rcases hT0.num with ⟨-, rfl, -⟩ | ⟨rfl, hN⟩
    · exact num_nil _ hk
    · have := (show NumV (W0.drewN n) nb T from hN.same rfl).at_ok hk hT0.fit hT0.wf.nd
      rw [if_neg hin, show decide (k ∈ T) = false by simpa using hin] at this
      exact this
  have hld : ∀ n, (Instr.loadAt 111 (.pointer (some ⟨w.heap.size, 0, none⟩))).run Try.prog (W0.drewN n) = .ok (.agg A) (W0.drewN n) := fun n => by
    rw [hA]
    exact run_loadAt_mid (W0.drewN n) w.heap.size 0 111 k.cells _ (rangeAt_blk (w := W0.drewN n) ha0) Try.underlying111 rfl (by rw [hlen]; exact infoKey)
  have hown80 : ∀ W, Calls Try.prog 80 #[.agg A] W fun e w' => e = .returned (.agg A) ∧ Below W.heap.size W w' := fun W => by rw [hA]; exact own_kz k hk W
  have hone : ∀ u ∈ A.toList, u.oneCell' = true := by rw [hA]; simpa using k.one
  have hal2 : A.toList = k.cells := by rw [hA]
  have hTlen := hT.wf.len
  have hlt := hT.tlt
  obtain ⟨⟨t0, t1, t2, t3, t4⟩, ⟨-, f1, -⟩⟩ := five_blkF hT0.box
  obtain ⟨p, hp⟩ : ∃ p, p = numK T k := ⟨_, rfl⟩
  have HV : Hid (p = if 120 ≤ T.length then (0, 20, T) else (T.length, 0, T ++ [k])) := by unfold Hid; rw [hp]; unfold numK; rw [if_neg hin]
  rw [← hp]
  clear hp
  rw [← hA]
  rw [← hA] at ha0
  have HB0 := Lib.hid hb0; have HW0 := Lib.hid hW0; have HA0 := Lib.hid ha0; have HT := Lib.hid hT; have HTY := Lib.hid hty; have HK := Lib.hid hk; have HJ := Lib.hid hj; have HIN := Lib.hid hin; have HO80 := Lib.hid hown80; have HONE := Lib.hid hone; have HAL := Lib.hid hal; have HAL2 := Lib.hid hal2; have HMV := Lib.hid hmv
  rw [hty] at t0
  rw [hmv] at t1
  rw [hmv] at hlk
  clear hb0 ha0 hT hT0 hW0 hA hk hin hlen hty hj hown80 hone hal hal2 hmv
  go_enter Try.func60, Try.ntmps60
  go_upto_region 1 with fail
  rw [← HW0.out]
  refine wp_region_quiet_lit (by kernel_rfl) (by kernel_rfl) ?_
  iterate 4 (quiet_step (fail))
  refine wpQuiet_load rfl 111 _ rfl rfl (.agg A) (by rintro w' ⟨n, rfl⟩; exact hld n) ?_
  simp only [Act.put]
  repeat (quiet_step (fail))
  refine wpQuiet_nil ?_
  rintro _ ⟨nq, rfl⟩
  clear hlk hld
  by_cases h120 : 120 ≤ T.length
  · have h120z : (120 : Int) ≤ (T.length : Int) := by omega
    have hB : Below w.heap.size w (W0.drewN nq) := ⟨HB0.out.os, HB0.out.tape, HB0.out.output, HB0.out.size, HB0.out.block⟩
    have HBB := Lib.hid hB
    clear hB
    go_wp2
    go_ret2
    rw [HV.out, if_pos h120]
    exact ⟨rb, nb, ty, nu, rfl, HT.out.below HBB.out, Keeps.of_below HBB.out, Grew.refl _ _ _ _⟩
  · have h120z : ¬ (120 : Int) ≤ (T.length : Int) := by omega
    obtain ⟨W1, hW1⟩ : ∃ W1, W1 = W0.drewN nq := ⟨_, rfl⟩
    have hB1 : Below w.heap.size w W1 := by rw [hW1]; exact ⟨HB0.out.os, HB0.out.tape, HB0.out.output, HB0.out.size, HB0.out.block⟩
    have ha1 : W1.heap[w.heap.size]? = some (.cells A 111 (0, 0)) := by rw [hW1]; exact HA0.out
    have hz1 : W1.heap.size = w.heap.size + 1 := by rw [hW1]; exact hz0
    have hT1 := HT.out.below hB1
    clear t0 t1 t2 t3 t4 f1
    obtain ⟨⟨t0, t1, t2, t3, t4⟩, ⟨-, f1, -⟩⟩ := five_blkF hT1.box
    rw [HTY.out] at t0
    rw [HMV.out] at t1
    rw [← hW1]
    have HB1 := Lib.hid hB1; have HA1 := Lib.hid ha1; have HT1 := Lib.hid hT1
    clear hW1 hB1 ha1 hT1
    have hmm := @run_makeMap Try.prog
    have hbo : (binOp BinOp.eql 101 (.map mv) (.map none)).run Try.prog W1 = .ok (.bool mv.isNone) W1 := by cases mv <;> rfl
    go_upto_if 31 with fail
    go_cut [] (fun wx => ∃ nb2, NumR w tb nb mb sb m ty A T wx nb2)
    case first =>
      rcases HT.out.num with ⟨e1, e2, e3⟩ | ⟨e2, hN⟩
      · rw [HMV.out] at e2
        cases e2
        have HE1 := Lib.hid e1; have HE3 := Lib.hid e3
        clear e1 e3
        go_wp2
        go_meet
        case rel =>
          refine ⟨w.heap.size + 1, ?_, ?_, ?_, ?_, .inr (by omega), by simp; omega⟩
          · rw [Below.heap_alloc _ _ _ (by simp; omega)]
            exact set_five1 HT1.out.box _
          · have hm0 := NumV.made (W1.setCell ⟨tb, 1, none⟩ (.map (some (w.heap.size + 1))))
            rw [show (W1.setCell ⟨tb, 1, none⟩ (.map (some (w.heap.size + 1)))).heap.size = w.heap.size + 1 by simp; omega] at hm0
            rw [HE1.out]; exact hm0
          · rw [Below.heap_alloc _ _ _ (by simp; omega), RowKit.Below.heap_setCell _ _ _ _ (by show w.heap.size ≠ tb; omega)]
            exact HA1.out
          · exact (Keeps.setCell (O := fun g => g = tb) (Keeps.of_below HB1.out) 1 _ rfl).alloc _
      · rw [HMV.out] at e2
        cases e2
        have HN := Lib.hid hN
        clear hN
        go_wp2
        go_meet
        case rel =>
          have hN1 : NumV W1 nb T := HN.out.same (HB1.out.block nb HN.out.lt)
          obtain ⟨es, cl, hm⟩ := HN.out.isMap
          refine ⟨nb, ?_, hN1, HA1.out, Keeps.of_below HB1.out, .inl ⟨rfl, fun e => ?_⟩, by omega⟩
          · have := HT1.out.box; rwa [HMV.out] at this
          · rw [e, HT.out.box] at hm; cases hm
    case rest =>
      obtain ⟨nb2, h⟩ := hcut
      clear t0 t1 t2 t3 t4 f1
      have hkl0 := h.grown
      have H := Lib.hid h
      clear h
      have RA := Lib.hid (rangeAt_blk (cs := A.toList) (by simpa using H.out.key))
      go_upto_region 9 with fail
      refine wp_region_lit ?_
      refine wpList_load_mid rfl 111 _ rfl w.heap.size 0 rfl A.toList _ RA.out Try.underlying111 rfl (by rw [Array.length_toList, HAL.out]; exact infoKey) ?_
      rw [Array.toArray_toList]
      refine wpList_enter (f := 80) (args := #[.agg A]) rfl (by simp [go_sem]) (HO80.out _) ?_
      rintro e w2 ⟨rfl, x2⟩
      refine ⟨_, rfl, ?_⟩
      have kb2 := (x2.block w.heap.size hkl0).trans H.out.key
      refine wpList_store_mid rfl 111 _ _ rfl w.heap.size 0 A rfl rfl (by have := there_blk (w := w2) (cs := A.toList) (by simpa using kb2); simpa using this) (by rw [HAL.out]; exact infoKey) (by have := all_oneCell_toArray HONE.out; simpa using this) ?_
      rw [setCells_keep (by simpa using kb2)]
      refine wpList_nil ?_
      simp only [Act.put]
      have X2 := Lib.hid x2
      have hbx2 := (x2.block tb (by have := H.out.keeps.size; omega)).trans H.out.box
      have hs2 := x2.size
      obtain ⟨W, hW⟩ : ∃ W, W = w2.drew := ⟨_, rfl⟩
      have hzW : W.heap.size = w2.heap.size := by rw [hW]; rfl
      have htl : tb < W.heap.size := by have := H.out.keeps.size; omega
      have hkl : w.heap.size < W.heap.size := by omega
      have HNE : Hid (ty.ownBlock ≠ some tb) := HT.out.notT
      have HNK : Hid (ty.ownBlock ≠ some w.heap.size) := fun e => by have := HT.out.rowLt e; omega
      have HKT : Hid (w.heap.size ≠ tb) := by unfold Hid; omega
      have HBX : Hid (W.heap[tb]? = some (.cells #[ty, .map (some nb2), .map (some mb), .map (some sb), .int .i64 m] 103 (0, 0))) := by rw [hW]; exact hbx2
      have HKB : Hid (W.heap[w.heap.size]? = some (.cells A 111 (0, 0))) := by rw [hW]; exact kb2
      have HOWN : Hid (W.ownsRow 0 111 19 ty T.length (T.flatMap Kz.cells)) := by
        rw [hW]
        exact own_same (H.out.own HT.out) fun g hg => x2.block g (by have := HT.out.rowLt hg; have := H.out.keeps.size; omega)
      obtain ⟨i0, hi, hz0', hz1', hz2'⟩ := info_parts infoKeyZ
      have HI := Lib.hid hi; have HI0 := Lib.hid hz0'; have HI1 := Lib.hid hz1'; have HI2 := Lib.hid hz2'
      have HW := Lib.hid hW
      clear hi hz0' hz1' hz2' hbx2 kb2 x2 hW RA
      obtain ⟨n, hn⟩ : ∃ n, n = T.length := ⟨_, rfl⟩
      obtain ⟨xs, hxs⟩ : ∃ xs, xs = T.flatMap Kz.cells := ⟨_, rfl⟩
      obtain ⟨kb, hkb⟩ : ∃ kb, kb = w.heap.size := ⟨_, rfl⟩
      rw [← hn, ← hxs] at HOWN
      rw [← hkb] at HKB HKT HNK hkl
      have hn120 : n ≤ 120 := by omega
      rw [← hkb, ← hn]
      have HNN := Lib.hid hn; have HXS := Lib.hid hxs; have HKBB := Lib.hid hkb
      clear hn hxs hkb
      go_upto_region 10 with fail
      refine wp_region_by (QJ (fun (x : Nat × Value) i => match i with | 0 => .pointer (some ⟨tb, 0, none⟩) | 1 => .pointer (some ⟨tb, 0, none⟩) | 2 => .pointer (some ⟨tb, 0, none⟩) | 3 => .pointer (some ⟨tb, 0, none⟩) | 4 => ty | 5 => .agg A | 6 => .slice (some ⟨x.1, 0, none⟩) 1 1 | 7 => x.2 | 8 => .pointer (some ⟨tb, 0, none⟩) | 9 => .pointer (some ⟨tb, 0, none⟩) | 10 => undef | _ => undef) (NumM W tb A ty n xs)) (by kernel_rfl) ?_ ?_ ?_
      · exact ⟨by simp, Closed.start _, (0, undef), Fr.start _ _ _, HW.out.symm⟩
      · intro listed b v q hJ hi
        obtain ⟨hsz, hC, x, hF, hM⟩ := hJ
        obtain ⟨hl1, hiN⟩ := not_up hsz hi
        obtain ⟨_, o, ho, hdeps⟩ := mem_ready.1 hi
        have hiN : q < 11 := hiN
        obtain rfl | rfl | rfl | rfl | rfl | rfl | rfl | rfl | rfl | rfl | rfl : q = 0 ∨ q = 1 ∨ q = 2 ∨ q = 3 ∨ q = 4 ∨ q = 5 ∨ q = 6 ∨ q = 7 ∨ q = 8 ∨ q = 9 ∨ q = 10 := by omega
        · cases ho
          have e0 := hF.old_is 0 (by rfl) rfl
          refine QJ.quiet (x := x) hsz hC hi hF (Slots.of (by rfl)) rfl (wanted_none rfl) (hM.same 0 (by decide) (by decide) (by decide)) ?_
          show _ = Result.ok (Next.value (.pointer (some ⟨tb, 0, none⟩))) v
          simp [execOp, go_sem, e0]
        · cases ho
          have e0 := hF.old_is 0 (by rfl) rfl
          refine QJ.quiet (x := x) hsz hC hi hF (Slots.of (by rfl)) rfl (wanted_none rfl) (hM.same 1 (by decide) (by decide) (by decide)) ?_
          show _ = Result.ok (Next.value (.pointer (some ⟨tb, 0, none⟩))) v
          simp [execOp, go_sem, e0]
        · cases ho
          have e39 : b.tmps[39]? = some (.pointer (some ⟨tb, 0, none⟩)) := hF.up 1 39 rfl (hdeps ⟨1, .data⟩ (by simp) rfl)
          refine QJ.quiet (x := x) hsz hC hi hF (Slots.of (by rfl)) rfl (wanted_none rfl) (hM.same 2 (by decide) (by decide) (by decide)) ?_
          show _ = Result.ok (Next.value (.pointer (some ⟨tb, 0, none⟩))) v
          simp [execOp, go_sem, e39]
        · cases ho
          have e40 : b.tmps[40]? = some (.pointer (some ⟨tb, 0, none⟩)) := hF.up 2 40 rfl (hdeps ⟨2, .data⟩ (by simp) rfl)
          refine QJ.quiet (x := x) hsz hC hi hF (Slots.of (by rfl)) rfl (wanted_none rfl) (hM.same 3 (by decide) (by decide) (by decide)) ?_
          show _ = Result.ok (Next.value (.pointer (some ⟨tb, 0, none⟩))) v
          simp [execOp, go_sem, e40]
        · cases ho
          have l10 : listed.getD 10 false = false := by
            cases hh : listed.getD 10 false
            · rfl
            · have y0 := hC 10 _ rfl hh ⟨4, .phase⟩ (by simp) rfl; rw [hl1] at y0; cases y0
          obtain ⟨⟨y0, y1, y2, y3, y4⟩, -⟩ := five_blkF ((hM.far (g := tb) htl HNE.out (.inr l10)).trans HBX.out)
          have e41 : b.tmps[41]? = some (.pointer (some ⟨tb, 0, none⟩)) := hF.up 3 41 rfl (hdeps ⟨3, .data⟩ (by simp) rfl)
          refine QJ.quiet (x := x) hsz hC hi hF (Slots.of (by rfl)) rfl (wanted_none rfl) (hM.same 4 (by decide) (by decide) (by decide)) ?_
          show _ = Result.ok (Next.value (ty)) v
          simp [execOp, go_sem, e41, y0]
        · cases ho
          have kb1 := (hM.far (g := kb) hkl HNK.out (.inl HKT.out)).trans HKB.out
          have yk := run_loadAt_mid (P := Try.prog) v kb 0 111 A.toList _ (rangeAt_blk (by simpa using kb1)) Try.underlying111 rfl (by rw [Array.length_toList, HAL.out]; exact infoKey)
          rw [Array.toArray_toList] at yk
          have e3 := hF.old_is 3 (by rfl) rfl
          refine QJ.quiet (x := x) hsz hC hi hF (Slots.of (by rfl)) rfl (wanted_none rfl) (hM.same 5 (by decide) (by decide) (by decide)) ?_
          show _ = Result.ok (Next.value (.agg A)) v
          have ev : b.eval (.tmp 3) = .pointer (some ⟨kb, 0, none⟩) := eval_of e3
          exact exec_load rfl ev yk
        · cases ho
          have l7 : listed.getD 7 false = false := by
            cases hh : listed.getD 7 false
            · rfl
            · have y0 := hC 7 _ rfl hh ⟨6, .data⟩ (by simp) rfl; rw [hl1] at y0; cases y0
          have l10 : listed.getD 10 false = false := by
            cases hh : listed.getD 10 false
            · rfl
            · have y0 := hC 10 _ rfl hh ⟨6, .phase⟩ (by simp) rfl; rw [hl1] at y0; cases y0
          obtain rfl : v = W := hM.at0 hl1 l7 l10
          have e43 : b.tmps[43]? = some (.agg A) := hF.up 5 43 rfl (hdeps ⟨5, .data⟩ (by simp) rfl)
          refine QJ.make (v' := v.alloc (.cells A 111)) (x := x) (x' := (v.heap.size, x.2)) hsz hC hi hF (Slots.of (by rfl)) rfl (wanted_none rfl) (fun q hq => by
            match q, (show q ≠ 6 by rintro rfl; rw [hl1] at hq; cases hq) with
            | 0, _ => rfl
            | 1, _ => rfl
            | 2, _ => rfl
            | 3, _ => rfl
            | 4, _ => rfl
            | 5, _ => rfl
            | 7, _ => rfl
            | 8, _ => rfl
            | 9, _ => rfl
            | 10, _ => rfl
            | 6, h => exact absurd rfl h
            | _ + 11, _ => rfl) (by
            unfold NumM
            rw [getD_setE (i := 6) (by simp [hsz]), getD_setN (show 6 ≠ 7 by decide), getD_setN (show 6 ≠ 10 by decide), l7, l10]
            exact ⟨rfl, rfl⟩) ?_
          have ev : b.eval (.tmp 43) = .agg A := eval_of e43
          exact exec_build1 rfl ev (build_key A HAL.out v)
        · cases ho
          have l10 : listed.getD 10 false = false := by
            cases hh : listed.getD 10 false
            · rfl
            · have y0 := hC 10 _ rfl hh ⟨7, .data⟩ (by simp) rfl; rw [hl1] at y0; cases y0
          have l6 := hdeps ⟨6, .data⟩ (by simp) rfl
          obtain ⟨rfl, hx1⟩ := hM.at1 l6 hl1 l10
          have e42 : b.tmps[42]? = some (ty) := hF.up 4 42 rfl (hdeps ⟨4, .data⟩ (by simp) rfl)
          have e44 : b.tmps[44]? = some (.slice (some ⟨x.1, 0, none⟩) 1 1) := hF.up 6 44 rfl (hdeps ⟨6, .data⟩ (by simp) rfl)
          have hbk : (W.alloc (.cells A 111)).heap[x.1]? = some (.cells A 111 (0, 0)) := by rw [hx1]; exact heap_alloc_new W _
          obtain ⟨g, cap, w3, hr, h2, h3, h4, h5⟩ := run_append_lies (P := Try.prog) (W.alloc (.cells A 111)) 100 100 0 111 i0 ZK 19 224 Try.underlying100 HI.out HI0.out HI1.out HI2.out rfl (by decide) ty n xs (HOWN.out.alloc _) ⟨x.1, 0, none⟩ 1 1 A.toList (by rw [Array.length_toList, HAL.out]) (World.news_of_block hbk) HONE.out (by decide) (by unfold maxLen; omega) (by omega) (Nat.zero_le _) (W.heap.size + 1) (by simp)
          refine QJ.make (v' := w3) (x := x) (x' := (x.1, .slice (some ⟨g, 0, none⟩) (n + 1) cap)) hsz hC hi hF (Slots.of (by rfl)) rfl (wanted_none rfl) (fun q hq => by
            match q, (show q ≠ 7 by rintro rfl; rw [hl1] at hq; cases hq) with
            | 0, _ => rfl
            | 1, _ => rfl
            | 2, _ => rfl
            | 3, _ => rfl
            | 4, _ => rfl
            | 5, _ => rfl
            | 6, _ => rfl
            | 8, _ => rfl
            | 9, _ => rfl
            | 10, _ => rfl
            | 7, h => exact absurd rfl h
            | _ + 11, _ => rfl) (by
            unfold NumM
            rw [getD_setE (i := 7) (by simp [hsz]), getD_setN (show 7 ≠ 6 by decide), getD_setN (show 7 ≠ 10 by decide), l6, l10]
            exact ⟨g, cap, rfl, h2, h3, h4, h5⟩) ?_
          have ea : b.eval (.tmp 42) = ty := eval_of e42
          have eb : b.eval (.tmp 44) = .slice (some ⟨x.1, 0, none⟩) 1 1 := eval_of e44
          exact exec_append rfl ea eb hr
        · cases ho
          have e38 : b.tmps[38]? = some (.pointer (some ⟨tb, 0, none⟩)) := hF.up 0 38 rfl (hdeps ⟨0, .data⟩ (by simp) rfl)
          refine QJ.quiet (x := x) hsz hC hi hF (Slots.of (by rfl)) rfl (wanted_none rfl) (hM.same 8 (by decide) (by decide) (by decide)) ?_
          show _ = Result.ok (Next.value (.pointer (some ⟨tb, 0, none⟩))) v
          simp [execOp, go_sem, e38]
        · cases ho
          have e46 : b.tmps[46]? = some (.pointer (some ⟨tb, 0, none⟩)) := hF.up 8 46 rfl (hdeps ⟨8, .data⟩ (by simp) rfl)
          refine QJ.quiet (x := x) hsz hC hi hF (Slots.of (by rfl)) rfl (wanted_none rfl) (hM.same 9 (by decide) (by decide) (by decide)) ?_
          show _ = Result.ok (Next.value (.pointer (some ⟨tb, 0, none⟩))) v
          simp [execOp, go_sem, e46]
        · cases ho
          have l6 := hdeps ⟨6, .phase⟩ (by simp) rfl
          have l7 := hdeps ⟨7, .phase⟩ (by simp) rfl
          obtain ⟨g, cap, hy, h2, h3, h4, h5⟩ := hM.at2 l6 l7 hl1
          have e47 : b.tmps[47]? = some (.pointer (some ⟨tb, 0, none⟩)) := hF.up 9 47 rfl (hdeps ⟨9, .data⟩ (by simp) rfl)
          have e45 : b.tmps[45]? = some (x.2) := hF.up 7 45 rfl (hdeps ⟨7, .data⟩ (by simp) rfl)
          have hfb : v.heap[tb]? = W.heap[tb]? := hM.far (g := tb) htl HNE.out (.inr hl1)
          obtain ⟨-, ⟨f0, -⟩⟩ := five_blkF (hfb.trans HBX.out)
          obtain ⟨⟨y0, -⟩, -⟩ := five_blkF (hfb.trans HBX.out)
          rw [hy] at e45
          refine QJ.skipU (v' := v.setCell ⟨tb, 0, none⟩ (.slice (some ⟨g, 0, none⟩) (n + 1) cap)) (x := x) hsz hC hi hF (Slots.of (by rfl)) rfl (wanted_none rfl) (by
            unfold NumM
            rw [getD_setE (i := 10) (by simp [hsz]), getD_setN (show 10 ≠ 6 by decide), getD_setN (show 10 ≠ 7 by decide), l6, l7]
            exact ⟨v, ⟨g, cap, hy, h2, h3, h4, h5⟩, by rw [hy]⟩) rfl ?_
          simp [execOp, go_sem, e47, e45, y0, f0]
      · intro listed b v hJ hr
        obtain ⟨hsz, hC, x, hF, hM⟩ := hJ
        have hall := all_upB (by rfl) hsz hr
        have hb : b = putAll _ _ _ 11 := hF.done (Slots.of (by rfl)) hall
        subst hb
        obtain ⟨w3, ⟨g, cap, hy, h2, h3, h4, h5⟩, rfl⟩ := hM.at3 (hall 6 (by decide)) (hall 7 (by decide)) (hall 10 (by decide))
        simp only [putAll]
        simp [dstOf, Act.put]
        rw [hy]
        have hap : AppP w2.drew A ty T.length (T.flatMap Kz.cells) w3 (.slice (some ⟨g, 0, none⟩) (T.length + 1) cap) := by
          rw [← HW.out, ← HNN.out, ← HXS.out]; exact ⟨g, cap, rfl, h2, h3, h4, h5⟩
        have hx0 : ∀ b, b < W.heap.size → ty.ownBlock ≠ some b → w3.heap[b]? = W.heap[b]? := fun b hb hx => hap.far (show b < w2.heap.size by omega) hx |>.trans (by rw [HW.out])
        have hz3 : W.heap.size ≤ w3.heap.size := by have := h3.size; simp at this; omega
        have hkt := HKT.out
        obtain ⟨W4, hW4⟩ : ∃ W4, W4 = w3.setCell ⟨tb, 0, none⟩ (.slice (some ⟨g, 0, none⟩) (n + 1) cap) := ⟨_, rfl⟩
        have hoth : ∀ b, b ≠ tb → W4.heap[b]? = w3.heap[b]? := fun b hb => by rw [hW4]; exact RowKit.Below.heap_setCell _ _ _ _ hb
        have hz4 : W4.heap.size = w3.heap.size := by rw [hW4]; simp
        have hb4 : W4.heap[tb]? = some (.cells #[.slice (some ⟨g, 0, none⟩) (n + 1) cap, .map (some nb2), .map (some mb), .map (some sb), .int .i64 m] 103 (0, 0)) := by
          rw [hW4]; exact set_five0 ((hx0 tb htl HNE.out).trans HBX.out) _
        have hk4 : W4.heap[kb]? = some (.cells A 111 (0, 0)) := (hoth kb hkt).trans ((hx0 kb hkl HNK.out).trans HKB.out)
        have hN2 : NumV w2 nb2 T := H.out.num.same (X2.out.block nb2 H.out.num.lt)
        obtain ⟨es, cl, hm⟩ := hN2.isMap
        have hN4 : NumV W4 nb2 T := hN2.same (by
          rw [hoth nb2 (fun e => by rw [e] at hm; have := HBX.out; rw [HW.out] at this; rw [show w2.drew.heap = w2.heap from rfl, hm] at this; cases this),
            hx0 nb2 (by rw [hzW]; exact hN2.lt) (fun e => by
              have h0 := HOWN.out
              rw [HW.out] at h0
              obtain ⟨cs, hc⟩ := own_key_blk h0 e
              rw [show w2.drew.heap = w2.heap from rfl, hm] at hc; cases hc), HW.out]
          rfl)
        obtain ⟨w5, hrun, hN5, hg5⟩ := (show NumV W4.drew nb2 T from hN4.same rfl).put HK.out (by unfold maxLen; omega)
        rw [show k.val = .agg A by unfold Kz.val; rw [← HAL2.out, Array.toArray_toList], ← HNN.out] at hrun
        have yk := run_loadAt_mid (P := Try.prog) W4.drew kb 0 111 A.toList _ (rangeAt_blk (w := W4.drew) (show W4.heap[kb]? = _ by simpa using hk4)) Try.underlying111 rfl (by rw [Array.length_toList, HAL.out]; exact infoKey)
        rw [Array.toArray_toList] at yk
        have hDone := num_done HT.out H.out X2.out HAL2.out hap (w5 := w5) (nb2 := nb2) (by
          rw [← HNN.out, ← hW4]
          exact ⟨hg5.os, hg5.tape, hg5.output, hg5.size, hg5.block⟩) hN5 HK.out HJ.out HIN.out h120
        obtain ⟨⟨s0, s1, s2, s3, s4⟩, -⟩ := five_blkF hb4
        rw [← hW4]
        have HD := Lib.hid hDone
        clear hDone hap hx0 hoth hb4 hk4 hN2 hm hN4 hN5 hg5 hW4 h2 h3 h4 h5 hy hM hF hC hall hr hsz
        go_upto_region 11 with fail
        refine wp_region_still_tail 6 (by kernel_rfl) (by kernel_rfl) ?_
        simp only [List.take_succ_cons, List.take_zero, List.drop_succ_cons, List.drop_zero]
        iterate 4 still_step
        refine wpStill_run rfl (.agg A) (exec_load rfl rfl yk) ?_
        simp only [Act.put]
        still_step
        refine wpStill_nil ?_
        refine wpList_runU (w' := w5) rfl (exec_mapUpdate rfl rfl rfl rfl hrun) ?_
        refine wpList_nil ?_
        simp only [Act.put]
        go_wp2
        go_ret2
        rw [HV.out, if_neg h120]
        refine ⟨?_, g, nb2, _, _, HD.out⟩
        rw [← HNN.out]
        rfl
/-- The number of a type, new or not. -/
theorem number_any (k : Kz) (hk : KFit k) (w : World) (tb rb nb mb sb m : Nat) (ty nu : Value) (T : List Kz) (hT : TabV w tb rb nb mb sb m ty nu T) (hj : ∀ j ∈ k.kids, j < T.length) :
    Calls Try.prog 60 #[.pointer (some ⟨tb, 0, none⟩), .agg k.cells.toArray] w fun e w' => ∃ rb' nb' ty' nu', e = .returned (.tuple #[.int .i64 ((numK T k).1 : Nat), .int .i64 ((numK T k).2.1 : Nat)]) ∧ Added w w' tb rb nb mb sb m (numK T k).2.2 rb' nb' ty' nu' := by
  by_cases hin : k ∈ T
  · refine (number_there k hk w tb rb nb mb sb m ty nu T hT hin).mono ?_
    rintro e w' ⟨rfl, hb⟩
    rw [numK_there hin]
    exact ⟨rb, nb, ty, nu, rfl, hT.below hb, Keeps.of_below hb, Grew.refl _ _ _ _⟩
  · exact number_new k hk w tb rb nb mb sb m ty nu T hT hin hj
end Sp
end Go.Proofs.Ytjjpjkkaogfoaaa

namespace Go.Proofs.Ytjjpjkkaogfoaaa
open Go.RowKit
namespace Sp
open Sc
set_option maxRecDepth 100000

theorem wideParts : (match Try.prog.underlying 140 with | some (.array _ _) | some (.struct _) => true | _ => false) = true := by kernel_rfl
theorem rowParts : (140 : TypeId) < Try.prog.types.size := of_decide_eq_true (by kernel_rfl)
theorem partsLaw : Maps.Keyed Try.prog 140 := Maps.Keyed.of_law (deep_law_laid laidK (m := 2) (by omega) rowParts (by kernel_rfl) wideParts)
def litP (a b c : Int) : List Go.Lit := [.int .i64 a, .int .i64 b, .int .i64 c]
theorem keyOf_parts (a b c : Int) (ha : (Go.Lit.int .i64 a).wf = true) (hb : (Go.Lit.int .i64 b).wf = true) (hc : (Go.Lit.int .i64 c).wf = true) : keyOf Try.prog 140 (.agg #[.int .i64 a, .int .i64 b, .int .i64 c]) = some (.string (keyBytes (litP a b c))) := by
  have c3 : Try.prog.cellsOf 140 = 3 := by kernel_rfl
  have c1 : Try.prog.cellsOf 3 = 1 := by kernel_rfl
  have ty : Try.prog.keyType 140 = true := by kernel_rfl
  unfold keyOf
  rw [Try.underlying140]
  have hf : (Value.agg #[.int .i64 a, .int .i64 b, .int .i64 c]).formed Try.prog 140 = true := by simp [Value.formed, Try.underlying140, c3]
  have e : Try.prog.types.size + 1 = (Try.prog.types.size - 1) + 2 := by
    have : (2 : Nat) ≤ Try.prog.types.size := Nat.le_of_lt (Nat.lt_of_le_of_lt (by decide) rowParts)
    omega
  simp only [ty, hf, e]
  rw [Program.keyLits.eq_def]
  simp only [Try.underlying140, c3, c1]
  simp [List.range_succ, Value.cells, lit_int _ a ha, lit_int _ b hb, lit_int _ c hc, litP]
theorem parts_eq (a b c d e f : Int) (ha : (Go.Lit.int .i64 a).wf = true) (hb : (Go.Lit.int .i64 b).wf = true) (hc : (Go.Lit.int .i64 c).wf = true) (hd : (Go.Lit.int .i64 d).wf = true) (he : (Go.Lit.int .i64 e).wf = true) (hf : (Go.Lit.int .i64 f).wf = true) (w : World) :
    (Op.equalIn 10000 140 (.agg #[.int .i64 a, .int .i64 b, .int .i64 c]) (.agg #[.int .i64 d, .int .i64 e, .int .i64 f])).run Try.prog w = .ok (decide (a = d ∧ b = e ∧ c = f)) w := by
  have k1 := keyOf_parts a b c ha hb hc
  have k2 := keyOf_parts d e f hd he hf
  obtain ⟨r, hr, hi⟩ := run_equal_deep w (m := 2) (by omega) (k := 140) (by kernel_rfl) wideParts k1 k2
  have hiff : r = true ↔ (a = d ∧ b = e ∧ c = f) := by
    rw [hi]
    constructor
    · intro h
      have := partsLaw.inj k1 (by rw [h]; exact k2)
      simpa using this
    · rintro ⟨rfl, rfl, rfl⟩; rfl
  have : r = decide (a = d ∧ b = e ∧ c = f) := by
    cases r
    · exact (decide_eq_false (fun h => by have := hiff.2 h; cases this)).symm
    · exact (decide_eq_true (hiff.1 rfl)).symm
  rw [← this]; exact hr
set_option maxHeartbeats 8000000 in
theorem cformed_any (k : Int) (nm : List UInt8) (ns : List (List UInt8)) (nk : Nat) (an ak : Option Addr) (cn ck : Nat) (w : World) (hm : nm.length ≤ maxLen) (hn : ns.length ≤ maxLen) (hk : nk ≤ maxLen) :
    Calls Try.prog 78 #[.agg #[.int .i64 k, .string ⟨nm.toArray⟩, .slice an ns.length cn, .slice ak nk ck]] w fun e w' => e = .returned (.bool (formB k nm ns nk)) ∧ Below w.heap.size w w' := by
  have hE : ∀ b, formB k nm ns nk = b → formB k nm ns nk = b := fun _ h => h
  unfold formB kidsN at hE
  have hns : ns.length = 0 → True := fun _ => trivial
  have hnm : (nm = []) ↔ nm.length = 0 := by simp
  obtain ⟨F, hF⟩ : ∃ F, F = formB k nm ns nk := ⟨_, rfl⟩
  have HF : Hid (F = (decide (nk = kidsN k ns.length) && (decide (nm.length = 0) || decide (k = 9)) && (decide (ns.length = 0) || decide (k = 7 ∨ k = 8)))) := by
    unfold Hid; rw [hF]; unfold formB; simp only [hnm]
  rw [← hF]
  clear hF hE hns hnm
  have hb : (⟨nm.toArray⟩ : ByteArray).size = nm.length := by simp [ByteArray.size]
  have HBS := Lib.hid hb
  unfold maxLen at hm hn hk
  generalize ns.length = nn at *
  have wf : ∀ n : Nat, n ≤ 2 ^ 63 - 1 → (Go.Lit.int .i64 (n : Int)).wf = true := fun n h => WalkArith.wf_i64 (by omega)
  have w0 : (Go.Lit.int .i64 0).wf = true := by decide
  have w1 : (Go.Lit.int .i64 1).wf = true := by decide
  obtain ⟨nz, hnz⟩ : ∃ nz, nz = nm.length := ⟨_, rfl⟩
  rw [← hnz] at hm HF
  have p1 : ∀ W, (Op.equalIn 10000 140 (.agg #[.int .i64 (nz : Nat), .int .i64 (nn : Nat), .int .i64 (nk : Nat)]) (.agg #[.int .i64 0, .int .i64 0, .int .i64 1])).run Try.prog W = .ok (decide (nz = 0 ∧ nn = 0 ∧ nk = 1)) W := fun W => by
    rw [parts_eq _ _ _ _ _ _ (wf _ hm) (wf _ hn) (wf _ hk) w0 w0 w1]; exact congrArg (fun b => Result.ok b W) (decide_eq_decide.2 (by omega))
  have p2 : ∀ W, (Op.equalIn 10000 140 (.agg #[.int .i64 (nz : Nat), .int .i64 (nn : Nat), .int .i64 (nk : Nat)]) (.agg #[.int .i64 0, .int .i64 (nn : Nat), .int .i64 (nn : Nat)])).run Try.prog W = .ok (decide (nz = 0 ∧ nk = nn)) W := fun W => by
    rw [parts_eq _ _ _ _ _ _ (wf _ hm) (wf _ hn) (wf _ hk) w0 (wf _ hn) (wf _ hn)]; exact congrArg (fun b => Result.ok b W) (decide_eq_decide.2 (by omega))
  have p3 : ∀ W, (Op.equalIn 10000 140 (.agg #[.int .i64 (nz : Nat), .int .i64 (nn : Nat), .int .i64 (nk : Nat)]) (.agg #[.int .i64 (nz : Nat), .int .i64 0, .int .i64 0])).run Try.prog W = .ok (decide (nn = 0 ∧ nk = 0)) W := fun W => by
    rw [parts_eq _ _ _ _ _ _ (wf _ hm) (wf _ hn) (wf _ hk) (wf _ hm) w0 w0]; exact congrArg (fun b => Result.ok b W) (decide_eq_decide.2 (by omega))
  have p4 : ∀ W, (Op.equalIn 10000 140 (.agg #[.int .i64 (nz : Nat), .int .i64 (nn : Nat), .int .i64 (nk : Nat)]) (.agg #[.int .i64 0, .int .i64 0, .int .i64 0])).run Try.prog W = .ok (decide (nz = 0 ∧ nn = 0 ∧ nk = 0)) W := fun W => by
    rw [parts_eq _ _ _ _ _ _ (wf _ hm) (wf _ hn) (wf _ hk) w0 w0 w0]; exact congrArg (fun b => Result.ok b W) (decide_eq_decide.2 (by omega))
  have HP1 := Lib.hid p1; have HP2 := Lib.hid p2; have HP3 := Lib.hid p3; have HP4 := Lib.hid p4
  clear p1 p2 p3 p4 wf w0 w1
  have hbz : (⟨nm.toArray⟩ : ByteArray).size = nz := hb.trans hnz.symm
  clear hb HBS
  have hlen : nm.length = nz := hnz.symm
  clear hnz
  have hc : k = 4 ∨ k = 5 ∨ k = 6 ∨ k = 7 ∨ k = 8 ∨ k = 9 ∨ (k ≠ 4 ∧ k ≠ 5 ∧ k ≠ 6 ∧ k ≠ 7 ∧ k ≠ 8 ∧ k ≠ 9) := by omega
  rcases hc with rfl | rfl | rfl | rfl | rfl | rfl | ⟨a4, a5, a6, a7, a8, a9⟩
  · have p1 := HP1.out
    go_enter Try.func78, Try.ntmps78
    go_wp2
    go_ret
    refine ⟨congrArg (fun b => Ending.returned (.bool b)) ?_, ((Below.refl _ _).alloc (Nat.le_refl _) _).alloc (by simp) _⟩
    rw [HF.out]; unfold kidsN
    simp [Bool.and_comm, Bool.and_left_comm]
  · have p1 := HP1.out
    go_enter Try.func78, Try.ntmps78
    go_wp2
    go_ret
    refine ⟨congrArg (fun b => Ending.returned (.bool b)) ?_, ((Below.refl _ _).alloc (Nat.le_refl _) _).alloc (by simp) _⟩
    rw [HF.out]; unfold kidsN
    simp [Bool.and_comm, Bool.and_left_comm]
  · have p1 := HP1.out
    go_enter Try.func78, Try.ntmps78
    go_wp2
    go_ret
    refine ⟨congrArg (fun b => Ending.returned (.bool b)) ?_, ((Below.refl _ _).alloc (Nat.le_refl _) _).alloc (by simp) _⟩
    rw [HF.out]; unfold kidsN
    simp [Bool.and_comm, Bool.and_left_comm]
  · have p1 := HP2.out
    go_enter Try.func78, Try.ntmps78
    go_wp2
    go_ret
    refine ⟨congrArg (fun b => Ending.returned (.bool b)) ?_, ((Below.refl _ _).alloc (Nat.le_refl _) _).alloc (by simp) _⟩
    rw [HF.out]; unfold kidsN
    simp [Bool.and_comm]
  · have p1 := HP2.out
    go_enter Try.func78, Try.ntmps78
    go_wp2
    go_ret
    refine ⟨congrArg (fun b => Ending.returned (.bool b)) ?_, ((Below.refl _ _).alloc (Nat.le_refl _) _).alloc (by simp) _⟩
    rw [HF.out]; unfold kidsN
    simp [Bool.and_comm]
  · have p1 := HP3.out
    go_enter Try.func78, Try.ntmps78
    go_wp2
    go_ret
    refine ⟨congrArg (fun b => Ending.returned (.bool b)) ?_, ((Below.refl _ _).alloc (Nat.le_refl _) _).alloc (by simp) _⟩
    rw [HF.out]; unfold kidsN
    simp [Bool.and_comm]
  · have p1 := HP4.out
    go_enter Try.func78, Try.ntmps78
    go_wp2
    go_ret
    refine ⟨congrArg (fun b => Ending.returned (.bool b)) ?_, ((Below.refl _ _).alloc (Nat.le_refl _) _).alloc (by simp) _⟩
    rw [HF.out]; unfold kidsN
    simp [a4, a5, a6, a7, a8, a9]
    cases decide (nk = 0) <;> cases decide (nn = 0) <;> cases decide (nz = 0) <;> rfl
end Sp
end Go.Proofs.Ytjjpjkkaogfoaaa

namespace Go.Proofs.Ytjjpjkkaogfoaaa
open Go.RowKit
namespace Sp
open Sc
set_option maxRecDepth 100000

/-- The checker's block: the map, how many types were gone through. -/
def CcE (w : World) (cb mb n : Nat) : Prop := w.heap[cb]? = some (.cells #[.map (some mb), .int .i64 n] 114 (0, 0))
theorem CcE.lt {w : World} {cb mb n : Nat} (h : CcE w cb mb n) : cb < w.heap.size := (Array.getElem?_eq_some_iff.1 h).1
theorem CcE.below {w w' : World} {cb mb n : Nat} (h : CcE w cb mb n) (hb : Below w.heap.size w w') : CcE w' cb mb n := (hb.block cb h.lt).trans h
theorem TxtV.only {w w' : World} {cb mb : Nat} {l : List (List UInt8 × Value)} (h : TxtV w mb l) (ho : Only cb w w') (hm : mb ≠ cb) : TxtV w' mb l := h.same (ho.block mb h.lt (fun e => hm (by cases e; rfl)))
theorem TxtV.below {w w' : World} {mb : Nat} {l : List (List UInt8 × Value)} (h : TxtV w mb l) (hb : Below w.heap.size w w') : TxtV w' mb l := h.same (hb.block mb h.lt)

set_option maxHeartbeats 800000 in
theorem chas_any (w : World) (cb mb n : Nat) (N : List NN) (s : List UInt8) (hC : CcE w cb mb n) (hM : TxtV w mb (encNN N)) (hs : s.length ≤ maxLen) :
    Calls Try.prog 79 #[.pointer (some ⟨cb, 0, none⟩), .string ⟨s.toArray⟩] w fun e w' => e = .returned (.bool (hasZ N s)) ∧ Below w.heap.size w w' := by
  have hr := hM.at_ok Try.underlying98 (zeroI w) s hs
  rw [has_encNN, look_encNN] at hr
  obtain ⟨⟨c0, -⟩, -⟩ := two_blk hC
  clear hM hC
  generalize hasZ N s = b at *
  generalize lookN N s = q at *
  go_enter Try.func79, Try.ntmps79
  go_wp2
  go_ret
  exact ⟨rfl, Below.refl _ _⟩

/-- A type is gone through as oneC says. -/
def OneK (cb mb : Nat) (N : List NN) (S : Nat → Prop) (t : Tz) : Prop :=
  ∀ (n : Nat) (w : World) (c : C4), n ≤ 400 → TzV w S t c → CcE w cb mb n → TxtV w mb (encNN N) →
    Calls Try.prog 58 #[.pointer (some ⟨cb, 0, none⟩), .agg #[.int .i64 c.k, .string c.n, .slice c.an c.ln c.cn, .slice c.ak c.lk c.ck]] w fun e w' =>
      e = .returned (.int .i64 ((oneC (hasZ N) n t).1 : Nat)) ∧ CcE w' cb mb (oneC (hasZ N) n t).2 ∧ Only cb w w'
theorem oneC_le (has : List UInt8 → Bool) (t : Tz) (n : Nat) (h0 : (oneC has n t).1 = 0) : (oneC has n t).2 ≤ 400 := by
  obtain ⟨-, a, b⟩ := oneC_ok has t n h0; omega
theorem allC_drop {has : List UInt8 → Bool} {m j : Nat} {ks : List Tz} (h : j < ks.length) : allC has m (ks.drop j) = if (oneC has m ks[j]).1 = 0 then allC has (oneC has m ks[j]).2 (ks.drop (j + 1)) else oneC has m ks[j] := by rw [List.drop_eq_getElem_cons h, allC]
/-- The loop over what lies within. -/
structure LpC (cb mb wb : Nat) (N : List NN) (w W1 : World) (ks : List Tz) (full : Nat × Nat) (tc : Array Value) (iv : Value) (wr : World) (j m : Nat) : Prop where
  slot : iv = .int .i64 j
  le : j ≤ ks.length
  few : m ≤ 400
  rest : allC (hasZ N) m (ks.drop j) = full
  cnt : CcE wr cb mb m
  only : Only cb W1 wr
  box : wr.heap[wb]? = some (.cells tc 25 (0, 0))

set_option maxHeartbeats 16000000 in
theorem oneK_any (cb mb : Nat) (N : List NN) (S : Nat → Prop) (hS : ∀ g, S g → g < cb) (hm : mb ≠ cb) (k : Int) (nm : List UInt8) (ns : List (List UInt8)) (ks : List Tz) (hf : fitZ (.mk k nm ns ks) = true)
    (IH : ∀ i (h : i < ks.length), OneK cb mb N S ks[i]) : OneK cb mb N S (.mk k nm ns ks) := by
  intro n w c hn hV hC hM
  obtain ⟨f1, f2, f3, f4, f5⟩ := fitZ_mk hf
  have hcb := hC.lt
  cases hV with
  | mk _ _ _ _ an cn ak ck us hl hnr hkr hu =>
  dsimp only
  obtain ⟨v, hv⟩ : ∃ v, v = oneC (hasZ N) n (.mk k nm ns ks) := ⟨_, rfl⟩
  rw [← hv]
  unfold oneC at hv
  obtain ⟨⟨s0, s1⟩, ⟨z0, z1⟩⟩ := two_blk hC
  have q0 : (w.alloc (.cells #[.int .i64 k, .string ⟨nm.toArray⟩, .slice an ns.length cn, .slice ak ks.length ck] 25)).cell? ⟨cb, 1, none⟩ = some (.int .i64 n) := (((Below.refl w.heap.size w).alloc (Nat.le_refl _) _).cell (p := ⟨cb, 1, none⟩) hcb).trans s1
  have q1 : (w.alloc (.cells #[.int .i64 k, .string ⟨nm.toArray⟩, .slice an ns.length cn, .slice ak ks.length ck] 25)).frozen? ⟨cb, 1, none⟩ = false := (two_blk (hC.below ((Below.refl _ _).alloc (Nat.le_refl _) _))).2.2
  obtain ⟨WS, hWS⟩ : ∃ WS, WS = w.setCell ⟨cb, 1, none⟩ (.int .i64 ((n : Int) + 1)) := ⟨_, rfl⟩
  have hCS : CcE WS cb mb (n + 1) := by rw [hWS]; exact set_two1 hC _
  have hOS : Only cb w WS := by rw [hWS]; exact (Only.refl cb w).setCell 1 _
  have hsS : WS.heap.size = w.heap.size := by rw [hWS]; simp [World.setCell]
  obtain ⟨W1, hW1⟩ : ∃ W1, W1 = WS.alloc (.cells #[.int .i64 k, .string ⟨nm.toArray⟩, .slice an ns.length cn, .slice ak ks.length ck] 25) := ⟨_, rfl⟩
  have hs1 : W1.heap.size = w.heap.size + 1 := by rw [hW1]; simp [hsS]
  have hB1 : Below WS.heap.size WS W1 := by rw [hW1]; exact (Below.refl _ _).alloc (Nat.le_refl _) _
  have hx1 : W1.heap[w.heap.size]? = some (.cells #[.int .i64 k, .string ⟨nm.toArray⟩, .slice an ns.length cn, .slice ak ks.length ck] 25 (0, 0)) := by rw [hW1, ← hsS]; exact heap_alloc_new WS _
  have hC1 : CcE W1 cb mb (n + 1) := hCS.below hB1
  have hO1 : Only cb w W1 := hOS.trans (Only.of_below hB1)
  obtain ⟨⟨e0, e1⟩, _⟩ := two_blk hC1
  obtain ⟨⟨p0, p1, p2, p3⟩, _⟩ := four_blk hx1
  have kb : ∀ W, Only cb W1 W → ∀ g, g < cb → W.heap[g]? = w.heap[g]? := fun W hB g hg => (hB.block g (by omega) (fun e => by cases e; omega)).trans (hO1.block g (by omega) (fun e => by cases e; omega))
  have hM1 : TxtV W1 mb (encNN N) := hM.only hO1 hm
  have CF := fun W => cformed_any k nm ns ks.length an ak cn ck W f1 f2 f4
  have CH := fun W (hB : Below W1.heap.size W1 W) => chas_any W cb mb (n + 1) N nm (hC1.below hB) (hM1.below hB) f1
  have CK := fun W (hB : Only cb W1 W) i (h : i < ks.length) (h' : i < us.length) => (hu i h h').keep (S' := S) (fun _ h => h) (fun g hg => kb W hB g (hS g hg))
  have CR := fun W (hB : Only cb W1 W) => hkr.keep (w' := W) (S' := S) (fun _ h => h) (fun g hg => kb W hB g (hS g hg))
  have hnz : (n : Int) + 1 ≤ 401 := by omega
  have hn0 : (0 : Int) ≤ (n : Int) + 1 := by omega
  have hlk : ks.length ≤ 9223372036854775807 := by unfold maxLen at f4; omega
  have HC1 := Lib.hid hC1; have HO1 := Lib.hid hO1; have HX1 := Lib.hid hx1; have HCF := Lib.hid CF; have HCH := Lib.hid CH; have HCK := Lib.hid CK; have HCR := Lib.hid CR; have HS1 := Lib.hid hs1; have HIH := Lib.hid IH; have HUL := Lib.hid hl; have HSS := Lib.hid hS; have HM1 := Lib.hid hM1; have HMM := Lib.hid hm
  have hcw : cb ≠ w.heap.size := by omega
  clear hC hM hnr hkr hu IH hf f1 f2 f3 f4 f5 hl hC1 hO1 hx1 kb hM1 CF CH CK CR hS hs1 hCS hOS hsS hB1 hm
  have HW1 := Lib.hid hW1; have HWS := Lib.hid hWS
  rw [hWS] at hW1
  rw [hW1] at e0 e1 p0 p1 p2 p3
  clear hWS hW1
  by_cases h400 : 400 < n + 1
  · rw [if_pos h400] at hv
    have h4z : 400 < (n : Int) + 1 := by omega
    subst hv
    go_enter Try.func58, Try.ntmps58
    go_wp2
    go_ret
    rw [← HWS.out, ← HW1.out]
    exact ⟨rfl, HC1.out, HO1.out⟩
  · rw [if_neg h400] at hv
    have h4z : ¬ 400 < (n : Int) + 1 := by omega
    by_cases h8 : 8 < ks.length
    · have h8z : (8 : Int) < (ks.length : Int) := by omega
      rw [show ownC (hasZ N) k nm ns ks.length = 3 by unfold ownC; rw [if_pos h8], if_pos (by decide)] at hv
      subst hv
      go_enter Try.func58, Try.ntmps58
      go_wp2
      go_ret
      rw [← HWS.out, ← HW1.out]
      exact ⟨rfl, HC1.out, HO1.out⟩
    · have h8z : ¬ (8 : Int) < (ks.length : Int) := by omega
      by_cases hk1 : k < 1 ∨ 9 < k
      · rw [show ownC (hasZ N) k nm ns ks.length = 1 by unfold ownC; rw [if_neg h8, if_pos hk1], if_pos (by decide)] at hv
        subst hv
        rcases hk1 with hk1 | hk1
        · go_enter Try.func58, Try.ntmps58
          go_wp2
          go_ret
          rw [← HWS.out, ← HW1.out]
          exact ⟨rfl, HC1.out, HO1.out⟩
        · have hk2 : ¬ k < 1 := by omega
          go_enter Try.func58, Try.ntmps58
          go_wp2
          go_ret
          rw [← HWS.out, ← HW1.out]
          exact ⟨rfl, HC1.out, HO1.out⟩
      · have hk2 : ¬ k < 1 := by omega
        have hk3 : ¬ 9 < k := by omega
        have ho : ownC (hasZ N) k nm ns ks.length = if formB k nm ns ks.length = false then 12 else if k = 9 ∧ hasZ N nm = false then 15 else 0 := by unfold ownC; rw [if_neg h8, if_neg hk1]
        rw [ho] at hv
        clear ho hk1
        obtain ⟨fb, hfb⟩ : ∃ fb, formB k nm ns ks.length = fb := ⟨_, rfl⟩
        rw [hfb] at hv HCF
        clear hfb
        cases fb
        · rw [if_pos rfl, if_pos (by decide)] at hv
          subst hv
          go_enter Try.func58, Try.ntmps58
          go_upto_region 6 with fail
          rw [← HWS.out, ← HW1.out]
          rw [← HWS.out, ← HW1.out] at e0 e1 p0 p1 p2 p3
          go_wp2_with (go_at_call 78; (refine (HCF.out _).mono ?_); rintro e w2 ⟨rfl, b2⟩; have HB2 := Lib.hid b2; clear b2)
          go_ret
          exact ⟨rfl, HC1.out.below HB2.out, HO1.out.trans (Only.of_below HB2.out)⟩
        · simp only [Bool.true_eq_false, if_false] at hv
          by_cases h15 : k = 9 ∧ hasZ N nm = false
          · rw [if_pos h15, if_pos (by decide)] at hv
            obtain ⟨rfl, hh⟩ := h15
            rw [hh] at HCH
            subst hv
            clear hh
            go_enter Try.func58, Try.ntmps58
            go_upto_region 6 with fail
            rw [← HWS.out, ← HW1.out]
            rw [← HWS.out, ← HW1.out] at e0 e1 p0 p1 p2 p3
            go_wp2_with (first | (go_at_call 78; (refine (HCF.out _).mono ?_); rintro e w2 ⟨rfl, b2⟩; have hz2 := b2.size; obtain ⟨⟨x0, x1, x2, x3⟩, _⟩ := four_blk ((b2.block w.heap.size (by rw [HS1.out]; omega)).trans HX1.out); have HB2 := Lib.hid b2; clear b2) | (go_at_call 79; (refine (HCH.out _ HB2.out).mono ?_); rintro e w3 ⟨rfl, b3⟩; have HB3 := Lib.hid (HB2.out.trans (b3.mono HB2.out.size)); clear b3))
            go_ret
            exact ⟨rfl, HC1.out.below HB3.out, HO1.out.trans (Only.of_below HB3.out)⟩
          · rw [if_neg h15, if_neg (by decide)] at hv
            have H15 := Lib.hid h15
            have HV := Lib.hid hv
            clear h15 hv
            go_enter Try.func58, Try.ntmps58
            go_upto_block 0 with fail
            rw [← HWS.out, ← HW1.out]
            rw [← HWS.out, ← HW1.out] at e0 e1 p0 p1 p2 p3
            go_cut [] (fun wx => Below W1.heap.size W1 wx)
            case first =>
              by_cases h9 : k = 9
              · have hh : hasZ N nm = true := by
                  cases hh : hasZ N nm
                  · exact absurd ⟨h9, hh⟩ H15.out
                  · rfl
                rw [hh] at HCH
                subst h9
                clear hh
                go_wp2_with (first | (go_at_call 78; (refine (HCF.out _).mono ?_); rintro e w2 ⟨rfl, b2⟩; have hz2 := b2.size; obtain ⟨⟨x0, x1, x2, x3⟩, _⟩ := four_blk ((b2.block w.heap.size (by rw [HS1.out]; omega)).trans HX1.out); have HB2 := Lib.hid b2; clear b2) | (go_at_call 79; (refine (HCH.out _ HB2.out).mono ?_); rintro e w3 ⟨rfl, b3⟩; have HB3 := Lib.hid (HB2.out.trans (b3.mono HB2.out.size)); clear b3))
                go_meet
                case rel => exact HB3.out
              · go_wp2_with (go_at_call 78; (refine (HCF.out _).mono ?_); rintro e w2 ⟨rfl, b2⟩; have hz2 := b2.size; obtain ⟨⟨x0, x1, x2, x3⟩, _⟩ := four_blk ((b2.block w.heap.size (by rw [HS1.out]; omega)).trans HX1.out); have HB2 := Lib.hid b2; clear b2)
                go_meet
                case rel => exact HB2.out
            case rest =>
              have HB := Lib.hid hcut
              clear hcut
              have hzc := HB.out.size
              have hs1 := HS1.out
              obtain ⟨⟨x0, x1, x2, x3⟩, _⟩ := four_blk ((HB.out.block w.heap.size (by omega)).trans HX1.out)
              clear e0 e1 p0 p1 p2 p3 s0 s1 z0 z1 q0 q1
              go_wp2_with fail
              clear x0 x1 x2 x3
              go_loopw [54] (fun iv wr => ∃ j m, LpC cb mb w.heap.size N w W1 ks v #[.int .i64 k, .string ⟨nm.toArray⟩, .slice an ns.length cn, .slice ak ks.length ck] iv wr j m) (fun iv _ => ks.length - (intOf iv).toNat)
              case atStart => exact ⟨0, n + 1, rfl, Nat.zero_le _, by omega, by rw [List.drop_zero]; exact HV.out.symm, HC1.out.below HB.out, Only.of_below HB.out, (HB.out.block _ (by omega)).trans HX1.out⟩
              case round =>
                obtain ⟨j, m, h⟩ := hrel
                obtain rfl := h.slot
                have hj := h.le
                have hm4 := h.few
                have hwz := h.only.size
                have H := Lib.hid h
                clear h
                by_cases hlt : j < ks.length
                · have hlu : j < us.length := by rw [HUL.out]; exact hlt
                  have hjz : (j : Int) < (ks.length : Int) := by omega
                  have hj0 : (0 : Int) ≤ (j : Int) := by omega
                  obtain ⟨g, o, rfl, hg, hc⟩ := four_at (HCR.out wr H.out.only) HSS.out j hlu
                  obtain ⟨c0, c1, c2, c3⟩ := hc wr (fun _ _ => rfl)
                  have hT := HCK.out wr H.out.only j hlt hlu
                  have hdr := allC_drop (has := hasZ N) (m := m) hlt
                  rw [H.out.rest] at hdr
                  have hI := HIH.out j hlt
                  have hle := oneC_le (hasZ N) ks[j] m
                  clear hc
                  generalize ks[j] = t at *
                  generalize us[j] = x at *
                  obtain ⟨x1, x2, x3, x4, x5, x6, x7, x8⟩ := x
                  dsimp only at *
                  obtain ⟨W2, hW2⟩ : ∃ W2, W2 = wr.alloc (.cells #[.int .i64 x1, .string x2, .slice x3 x4 x5, .slice x6 x7 x8] 25) := ⟨_, rfl⟩
                  have hBB : Below wr.heap.size wr W2 := by rw [hW2]; exact (Below.refl _ _).alloc (Nat.le_refl _) _
                  have hM2 : TxtV W2 mb (encNN N) := (HM1.out.only H.out.only HMM.out).below hBB
                  have hC2 := hI m W2 ⟨x1, x2, x3, x4, x5, x6, x7, x8⟩ hm4 (hT.later (fun g hg => by have := HSS.out g hg; omega) hBB) (H.out.cnt.below hBB) hM2
                  have hO2 := H.out.only.trans (Only.of_below hBB)
                  have hx2 := (hBB.block w.heap.size (Array.getElem?_eq_some_iff.1 H.out.box).1).trans H.out.box
                  have HC2 := Lib.hid hC2; have HO2 := Lib.hid hO2; have HX2 := Lib.hid hx2; have HD := Lib.hid hdr; have HLE := Lib.hid hle
                  have hzb := hBB.size
                  clear hI hT hM2 hC2 hO2 hx2 hdr hle hBB
                  subst hW2
                  generalize oneC (hasZ N) m t = q at *
                  obtain ⟨q1, q2⟩ := q
                  dsimp only at *
                  by_cases h0 : q1 = 0
                  · subst h0
                    have hd := HD.out
                    rw [if_pos rfl] at hd
                    have HDD := Lib.hid hd
                    clear hd
                    go_wp2_with (go_at_call 58; (with_reducible refine HC2.out.mono ?_); rintro e w1 ⟨rfl, k1, o1⟩; have K1 := Lib.hid k1; have O1 := Lib.hid o1; clear k1 o1)
                    go_roundw
                    case rel => exact ⟨j + 1, q2, by go_num, by omega, HLE.out (by trivial), HDD.out.symm, K1.out, HO2.out.trans O1.out, O1.out.blk HX2.out (fun e => hcw e.symm)⟩
                    case measure => simp [intOf]; omega
                  · have hd := HD.out
                    rw [if_neg h0] at hd
                    have HDD := Lib.hid hd
                    clear hd
                    have hne : (q1 : Int) ≠ 0 := by omega
                    have t0 : ((q1 : Nat) == (0 : Int)) = false := by simp; omega
                    go_wp2_with (go_at_call 58; (with_reducible refine HC2.out.mono ?_); rintro e w1 ⟨rfl, k1, o1⟩; have K1 := Lib.hid k1; have O1 := Lib.hid o1; clear k1 o1)
                    go_ret
                    rw [HDD.out]
                    exact ⟨rfl, K1.out, HO1.out.trans (HO2.out.trans O1.out)⟩
                · obtain rfl : j = ks.length := by omega
                  have hz := H.out.rest
                  rw [List.drop_length, allC] at hz
                  have HZ := Lib.hid hz
                  clear hz
                  go_wp2
                  go_ret
                  rw [← HZ.out]
                  exact ⟨rfl, H.out.cnt, HO1.out.trans H.out.only⟩

theorem oneK_all (cb mb : Nat) (N : List NN) (S : Nat → Prop) (hS : ∀ g, S g → g < cb) (hm : mb ≠ cb) : ∀ (m : Nat) (t : Tz), sizeZ t ≤ m → fitZ t = true → OneK cb mb N S t
  | 0, t, h, _ => by have := sizeZ_pos t; omega
  | m + 1, .mk k nm ns ks, h, hf => oneK_any cb mb N S hS hm k nm ns ks hf fun i hi => by
    rw [sizeZ] at h
    have := sizeZ_mem ks i hi
    exact oneK_all cb mb N S hS hm m ks[i] (by omega) (fitZs_mem ks (fitZ_mk hf).2.2.2.2 i hi)
end Sp
end Go.Proofs.Ytjjpjkkaogfoaaa

namespace Go.Proofs.Ytjjpjkkaogfoaaa
open Go.RowKit
namespace Sp
open Sc
set_option maxRecDepth 100000

mutual
/-- Names of a thousand letters at most. -/
def shortZ : Tz → Bool
  | .mk _ nm ns ks => decide (nm.length ≤ 1000) && (ns.all fun n => decide (n.length ≤ 1000)) && shortZs ks
def shortZs : List Tz → Bool
  | [] => true
  | t :: ks => shortZ t && shortZs ks
end
theorem shortZs_mem : ∀ (ks : List Tz), shortZs ks = true → ∀ (k : Nat) (h : k < ks.length), shortZ ks[k] = true
  | t :: ks, hg, 0, _ => by simp only [shortZs, Bool.and_eq_true] at hg; exact hg.1
  | t :: ks, hg, k + 1, h => by simp only [shortZs, Bool.and_eq_true] at hg; exact shortZs_mem ks hg.2 k (by simpa using h)
theorem shortZ_mk {k : Int} {nm : List UInt8} {ns : List (List UInt8)} {ks : List Tz} (h : shortZ (.mk k nm ns ks) = true) : nm.length ≤ 1000 ∧ (∀ n ∈ ns, n.length ≤ 1000) ∧ shortZs ks = true := by
  simp only [shortZ, Bool.and_eq_true, decide_eq_true_eq, List.all_eq_true] at h
  exact ⟨h.1.1, h.1.2, h.2⟩

/-- The cells of a key behind the copying of its names. -/
theorem keyL_names (k : Int) (nm : List UInt8) (sz : Nat) : ∀ (ns : List (List UInt8)), ns.length ≤ 8 → (keyL k nm sz [] []).take 3 ++ ns.map str ++ (keyL k nm sz [] []).drop (3 + ns.length) = keyL k nm sz ns []
  | [], _ => rfl
  | [_], _ => rfl
  | [_, _], _ => rfl
  | [_, _, _], _ => rfl
  | [_, _, _, _], _ => rfl
  | [_, _, _, _, _], _ => rfl
  | [_, _, _, _, _, _], _ => rfl
  | [_, _, _, _, _, _, _], _ => rfl
  | [_, _, _, _, _, _, _, _], _ => rfl
  | _ :: _ :: _ :: _ :: _ :: _ :: _ :: _ :: _ :: _, h => by simp at h
theorem keyL_one (k : Int) (nm : List UInt8) (sz : Nat) (ns : List (List UInt8)) (ids : List Nat) : ∀ v ∈ keyL k nm sz ns ids, v.oneCell' = true := by
  intro v hv
  simp only [keyL, List.mem_cons, List.not_mem_nil, or_false] at hv
  rcases hv with rfl | rfl | rfl | rfl | rfl | rfl | rfl | rfl | rfl | rfl | rfl | rfl | rfl | rfl | rfl | rfl | rfl | rfl | rfl <;> rfl
/-- .. behind one more kid. -/
theorem keyL_kid (k : Int) (nm : List UInt8) (sz : Nat) (ns : List (List UInt8)) (i : Nat) : ∀ (ids : List Nat), ids.length < 8 → (keyL k nm sz ns ids).toArray.setIfInBounds (11 + ids.length) (.int .i64 (i : Nat)) = (keyL k nm sz ns (ids ++ [i])).toArray
  | [], _ => rfl
  | [_], _ => rfl
  | [_, _], _ => rfl
  | [_, _, _], _ => rfl
  | [_, _, _, _], _ => rfl
  | [_, _, _, _, _], _ => rfl
  | [_, _, _, _, _, _], _ => rfl
  | [_, _, _, _, _, _, _], _ => rfl
  | _ :: _ :: _ :: _ :: _ :: _ :: _ :: _ :: _, h => by simp at h; omega
theorem exec_copy {P : Program} {b : Act} {o : Oper} {v v' : World} {t t' : TypeId} {x y : Operand} {p q u : Value} (ho : o.op = .call { callee := .builtin .copy, args := #[x, y], argTypes := #[t, t'] }) (hx : b.eval x = p) (hy : b.eval y = q) (hr : (Builtin.copy_ #[t, t'] o.type #[p, q]).run P v = .ok u v') :
    (execOp b.eval o).run P v = .ok (.value u) v' := by
  unfold execOp
  simp only [ho, resolve, invoke, builtin, Sem.run_bind, Sem.run_pure, Result.andThen_ok, List.map_toArray, List.map_cons, List.map_nil, hx, hy, hr]
theorem exec_build3 {P : Program} {b : Act} {o : Oper} {v v' : World} {t : TypeId} {x y z : Operand} {p q r u : Value} (ho : o.op = .build t #[(0, x), (1, y), (2, z)]) (hx : b.eval x = p) (hy : b.eval y = q) (hz : b.eval z = r) (hr : (Instr.build t #[(0, p), (1, q), (2, r)]).run P v = .ok u v') :
    (execOp b.eval o).run P v = .ok (.value u) v' := by
  unfold execOp
  simp only [ho, List.map_toArray, List.map_cons, List.map_nil, hx, hy, hz, Sem.run_bind, hr, Result.andThen_ok, Sem.run_pure]
theorem exec_alloc {P : Program} {b : Act} {o : Oper} {v v' : World} {t : TypeId} {u : Value} (ho : o.op = .alloc t) (hr : (Instr.alloc t true (.tuple #[])).run P v = .ok u v') : (execOp b.eval o).run P v = .ok (.value u) v' := by
  unfold execOp
  simp only [ho, Sem.run_bind, hr, Result.andThen_ok, Sem.run_pure]
theorem build_head (k n : Int) (s : ByteArray) (w : World) : (Instr.build 111 #[(0, .int .i64 k), (1, .string s), (2, .int .i64 n)]).run Try.prog w = .ok (.agg #[.int .i64 k, .string s, .int .i64 n, .string ⟨#[]⟩, .string ⟨#[]⟩, .string ⟨#[]⟩, .string ⟨#[]⟩, .string ⟨#[]⟩, .string ⟨#[]⟩, .string ⟨#[]⟩, .string ⟨#[]⟩, .int .i64 0, .int .i64 0, .int .i64 0, .int .i64 0, .int .i64 0, .int .i64 0, .int .i64 0, .int .i64 0]) w := by kernel_rfl
theorem alloc_key (w : World) : (Instr.alloc 111 true (.tuple #[])).run Try.prog w = .ok (.pointer (some ⟨w.heap.size, 0, none⟩)) (w.alloc (.cells #[.int .i64 0, .string ⟨#[]⟩, .int .i64 0, .string ⟨#[]⟩, .string ⟨#[]⟩, .string ⟨#[]⟩, .string ⟨#[]⟩, .string ⟨#[]⟩, .string ⟨#[]⟩, .string ⟨#[]⟩, .string ⟨#[]⟩, .int .i64 0, .int .i64 0, .int .i64 0, .int .i64 0, .int .i64 0, .int .i64 0, .int .i64 0, .int .i64 0] 111)) := by kernel_rfl
/-- A tree is added. -/
def TreeK (t : Tz) : Prop := ∀ (w : World) (tb rb nb mb sb m : Nat) (ty nu : Value) (T : List Kz) (S : Nat → Prop) (c : C4), TabV w tb rb nb mb sb m ty nu T → TzV w S t c → (∀ g, S g → g < w.heap.size ∧ ¬ Own tb rb nb g) →
  Calls Try.prog 59 #[.pointer (some ⟨tb, 0, none⟩), .agg #[.int .i64 c.k, .string c.n, .slice c.an c.ln c.cn, .slice c.ak c.lk c.ck]] w fun e w' => ∃ rb' nb' ty' nu', e = .returned (.tuple #[.int .i64 ((treeK T t).1 : Nat), .int .i64 ((treeK T t).2.1 : Nat)]) ∧ Added w w' tb rb nb mb sb m (treeK T t).2.2 rb' nb' ty' nu'
/-- The names lie in the key's block. -/
theorem names_copied {w : World} {S : Nat → Prop} {an : Option Addr} {cn kb : Nat} {k : Int} {nm : List UInt8} {sz : Nat} {ns : List (List UInt8)} (ty : TypeId) (hn : RowV w S an 1 (ns.map fun n => [str n])) (h8 : ns.length ≤ 8) (hk : w.heap[kb]? = some (.cells (keyL k nm sz [] []).toArray 111 (0, 0))) :
    ∃ w' u, (Builtin.copy_ #[22, 22] ty #[.slice (some ⟨kb, 3, none⟩) 8 8, .slice an ns.length cn]).run Try.prog w = .ok u w' ∧ w'.heap[kb]? = some (.cells (keyL k nm sz ns []).toArray 111 (0, 0)) ∧ Only kb w w' := by
  have hz : (Try.prog.info? 9).map (·.size) = some 1 := by kernel_rfl
  rcases hn with hn | ⟨g, o, rfl, hg, hc⟩
  · have : ns = [] := by simpa using hn
    subst this
    exact ⟨w, _, run_copy_none w 22 22 ty 9 _ _ 8 8 0 cn Try.underlying22 hz (by decide), hk, Only.refl _ _⟩
  · have hr := run_copy_row Try.prog w 22 22 ty 9 kb 3 8 8 ⟨g, o, none⟩ ns.length cn (keyL k nm sz [] []).toArray 111 (ns.map str) Try.underlying22 hz hk (by simp [Nat.min_def]; omega) (fun j v hv => by
      rw [List.getElem?_map] at hv
      cases hj : ns[j]? with
      | none => rw [hj] at hv; cases hv
      | some x =>
        rw [hj] at hv
        obtain ⟨hj1, hj2⟩ := List.getElem?_eq_some_iff.1 hj
        have := hc j (by simpa using hj1) 0 v (by simp [hj2]; simpa using hv)
        rw [Addr.add_mid]; simpa using this) (by simp [keyL]; omega) (fun v hv => by obtain ⟨x, _, rfl⟩ := List.mem_map.1 hv; rfl)
    refine ⟨_, _, hr, ?_, ?_⟩
    · rw [setRow_heap w kb _ _ _ _ hk]
      congr 2
      have := keyL_names k nm sz ns h8
      simpa using this
    · refine ⟨rfl, rfl, rfl, by simp [World.setRow], fun g hg hne => ?_⟩
      unfold World.setRow
      simp only [Array.getElem?_modify]
      rw [if_neg (fun e => hne (by rw [e]))]
theorem kidsK_len2 : ∀ (ks : List Tz) (T : List Kz), (kidsK T ks).2.1 = 0 → (kidsK T ks).1.length = ks.length
  | [], T, _ => by rw [kidsK]; rfl
  | t :: ks, T, h => by
    rw [kidsK] at h ⊢
    split at h
    · rename_i h1
      rw [if_pos h1]
      simp [kidsK_len2 ks (treeK T t).2.2 h]
    · rename_i h1; exact absurd h h1
theorem Grew.older {w W : World} {tb rb nb rb' nb' : Nat} (h : Grew W tb rb nb rb' nb') (hs : w.heap.size ≤ W.heap.size) : Grew w tb rb nb rb' nb' :=
  ⟨h.row.imp id fun h => by omega, h.num.imp id fun h => by omega⟩
/-- A kid's cell. -/
theorem kid_cell {w : World} {b : Nat} {k : Int} {nm : List UInt8} {sz : Nat} {ns : List (List UInt8)} {ids : List Nat} {t : TypeId} (h : w.heap[b]? = some (.cells (keyL k nm sz ns ids).toArray t (0, 0))) (j : Nat) (hj : j < 8) :
    (∃ v, w.cell? ⟨b, 11 + j, none⟩ = some v) ∧ w.frozen? ⟨b, 11 + j, none⟩ = false := by
  refine ⟨?_, by simp [World.frozen?, h]⟩
  have : 11 + j < (keyL k nm sz ns ids).length := by simp [keyL]; omega
  exact ⟨(keyL k nm sz ns ids)[11 + j], by simp [World.cell?, h, this]⟩
/-- The loop over the kids. -/
structure TrR (W2 : World) (tb rb nb mb sb m xb kb : Nat) (T : List Kz) (k : Int) (nm : List UInt8) (ns : List (List UInt8)) (ks : List Tz) (xc : Array Value) (iv : Value) (wr : World) (j : Nat) (ids : List Nat) (Tj : List Kz) (rb' nb' : Nat) (ty' nu' : Value) : Prop where
  slot : iv = .int .i64 j
  le : j ≤ ks.length
  done : kidsK T (ks.take j) = (ids, 0, Tj)
  tab : TabV wr tb rb' nb' mb sb m ty' nu' Tj
  keeps : Keeps (fun g => Own tb rb nb g ∨ g = kb) W2 wr
  grew : Grew W2 tb rb nb rb' nb'
  key : wr.heap[kb]? = some (.cells (keyL k nm ks.length ns ids).toArray 111 (0, 0))
  box : wr.heap[xb]? = some (.cells xc 25 (0, 0))
theorem Keeps.drop {O : Nat → Prop} {kb : Nat} {w W2 wr : World} (hb : Below w.heap.size w W2) (h : Keeps (fun g => O g ∨ g = kb) W2 wr) (hk : w.heap.size ≤ kb) : Keeps O w wr :=
  (Keeps.of_below (O := O) hb).trans h fun g hg => by
    rcases hg with hg | rfl
    · exact .inl hg
    · exact .inr hk
set_option maxHeartbeats 8000000 in
theorem tree_step {has : List UInt8 → Bool} (k : Int) (nm : List UInt8) (ns : List (List UInt8)) (ks : List Tz) (hok : okK has (.mk k nm ns ks) = true) (hsh : shortZ (.mk k nm ns ks) = true) (IH : ∀ i (h : i < ks.length), TreeK ks[i]) : TreeK (.mk k nm ns ks) := by
  intro w tb rb nb mb sb m ty nu T S c hT hV hS
  cases hV with
  | mk _ _ _ _ an cn ak ck us hl hnr hkr hu =>
  dsimp only
  have hok' := hok
  rw [okK, Bool.and_eq_true, decide_eq_true_eq] at hok
  obtain ⟨hs1, hs2, hs3⟩ := shortZ_mk hsh
  have hwk := fun (ids : List Nat) (h : ids.length = ks.length) => wfK_of (has := has) (k := k) (nm := nm) (ns := ns) (ids := ids) (by rw [h]; exact hok.1)
  have hk8 : ks.length ≤ 8 := by
    have := (hwk (List.replicate ks.length 0) (by simp)).few
    simpa using this
  have hn8 : ns.length ≤ 8 := (hwk (List.replicate ks.length 0) (by simp)).names8
  obtain ⟨v, hv⟩ : ∃ v, v = treeK T (.mk k nm ns ks) := ⟨_, rfl⟩
  rw [← hv]
  rw [treeK] at hv
  -- the boxes
  obtain ⟨W0, hW0⟩ : ∃ W0, W0 = w.alloc (.cells #[.int .i64 k, .string ⟨nm.toArray⟩, .slice an ns.length cn, .slice ak ks.length ck] 25) := ⟨_, rfl⟩
  have hz0 : W0.heap.size = w.heap.size + 1 := by rw [hW0]; simp
  have hx0 : W0.heap[w.heap.size]? = some (.cells #[.int .i64 k, .string ⟨nm.toArray⟩, .slice an ns.length cn, .slice ak ks.length ck] 25 (0, 0)) := by rw [hW0]; exact heap_alloc_new w _
  obtain ⟨WA, hWA⟩ : ∃ WA, WA = W0.alloc (.cells #[.int .i64 0, .string ⟨#[]⟩, .int .i64 0, .string ⟨#[]⟩, .string ⟨#[]⟩, .string ⟨#[]⟩, .string ⟨#[]⟩, .string ⟨#[]⟩, .string ⟨#[]⟩, .string ⟨#[]⟩, .string ⟨#[]⟩, .int .i64 0, .int .i64 0, .int .i64 0, .int .i64 0, .int .i64 0, .int .i64 0, .int .i64 0, .int .i64 0] 111) := ⟨_, rfl⟩
  have hzA : WA.heap.size = w.heap.size + 2 := by rw [hWA]; simp; omega
  have hkA : WA.heap[w.heap.size + 1]? = some (.cells ([.int .i64 0, .string ⟨#[]⟩, .int .i64 0, .string ⟨#[]⟩, .string ⟨#[]⟩, .string ⟨#[]⟩, .string ⟨#[]⟩, .string ⟨#[]⟩, .string ⟨#[]⟩, .string ⟨#[]⟩, .string ⟨#[]⟩, .int .i64 0, .int .i64 0, .int .i64 0, .int .i64 0, .int .i64 0, .int .i64 0, .int .i64 0, .int .i64 0] : List Value).toArray 111 (0, 0)) := by rw [hWA, ← hz0]; exact heap_alloc_new W0 _
  have hbA : Below w.heap.size w WA := by rw [hWA, hW0]; exact ((Below.refl _ _).alloc (Nat.le_refl _) _).alloc (by simp) _
  obtain ⟨W1, hW1⟩ : ∃ W1, W1 = WA.setCells (w.heap.size + 1) 0 [.int .i64 k, .string ⟨nm.toArray⟩, .int .i64 (ks.length : Nat), .string ⟨#[]⟩, .string ⟨#[]⟩, .string ⟨#[]⟩, .string ⟨#[]⟩, .string ⟨#[]⟩, .string ⟨#[]⟩, .string ⟨#[]⟩, .string ⟨#[]⟩, .int .i64 0, .int .i64 0, .int .i64 0, .int .i64 0, .int .i64 0, .int .i64 0, .int .i64 0, .int .i64 0] := ⟨_, rfl⟩
  have hz1 : W1.heap.size = w.heap.size + 2 := by rw [hW1, setCells_size]; exact hzA
  have hb1 : Below w.heap.size w W1 := by rw [hW1]; exact setCells_below _ (Nat.le_succ _) _ 0 WA hbA
  have hx1 : W1.heap[w.heap.size]? = some (.cells #[.int .i64 k, .string ⟨nm.toArray⟩, .slice an ns.length cn, .slice ak ks.length ck] 25 (0, 0)) := by rw [hW1, setCells_other _ _ _ _ _ (by omega), hWA, Below.heap_alloc _ _ _ (by omega)]; exact hx0
  have hk1 : W1.heap[w.heap.size + 1]? = some (.cells (keyL k nm ks.length [] []).toArray 111 (0, 0)) := by rw [hW1]; exact setCells_blk hkA rfl
  have hn1 : RowV W1 (fun g => g < w.heap.size) an 1 (ns.map fun n => [str n]) := hnr.keep (fun g hg => (hS g hg).1) (fun g hg => hb1.block g (hS g hg).1)
  obtain ⟨W2, u2, hr2, hk2, ho2⟩ := names_copied (w := W1.drew) (cn := cn) 3 hn1 hn8 hk1
  have hz2 : w.heap.size + 2 ≤ W2.heap.size := by have := ho2.size; show _ ≤ _; have e : W1.drew.heap.size = W1.heap.size := rfl; omega
  have hx2 : W2.heap[w.heap.size]? = some (.cells #[.int .i64 k, .string ⟨nm.toArray⟩, .slice an ns.length cn, .slice ak ks.length ck] 25 (0, 0)) := ho2.blk (w := W1.drew) hx1 (by omega)
  have hb2 : Below w.heap.size w W2 := hb1.trans ((show Only (w.heap.size + 1) W1 W2 from ⟨ho2.os, ho2.tape, ho2.output, ho2.size, ho2.block⟩).below (by omega) (by omega))
  obtain ⟨⟨p0, p1, p2, p3⟩, _⟩ := four_blk hx0
  have hT2 := hT.below hb2
  have ht1 := hT.tlt
  have CT := fun W (hk : Keeps (fun g => Own tb rb nb g ∨ g = w.heap.size + 1) W2 W) i (h : i < ks.length) (h' : i < us.length) => (hu i h h').keep (S' := S) (fun _ h => h) (fun g hg => (hk.block g (by have := (hS g hg).1; omega) (by rintro (h | h); exact (hS g hg).2 h; have := (hS g hg).1; omega)).trans (hb2.block g (hS g hg).1))
  have CR := fun W (hk : Keeps (fun g => Own tb rb nb g ∨ g = w.heap.size + 1) W2 W) => hkr.keep (w' := W) (S' := S) (fun _ h => h) (fun g hg => (hk.block g (by have := (hS g hg).1; omega) (by rintro (h | h); exact (hS g hg).2 h; have := (hS g hg).1; omega)).trans (hb2.block g (hS g hg).1))
  have HW0 := Lib.hid hW0; have HWA := Lib.hid hWA; have HKA := Lib.hid hkA
  have HV := Lib.hid hv; have HW1 := Lib.hid hW1; have HX1 := Lib.hid hx1; have HK1 := Lib.hid hk1; have HR2 := Lib.hid hr2; have HK2 := Lib.hid hk2; have HX2 := Lib.hid hx2; have HB2 := Lib.hid hb2; have HT2 := Lib.hid hT2; have HS := Lib.hid hS; have HIH := Lib.hid IH; have HUL := Lib.hid hl; have HCT := Lib.hid CT; have HCR := Lib.hid CR; have HWK := Lib.hid hwk; have HOK := Lib.hid hok; have HS1 := Lib.hid hs1; have HS2 := Lib.hid hs2; have HT := Lib.hid hT
  clear hv hr2 hk2 hx2 hb2 hT2 IH hl CT CR hwk hok hok' hs1 hs2 hs3 hsh hT hkr hu ho2 hx0 hkA hbA hx1 hk1 hb1 hnr hn1 hW1 hWA
  rw [hW0] at p0 p1 p2 p3
  clear hW0
  go_enter Try.func59, Try.ntmps59
  go_upto_region 1 with fail
  rw [← HW0.out]
  rw [← HW0.out] at p0 p1 p2 p3
  refine wp_region_lit ?_
  refine wpList_runV (w' := W0) rfl (.pointer (some ⟨w.heap.size, 0, none⟩)) (by simp [execOp, go_sem]) ?_
  simp only [Act.put, List.setIfInBounds_toArray, List.set_cons_zero, List.set_cons_succ]
  refine wpList_runV (w' := W0) rfl (.int .i64 k) (by simp [execOp, go_sem, p0]) ?_
  refine wpList_runV (w' := W0) rfl (.pointer (some ⟨w.heap.size, 1, none⟩)) (by simp [execOp, go_sem]) ?_
  refine wpList_runV (w' := W0) rfl (.string ⟨nm.toArray⟩) (by simp [execOp, go_sem, p1]) ?_
  refine wpList_runV (w' := W0) rfl (.pointer (some ⟨w.heap.size, 3, none⟩)) (by simp [execOp, go_sem]) ?_
  refine wpList_runV (w' := W0) rfl (.slice ak ks.length ck) (by simp [execOp, go_sem, p3]) ?_
  refine wpList_runV (w' := W0) rfl (.int .i64 (ks.length : Nat)) (by simp [go_sem]) ?_
  simp only [Act.put, List.setIfInBounds_toArray, List.set_cons_zero, List.set_cons_succ]
  refine wpList_runV (w' := W0) rfl _ (exec_build3 rfl rfl rfl rfl (build_head k (ks.length : Nat) ⟨nm.toArray⟩ W0)) ?_
  simp only [Act.put, List.setIfInBounds_toArray, List.set_cons_zero, List.set_cons_succ]
  refine wpList_runV (w' := WA) rfl (.pointer (some ⟨w.heap.size + 1, 0, none⟩)) (by rw [HWA.out, ← hz0]; exact exec_alloc rfl (alloc_key W0)) ?_
  simp only [Act.put, List.setIfInBounds_toArray, List.set_cons_zero, List.set_cons_succ]
  refine wpList_store_mid rfl 111 _ _ rfl (w.heap.size + 1) 0 #[.int .i64 k, .string ⟨nm.toArray⟩, .int .i64 (ks.length : Nat), .string ⟨#[]⟩, .string ⟨#[]⟩, .string ⟨#[]⟩, .string ⟨#[]⟩, .string ⟨#[]⟩, .string ⟨#[]⟩, .string ⟨#[]⟩, .string ⟨#[]⟩, .int .i64 0, .int .i64 0, .int .i64 0, .int .i64 0, .int .i64 0, .int .i64 0, .int .i64 0, .int .i64 0] rfl rfl (show WA.there (w.heap.size + 1) 0 19 from there_blk (cs := [.int .i64 0, .string ⟨#[]⟩, .int .i64 0, .string ⟨#[]⟩, .string ⟨#[]⟩, .string ⟨#[]⟩, .string ⟨#[]⟩, .string ⟨#[]⟩, .string ⟨#[]⟩, .string ⟨#[]⟩, .string ⟨#[]⟩, .int .i64 0, .int .i64 0, .int .i64 0, .int .i64 0, .int .i64 0, .int .i64 0, .int .i64 0, .int .i64 0]) HKA.out) infoKey (all_oneCell_toArray (keyL_one k nm ks.length [] [])) ?_
  rw [show ([.int .i64 k, .string ⟨nm.toArray⟩, .int .i64 (ks.length : Nat), .string ⟨#[]⟩, .string ⟨#[]⟩, .string ⟨#[]⟩, .string ⟨#[]⟩, .string ⟨#[]⟩, .string ⟨#[]⟩, .string ⟨#[]⟩, .string ⟨#[]⟩, .int .i64 0, .int .i64 0, .int .i64 0, .int .i64 0, .int .i64 0, .int .i64 0, .int .i64 0, .int .i64 0] : List Value).toArray.toList = [.int .i64 k, .string ⟨nm.toArray⟩, .int .i64 (ks.length : Nat), .string ⟨#[]⟩, .string ⟨#[]⟩, .string ⟨#[]⟩, .string ⟨#[]⟩, .string ⟨#[]⟩, .string ⟨#[]⟩, .string ⟨#[]⟩, .string ⟨#[]⟩, .int .i64 0, .int .i64 0, .int .i64 0, .int .i64 0, .int .i64 0, .int .i64 0, .int .i64 0, .int .i64 0] from rfl, ← HW1.out]
  refine wpList_nil ?_
  simp only [Act.put]
  go_upto_region 2 with fail
  clear p0 p1 p2 p3
  obtain ⟨⟨p0, p1, p2, p3⟩, _⟩ := four_blk HX1.out
  refine wp_region_still_tail 4 (by kernel_rfl) (by kernel_rfl) ?_
  simp only [List.take_succ_cons, List.take_zero, List.drop_succ_cons, List.drop_zero]
  iterate 4 still_step
  refine wpStill_nil ?_
  refine wpList_runV (w' := W2) rfl u2 (exec_copy rfl rfl rfl HR2.out) ?_
  refine wpList_nil ?_
  simp only [Act.put]
  clear p0 p1 p2 p3
  obtain ⟨⟨p0, p1, p2, p3⟩, _⟩ := four_blk HX2.out
  go_wp2_with fail
  clear p0 p1 p2 p3
  go_loopw [27] (fun iv wr => ∃ j ids Tj rb' nb' ty' nu', TrR W2 tb rb nb mb sb m w.heap.size (w.heap.size + 1) T k nm ns ks #[.int .i64 k, .string ⟨nm.toArray⟩, .slice an ns.length cn, .slice ak ks.length ck] iv wr j ids Tj rb' nb' ty' nu') (fun iv _ => ks.length - (intOf iv).toNat)
  case atStart => exact ⟨0, [], T, rb, nb, ty, nu, rfl, Nat.zero_le _, by rw [List.take_zero, kidsK], HT2.out, Keeps.refl _ _, Grew.refl _ _ _ _, HK2.out, HX2.out⟩
  case round =>
    obtain ⟨j, ids, Tj, rb', nb', ty', nu', h⟩ := hrel
    obtain rfl := h.slot
    have hj := h.le
    have hwz := h.keeps.size
    have hidl : ids.length = j := by
      have := kidsK_len2 (ks.take j) T (by rw [h.done])
      rw [h.done] at this
      simpa [Nat.min_eq_left hj] using this
    have H := Lib.hid h
    clear h
    by_cases hlt : j < ks.length
    · have hlu : j < us.length := by rw [HUL.out]; exact hlt
      have hjz : (j : Int) < (ks.length : Int) := by omega
      have hj8 : (j : Int) < 8 := by omega
      have hj0 : (0 : Int) ≤ (j : Int) := by omega
      obtain ⟨g, o, rfl, hg, hc⟩ := four_at (wb := w.heap.size) (HCR.out wr H.out.keeps) (fun g hg => (HS.out g hg).1) j hlu
      obtain ⟨c0, c1, c2, c3⟩ := hc wr (fun _ _ => rfl)
      have hTk := HCT.out wr H.out.keeps j hlt hlu
      have hI := HIH.out j hlt
      have htk : ks.take (j + 1) = ks.take j ++ [ks[j]] := by rw [List.take_add_one, List.getElem?_eq_getElem hlt]; rfl
      have hsn := kidsK_snoc T (ks.take j) ks[j]
      rw [← htk, H.out.done] at hsn
      dsimp only at hsn
      rw [if_pos rfl] at hsn
      have hee := treeK_e ks[j] Tj
      clear hc htk
      generalize ks[j] = t at *
      generalize us[j] = x at *
      obtain ⟨x1, x2, x3, x4, x5, x6, x7, x8⟩ := x
      dsimp only at *
      obtain ⟨W3, hW3⟩ : ∃ W3, W3 = wr.alloc (.cells #[.int .i64 x1, .string x2, .slice x3 x4 x5, .slice x6 x7 x8] 25) := ⟨_, rfl⟩
      have hBB : Below wr.heap.size wr W3 := by rw [hW3]; exact (Below.refl _ _).alloc (Nat.le_refl _) _
      have hO' : ∀ g, Own tb rb' nb' g → Own tb rb nb g ∨ W2.heap.size ≤ g := H.out.grew.own
      have hC3 := hI W3 tb rb' nb' mb sb m ty' nu' Tj S ⟨x1, x2, x3, x4, x5, x6, x7, x8⟩ (H.out.tab.below hBB) (hTk.later (fun g hg => by have := (HS.out g hg).1; omega) hBB) (fun g hg => ⟨by have := (HS.out g hg).1; have := hBB.size; omega, fun ho => by
        rcases hO' g ho with h | h
        · exact (HS.out g hg).2 h
        · have := (HS.out g hg).1; omega⟩)
      have hkb : w.heap.size + 1 < wr.heap.size := by omega
      have hnk : ∀ g, w.heap.size ≤ g → g < W2.heap.size → ¬ Own tb rb' nb' g := fun g h1 h2 ho => by
        rcases hO' g ho with h | h
        · have := HT.out.lt h; omega
        · omega
      have HC3 := Lib.hid hC3; have HBB := Lib.hid hBB; have HNK := Lib.hid hnk; have HSN := Lib.hid hsn; have HEE := Lib.hid hee
      have hzb := hBB.size
      clear hI hTk hC3 hBB hO' hnk hsn hee
      subst hW3
      obtain ⟨⟨q1, q2, q3⟩, hq⟩ : ∃ q, treeK Tj t = q := ⟨_, rfl⟩
      rw [hq] at HC3 HSN HEE
      clear hq
      dsimp only at HC3 HSN HEE
      by_cases h0 : q2 = 0
      · subst h0
        have hd := HSN.out
        rw [if_pos rfl] at hd
        have HDD := Lib.hid hd
        clear hd
        go_wp2_with (go_at_call 59; (with_reducible refine HC3.out.mono ?_); rintro e w5 ⟨rb2, nb2, ty2, nu2, rfl, ha⟩; have HA := Lib.hid ha; have hz5 := ha.keeps.size; have kb5 := (ha.keeps.block (w.heap.size + 1) (by omega) (HNK.out _ (by omega) (by omega))).trans ((HBB.out.block _ hkb).trans H.out.key); obtain ⟨⟨dv, d0⟩, d1⟩ := kid_cell kb5 j (by omega); have HK5 := Lib.hid kb5; clear ha kb5)
        go_roundw
        case rel =>
          have hkk := HNK.out (w.heap.size + 1) (by omega) (by omega)
          have hnk2 : ∀ g, Own tb rb2 nb2 g → g ≠ w.heap.size + 1 := fun g hg e => by
            rcases HA.out.grew.own g hg with h | h
            · exact hkk (e ▸ h)
            · omega
          have hK1 : Keeps (Own tb rb' nb') wr w5 := (Keeps.of_below HBB.out).trans HA.out.keeps (fun g h => .inl h)
          refine ⟨j + 1, ids ++ [q1], q3, rb2, nb2, ty2, nu2, by go_num, by omega, HDD.out, ?_, ?_, ?_, ?_, ?_⟩
          · exact HA.out.tab.keep (fun g hg => RowKit.Below.heap_setCell _ _ _ _ (hnk2 g hg)) (by simp)
          · refine (H.out.keeps.trans hK1 fun g hg => ?_).setCell _ _ (.inr rfl)
            rcases H.out.grew.own g hg with h | h
            · exact .inl (.inl h)
            · exact .inr h
          · exact H.out.grew.trans HA.out.grew (by omega)
          · rw [Go.setCell_eq_setRow w5 (w.heap.size + 1) (11 + j) _ 111 (0, 0) _ HK5.out, setRow_heap w5 _ _ _ _ _ HK5.out, ← keyL_kid k nm ks.length ns q1 ids (by omega), hidl]
          · rw [RowKit.Below.heap_setCell _ _ _ _ (by show w.heap.size ≠ w.heap.size + 1; omega)]
            exact (HA.out.keeps.block w.heap.size (by omega) (HNK.out _ (by omega) (by omega))).trans ((HBB.out.block _ (by omega)).trans H.out.box)
        case measure => simp [intOf]; omega
      · have hd := HSN.out
        rw [if_neg h0] at hd
        have hbad := kidsK_bad (T := T) (ks := ks) (i := j + 1) (by rw [hd]; exact h0)
        rw [hd] at hbad
        have hvv := HV.out
        rw [hbad] at hvv
        dsimp only at hvv
        rw [if_neg h0] at hvv
        have HVV := Lib.hid hvv
        have hq20 : q2 = 20 := by rcases HEE.out with h | h; exact absurd h h0; exact h
        clear hd hbad hvv
        subst hq20
        go_wp2_with (go_at_call 59; (with_reducible refine HC3.out.mono ?_); rintro e w5 ⟨rb2, nb2, ty2, nu2, rfl, ha⟩; have HA := Lib.hid ha; clear ha)
        go_ret2
        rw [HVV.out]
        have hK1 : Keeps (Own tb rb' nb') wr w5 := (Keeps.of_below HBB.out).trans HA.out.keeps (fun g h => .inl h)
        have hK2 : Keeps (fun g => Own tb rb nb g ∨ g = w.heap.size + 1) W2 w5 := H.out.keeps.trans hK1 fun g hg => by
          rcases H.out.grew.own g hg with h | h
          · exact .inl (.inl h)
          · exact .inr h
        exact ⟨rb2, nb2, ty2, nu2, rfl, HA.out.tab, hK2.drop HB2.out (Nat.le_succ _), (H.out.grew.trans HA.out.grew (by omega)).older (by omega)⟩
    · obtain rfl : j = ks.length := by omega
      have hd := H.out.done
      rw [List.take_length] at hd
      have hvv := HV.out
      rw [hd] at hvv
      dsimp only at hvv
      rw [if_pos rfl] at hvv
      have hw := kidsK_wf ks T HT.out.wf HOK.out.2
      rw [hd] at hw
      have hfit : KFit ⟨k, nm, ns, ids⟩ := ⟨HWK.out ids hidl, HS1.out, HS2.out, fun j hj => by have := (hw.2 rfl).2.1 j hj; have := hw.1.len; dsimp only at *; omega⟩
      have hCN := fun W (hT : TabV W tb rb' nb' mb sb m ty' nu' Tj) => number_any ⟨k, nm, ns, ids⟩ hfit W tb rb' nb' mb sb m ty' nu' Tj hT (fun j hj => (hw.2 rfl).2.1 j hj)
      rw [← hvv] at hCN
      have hkey := H.out.key
      rw [← hidl] at hkey
      have hcl : (Kz.cells ⟨k, nm, ns, ids⟩).length = 19 := rfl
      have RA := Lib.hid (rangeAt_blk (cs := Kz.cells ⟨k, nm, ns, ids⟩) hkey)
      have HCN := Lib.hid hCN
      have HT4 := Lib.hid H.out.tab
      clear hd hvv hw hfit hCN hkey
      go_upto_region 11 with fail
      refine wp_region_lit ?_
      refine wpList_runV (w' := wr) rfl (.pointer (some ⟨tb, 0, none⟩)) (by simp [execOp, go_sem]) ?_
      refine wpList_load_mid rfl 111 _ rfl (w.heap.size + 1) 0 rfl (Kz.cells ⟨k, nm, ns, ids⟩) _ RA.out Try.underlying111 rfl (by rw [hcl]; exact infoKey) ?_
      simp only [Act.put, List.setIfInBounds_toArray, List.set_cons_zero, List.set_cons_succ]
      refine wpList_enter (f := 60) (args := #[.pointer (some ⟨tb, 0, none⟩), .agg (Kz.cells ⟨k, nm, ns, ids⟩).toArray]) rfl (by simp [go_sem]) (HCN.out wr HT4.out) ?_
      rintro e w5 ⟨rb2, nb2, ty2, nu2, rfl, ha⟩
      refine ⟨_, rfl, ?_⟩
      have HA := Lib.hid ha
      clear ha
      simp only [Act.put, List.setIfInBounds_toArray, List.set_cons_zero, List.set_cons_succ]
      go_wp2
      go_ret2
      have hK2 : Keeps (fun g => Own tb rb nb g ∨ g = w.heap.size + 1) W2 w5 := H.out.keeps.trans HA.out.keeps fun g hg => by
        rcases H.out.grew.own g hg with h | h
        · exact .inl (.inl h)
        · exact .inr h
      exact ⟨rb2, nb2, ty2, nu2, rfl, HA.out.tab, hK2.drop HB2.out (Nat.le_succ _), (H.out.grew.trans HA.out.grew (by omega)).older (by omega)⟩
/-- Any tree that may be added. -/
theorem tree_any {has : List UInt8 → Bool} : ∀ (n : Nat) (t : Tz), sizeZ t ≤ n → okK has t = true → shortZ t = true → TreeK t
  | 0, t, h, _, _ => by have := sizeZ_pos t; omega
  | n + 1, .mk k nm ns ks, h, hok, hs => tree_step k nm ns ks hok hs fun i hi => by
    rw [sizeZ] at h
    have := sizeZ_mem ks i hi
    rw [okK, Bool.and_eq_true] at hok
    exact tree_any n ks[i] (by omega) (okKs_mem hok.2 _ (List.getElem_mem hi)) (shortZs_mem ks (shortZ_mk hs).2.2 i hi)
end Sp
end Go.Proofs.Ytjjpjkkaogfoaaa

namespace Go.Proofs.Ytjjpjkkaogfoaaa
open Go.RowKit
namespace Sp
open Sc

set_option maxRecDepth 100000 in
set_option maxHeartbeats 16000000 in
theorem Schema_any (main : Rw) (types sigs : List Rw) (c : R4) (at1 at2 : Option Addr) (ut us : List R4) (c1 c2 : Nat) (w : World) (hM : RwV w main c) (hT : RwsV w types at1 ut) (hG : RwsV w sigs at2 us) (hl1 : types.length ≤ maxLen) (hl2 : sigs.length ≤ maxLen) :
    Calls Try.prog 15 #[.agg #[.int .i64 c.k, .int .i64 c.n, .slice c.an c.ln c.cn, .slice c.ak c.lk c.ck], .slice at1 types.length c1, .slice at2 sigs.length c2] w (SchP (schR main types sigs) w) := by
  unfold maxLen at hl1 hl2
  have HM := Lib.hid hM; have HT := Lib.hid hT; have HG := Lib.hid hG
  clear hM hT hG
  obtain ⟨W0, hW0⟩ : ∃ W0, W0 = ((w.alloc (.cells #[.int .i64 c.k, .int .i64 c.n, .slice c.an c.ln c.cn, .slice c.ak c.lk c.ck] 33)).alloc (.cells #[.int .i64 0, .string ⟨#[]⟩, .slice none 0 0, .slice none 0 0, .slice none 0 0, .slice none 0 0] 29)).alloc (.cells #[.int .i64 0, .string ⟨#[]⟩, .slice none 0 0, .slice none 0 0, .slice none 0 0, .slice none 0 0] 29) := ⟨_, rfl⟩
  have hb0 : Below w.heap.size w W0 := by rw [hW0]; exact (((Below.refl _ _).alloc (Nat.le_refl _) _).alloc (by simp) _).alloc (by simp; omega) _
  have hz0 : W0.heap.size = w.heap.size + 3 := by rw [hW0]; simp
  have hr0 : W0.heap[w.heap.size]? = some (.cells #[.int .i64 c.k, .int .i64 c.n, .slice c.an c.ln c.cn, .slice c.ak c.lk c.ck] 33 (0, 0)) := by rw [hW0, blk_if, if_neg (by simp; omega), blk_if, if_neg (by simp), blk_if, if_pos rfl]
  have ho0 : W0.heap[w.heap.size + 1]? = some (.cells #[.int .i64 0, .string ⟨#[]⟩, .slice none 0 0, .slice none 0 0, .slice none 0 0, .slice none 0 0] 29 (0, 0)) := by rw [hW0, blk_if, if_neg (by simp), blk_if, if_pos (by simp)]
  have hs0 : W0.heap[w.heap.size + 2]? = some (.cells #[.int .i64 0, .string ⟨#[]⟩, .slice none 0 0, .slice none 0 0, .slice none 0 0, .slice none 0 0] 29 (0, 0)) := by rw [hW0, blk_if, if_pos (by simp)]
  have HW0 := Lib.hid hW0; have HB0 := Lib.hid hb0; have HR0 := Lib.hid hr0; have HO0 := Lib.hid ho0; have HS0 := Lib.hid hs0
  obtain ⟨is, his, js, ls, ms⟩ := info_parts infoS
  obtain ⟨ik, hik, jk, kk, lk⟩ := info_parts infoTz
  obtain ⟨ig, hig, jg, kg, lg⟩ := info_parts infoG
  obtain ⟨im, him, jm, km, lm⟩ := info_parts infoN
  have HIs := Lib.hid his; have HJs := Lib.hid js; have HKs := Lib.hid ls; have HLs := Lib.hid ms
  have HIk := Lib.hid hik; have HJk := Lib.hid jk; have HKk := Lib.hid kk; have HLk := Lib.hid lk
  have HIg := Lib.hid hig; have HJg := Lib.hid jg; have HKg := Lib.hid kg; have HLg := Lib.hid lg
  have HIm := Lib.hid him; have HJm := Lib.hid jm; have HKm := Lib.hid km; have HLm := Lib.hid lm
  clear hW0 hb0 hr0 ho0 hs0 his js ls ms hik jk kk lk hig jg kg lg him jm km lm
  go_enter Try.func15, Try.ntmps15
  go_upto_block 0 with fail
  rw [← HW0.out]
  go_cut [8, 9] (fun s8 s9 wx => ∃ na nc, s8 = .slice na (namesR types).length nc ∧ s9 = .int .i64 (namesR types).length ∧ wx.ownsRow (w.heap.size + 3) 9 1 (.slice na (namesR types).length nc) (namesR types).length (nmF (namesR types)) ∧ Below (w.heap.size + 3) W0 wx)
  case first =>
    go_wp2_with fail
    go_loopw [8, 9] (fun v8 v9 wr => ∃ i, L1 w W0 types v8 v9 wr i) (fun _ v9 _ => 4 - (intOf v9).toNat)
    case atStart => exact ⟨0, rfl, ⟨Nat.zero_le _, Nat.zero_le _⟩, World.ownsRow_nil _ _ _ _, Below.refl _ _⟩
    case round =>
      obtain ⟨i, h⟩ := hrel
      obtain rfl := h.slot
      obtain ⟨hi1, hi2⟩ := h.le
      have hzr := h.below.size
      obtain ⟨xa, xc, rfl⟩ := own_sliceZ h.own
      have H := Lib.hid h
      clear h
      by_cases hgo : i < types.length ∧ i < 4
      · obtain ⟨hi3, hi4⟩ := hgo
        have hi3z : (i : Int) < (types.length : Int) := by omega
        have hi4z : (i : Int) < 4 := by omega
        have hi0 : (0 : Int) ≤ (i : Int) := by omega
        have hsn := take_snoc nm4 i hi4
        have hx := nm4_at i hi4
        generalize nm4.getD i [] = n at *
        have hx' : ∀ h : i < ([.string ⟨#[65]⟩, .string ⟨#[66, 101, 101]⟩, .string ⟨#[67, 97, 116]⟩, .string ⟨#[68, 111, 103]⟩] : List Value).length, ([.string ⟨#[65]⟩, .string ⟨#[66, 101, 101]⟩, .string ⟨#[67, 97, 116]⟩, .string ⟨#[68, 111, 103]⟩] : List Value)[i] = .string ⟨n.toArray⟩ := fun h => (List.getElem?_eq_some_iff.1 hx).2
        have HSN := Lib.hid hsn
        clear hx hsn
        go_wp2_with (at_builtin; (refine Sh.wpList_append_fresh rfl _ _ 22 rfl (w.heap.size + 3) 9 is (.string ⟨#[]⟩) 1 16 Try.underlying22 HIs.out HJs.out HKs.out HLs.out rfl (by decide) _ _ _ rfl ((H.out.own.alloc _).alloc _) ⟨wr.heap.size + 1, 0, none⟩ 1 1 [.string ⟨n.toArray⟩] rfl rfl (cells_new1Z _ _ _ _) (fun x hx => by simp at hx; subst hx; rfl) (by unfold maxLen; omega) (by omega) (by simp; omega) ?_); intro v' w5 hown' hgrow hfr; have HOW := Lib.hid hown'; have HGR := Lib.hid hgrow; clear hown' hgrow hfr)
        go_roundw
        case rel =>
          have ho := HOW.out
          rw [nmF_snoc, ← HSN.out] at ho
          exact ⟨i + 1, by go_num, ⟨by omega, by omega⟩, ho, (H.out.below.trans ((Below.of_allocZ _ _ (by omega)).trans (Below.of_allocZ _ _ (by simp; omega)))).trans (below_grown HGR.out (fun g e => (H.out.own.lt g e).1) (by simp; omega))⟩
        case measure => simp [intOf]; omega
      · have hln : (namesR types).length = i := by rw [namesR_len]; omega
        have hnn : namesR types = nm4.take i := by
          unfold namesR
          by_cases e : types.length ≤ 4
          · rw [show i = types.length by omega]
          · rw [show i = 4 by omega, List.take_of_length_le (by simp [nm4]; omega), List.take_of_length_le (by simp [nm4])]
        have HLN := Lib.hid hln; have HNN := Lib.hid hnn
        clear hln hnn
        by_cases hi3 : i < types.length
        · have hi3z : (i : Int) < (types.length : Int) := by omega
          have hi4z : ¬ (i : Int) < 4 := by omega
          go_wp2
          go_meet
          exact ⟨xa, xc, by rw [HLN.out], by rw [HLN.out], by rw [HLN.out, HNN.out]; exact H.out.own, H.out.below⟩
        · have hi3z : ¬ (i : Int) < (types.length : Int) := by omega
          go_wp2
          go_meet
          exact ⟨xa, xc, by rw [HLN.out], by rw [HLN.out], by rw [HLN.out, HNN.out]; exact H.out.own, H.out.below⟩
  case rest =>
    obtain ⟨na, nc, rfl, rfl, hown, hb1⟩ := hcut
    obtain ⟨na', nc', e1, hn1⟩ := RowV.own (S := New (w.heap.size + 3) wc) (l := (namesR types).map fun n => [str n]) hown (str1_len _) (by simp) (fun g hg => hown.lt g hg)
    obtain ⟨rfl, rfl⟩ : na = na' ∧ nc = nc' := by cases e1; exact ⟨rfl, rfl⟩
    have hnl := namesR_len types
    have HN1 := Lib.hid hn1; have HB1 := Lib.hid hb1
    have hr1 := (hb1.block _ (by omega)).trans HR0.out
    have ho1 := (hb1.block _ (by omega)).trans HO0.out
    have hs1 := (hb1.block _ (by omega)).trans HS0.out
    have hbw : Below w.heap.size w wc := HB0.out.trans (hb1.mono (by omega))
    have hz1 := hb1.size
    have HR1 := Lib.hid hr1; have HO1 := Lib.hid ho1; have HS1 := Lib.hid hs1; have HBW := Lib.hid hbw
    clear hown hn1 hb1 hr1 ho1 hs1 hbw e1
    generalize hnames : namesR types = names at *
    have HNA := Lib.hid hnames; have HNL := Lib.hid hnl
    have hn4 : names.length ≤ 4 := by omega
    have hnt : names.length ≤ types.length := by omega
    clear hnames hnl
    go_wp2_with fail
    go_loopw [10] (fun v10 wr => ∃ j v us, L2 w wc names types v10 wr j v us) (fun v10 _ => 4 - (intOf v10).toNat)
    case atStart => exact ⟨0, .slice none 0 0, [], rfl, Nat.zero_le _, HS1.out, GRow.start _ _ _, HBW.out, Kp.refl _ _⟩
    case round =>
      obtain ⟨j, xv, us, h⟩ := hrel
      obtain rfl := h.slot
      have hle := h.le
      have hkz := h.kp.size
      obtain ⟨xa, xk, hxv⟩ := own_sliceZ h.row.own
      subst hxv
      obtain ⟨⟨s0, s1, s2, s3, s4, s5⟩, ⟨g0, g1, g2, g3, g4, g5⟩⟩ := six_blkF h.sat
      have H := Lib.hid h
      clear h
      by_cases hjn : j < names.length
      · have hjnz : (j : Int) < (names.length : Int) := by omega
        have hjtz : (j : Int) < (types.length : Int) := by omega
        have hj0 : (0 : Int) ≤ (j : Int) := by omega
        obtain ⟨gn, on, rfl, hgn, hcn⟩ := name_kp HN1.out j hjn
        obtain ⟨gt, ot, rc, rfl, hgt, hrv, hct⟩ := row4_at HT.out j (by omega)
        have hul : us.length = j := by rw [H.out.row.len]; simp [ntR]
        have hsz0 : w.heap.size + 2 < wr.heap.size := by omega
        have hgnz : gn < wr.heap.size := by have := hgn.2; omega
        have hgtz : gt < wr.heap.size := by omega
        have HCN := Lib.hid hcn; have HCT := Lib.hid hct; have HRV := Lib.hid hrv; have HUL := Lib.hid hul
        clear hcn hct hrv hul
        go_wp2_with fail
        refine wp_region_by (SJ wr.drew (w.heap.size + 2) wc.heap.size (.slice xa us.length xk) (.slice (some ⟨gn, on, none⟩) names.length nc) (.slice (some ⟨gt, ot, none⟩) types.length c1) j gn (on + j) gt (ot + j * 4) (names.getD j []) rc (treeR names 5 (types.getD j default)) us) (by kernel_rfl) ?_ ?_ ?_
        · exact ⟨by simp, Closed.start _, fun i => match i with
            | 0 => .pointer (some ⟨w.heap.size + 2, 4, none⟩)
            | 1 => .slice xa us.length xk
            | 2 => .slice (some ⟨gn, on, none⟩) names.length nc
            | 3 => .int .i64 j
            | 4 => .pointer (some ⟨gn, on + j, none⟩)
            | 5 => .string ⟨(names.getD j []).toArray⟩
            | 6 => .slice (some ⟨gt, ot, none⟩) types.length c1
            | 7 => .int .i64 j
            | 8 => .pointer (some ⟨gt, ot + j * 4, none⟩)
            | 9 => .agg #[.int .i64 rc.k, .int .i64 rc.n, .slice rc.an rc.ln rc.cn, .slice rc.ak rc.lk rc.ck]
            | 10 => .slice (some ⟨gn, on, none⟩) names.length nc
            | 11 => (.agg #[.int .i64 0, .string ⟨#[]⟩, .slice none 0 0, .slice none 0 0])
            | 12 => .agg #[.string ⟨(names.getD j []).toArray⟩, .int .i64 0, .string ⟨#[]⟩, .slice none 0 0, .slice none 0 0]
            | 15 => .pointer (some ⟨w.heap.size + 2, 4, none⟩)
            | _ => undef, ⟨0, ⟨#[]⟩, none, 0, 0, none, 0, 0⟩, Fr.start _ _ _, ⟨rfl, rfl, rfl, rfl, rfl, rfl, rfl, rfl, rfl, rfl, rfl, rfl, rfl, rfl⟩, by simp only [rep_getD]; exact AM.start⟩
        · intro listed b v q hJ hi
          obtain ⟨hsz, hC, vals, xc, hF, hV, hM⟩ := hJ
          obtain ⟨hl1, hiN⟩ := not_up hsz hi
          obtain ⟨_, o, ho, hdeps⟩ := mem_ready.1 hi
          have hiN : q < 17 := hiN
          obtain rfl | rfl | rfl | rfl | rfl | rfl | rfl | rfl | rfl | rfl | rfl | rfl | rfl | rfl | rfl | rfl | rfl : q = 0 ∨ q = 1 ∨ q = 2 ∨ q = 3 ∨ q = 4 ∨ q = 5 ∨ q = 6 ∨ q = 7 ∨ q = 8 ∨ q = 9 ∨ q = 10 ∨ q = 11 ∨ q = 12 ∨ q = 13 ∨ q = 14 ∨ q = 15 ∨ q = 16 := by omega
          · cases ho
            have e7 := hF.old_is 7 (by rfl) rfl
            refine SJ.quiet hsz hC hi hF hV hM (Slots.of (by rfl)) rfl rfl (by decide) ?_
            rw [hV.v0]
            simp [execOp, go_sem, e7]
          · cases ho
            have l16 : listed.getD 16 false = false := by
              cases hh : listed.getD 16 false
              · rfl
              · have y0 := hC 16 _ rfl hh ⟨1, .phase⟩ (by simp) rfl; rw [hl1] at y0; cases y0
            have hs := (hM.far (g := w.heap.size + 2) hsz0 (H.out.row.ne (by omega)) (.inr l16)).trans H.out.sat
            obtain ⟨⟨y0, y1, y2, y3, y4, y5⟩, ⟨z0, z1, z2, z3, z4, z5⟩⟩ := six_blkF hs
            have e37 := hF.up 0 37 rfl (hdeps ⟨0, .data⟩ (by simp) rfl)
            rw [hV.v0] at e37
            refine SJ.quiet hsz hC hi hF hV hM (Slots.of (by rfl)) rfl rfl (by decide) ?_
            rw [hV.v1]
            simp [execOp, go_sem, e37, y4]
          · cases ho
            have e8 := hF.old_is 8 (by rfl) rfl
            refine SJ.quiet hsz hC hi hF hV hM (Slots.of (by rfl)) rfl rfl (by decide) ?_
            rw [hV.v2]
            simp [execOp, go_sem, e8]
          · cases ho
            have e10 := hF.old_is 10 (by rfl) rfl
            refine SJ.quiet hsz hC hi hF hV hM (Slots.of (by rfl)) rfl rfl (by decide) ?_
            rw [hV.v3]
            simp [execOp, go_sem, e10]
          · cases ho
            have e39 := hF.up 2 39 rfl (hdeps ⟨2, .data⟩ (by simp) rfl)
            rw [hV.v2] at e39
            have e40 := hF.up 3 40 rfl (hdeps ⟨3, .data⟩ (by simp) rfl)
            rw [hV.v3] at e40
            refine SJ.quiet hsz hC hi hF hV hM (Slots.of (by rfl)) rfl rfl (by decide) ?_
            rw [hV.v4]
            simp [execOp, go_sem, e39, e40, hj0, hjnz]
          · cases ho
            have l16 : listed.getD 16 false = false := by
              cases hh : listed.getD 16 false
              · rfl
              · have y0 := hC 16 _ rfl hh ⟨5, .phase⟩ (by simp) rfl; rw [hl1] at y0; cases y0
            have yn := HCN.out v ((hM.far (g := gn) hgnz (H.out.row.ne hgn.2) (.inr l16)).trans (H.out.kp.blk gn hgn.2 (by have := hgn.1; omega)))
            have e41 := hF.up 4 41 rfl (hdeps ⟨4, .data⟩ (by simp) rfl)
            rw [hV.v4] at e41
            refine SJ.quiet hsz hC hi hF hV hM (Slots.of (by rfl)) rfl rfl (by decide) ?_
            rw [hV.v5]
            simp [execOp, go_sem, e41, yn]
          · cases ho
            have e1 := hF.old_is 1 (by rfl) rfl
            refine SJ.quiet hsz hC hi hF hV hM (Slots.of (by rfl)) rfl rfl (by decide) ?_
            rw [hV.v6]
            simp [execOp, go_sem, e1]
          · cases ho
            have e10 := hF.old_is 10 (by rfl) rfl
            refine SJ.quiet hsz hC hi hF hV hM (Slots.of (by rfl)) rfl rfl (by decide) ?_
            rw [hV.v7]
            simp [execOp, go_sem, e10]
          · cases ho
            have e43 := hF.up 6 43 rfl (hdeps ⟨6, .data⟩ (by simp) rfl)
            rw [hV.v6] at e43
            have e44 := hF.up 7 44 rfl (hdeps ⟨7, .data⟩ (by simp) rfl)
            rw [hV.v7] at e44
            refine SJ.quiet hsz hC hi hF hV hM (Slots.of (by rfl)) rfl rfl (by decide) ?_
            rw [hV.v8]
            simp [execOp, go_sem, e43, e44, hj0, hjtz]
          · cases ho
            have l16 : listed.getD 16 false = false := by
              cases hh : listed.getD 16 false
              · rfl
              · have y0 := hC 16 _ rfl hh ⟨9, .phase⟩ (by simp) rfl; rw [hl1] at y0; cases y0
            obtain ⟨y0, y1, y2, y3⟩ := HCT.out v ((hM.far (g := gt) hgtz (H.out.row.ne (by omega)) (.inr l16)).trans (H.out.below.block gt hgt))
            have e45 := hF.up 8 45 rfl (hdeps ⟨8, .data⟩ (by simp) rfl)
            rw [hV.v8] at e45
            refine SJ.quiet hsz hC hi hF hV hM (Slots.of (by rfl)) rfl rfl (by decide) ?_
            rw [hV.v9]
            simp [execOp, go_sem, e45, y0, y1, y2, y3]
          · cases ho
            have e8 := hF.old_is 8 (by rfl) rfl
            refine SJ.quiet hsz hC hi hF hV hM (Slots.of (by rfl)) rfl rfl (by decide) ?_
            rw [hV.v10]
            simp [execOp, go_sem, e8]
          · cases ho
            have l12 : listed.getD 12 false = false := by
              cases hh : listed.getD 12 false
              · rfl
              · have y0 := hC 12 _ rfl hh ⟨11, .data⟩ (by simp) rfl; rw [hl1] at y0; cases y0
            have l13 : listed.getD 13 false = false := by
              cases hh : listed.getD 13 false
              · rfl
              · have y0 := hC 13 _ rfl hh ⟨12, .data⟩ (by simp) rfl; have y1 := hC 12 _ rfl y0 ⟨11, .data⟩ (by simp) rfl; rw [hl1] at y1; cases y1
            have l14 : listed.getD 14 false = false := by
              cases hh : listed.getD 14 false
              · rfl
              · have y0 := hC 14 _ rfl hh ⟨11, .chain⟩ (by simp) rfl; rw [hl1] at y0; cases y0
            have l16 : listed.getD 16 false = false := by
              cases hh : listed.getD 16 false
              · rfl
              · have y0 := hC 16 _ rfl hh ⟨11, .phase⟩ (by simp) rfl; rw [hl1] at y0; cases y0
            have e46 := hF.up 9 46 rfl (hdeps ⟨9, .data⟩ (by simp) rfl)
            rw [hV.v9] at e46
            have e47 := hF.up 10 47 rfl (hdeps ⟨10, .data⟩ (by simp) rfl)
            rw [hV.v10] at e47
            rw [hl1, l13, l14, l16] at hM
            have hbv := Below.of_drew hM.below
            have CT := Tree_any 5 (by decide) (types.getD j default) rc names (some ⟨gn, on, none⟩) nc v (HRV.out.later (H.out.below.trans (hbv.mono (by omega)))) (HN1.out.keep (fun g hg => by have := hbv.size; omega) (fun g hg => (hbv.block g (by have := hg.2; omega)).trans (H.out.kp.blk g hg.2 (by have := hg.1; omega)))) (by omega)
            refine wpOp_call (f := 22) (args := #[.agg #[.int .i64 rc.k, .int .i64 rc.n, .slice rc.an rc.ln rc.cn, .slice rc.ak rc.lk rc.ck], .int .i64 5, .slice (some ⟨gn, on, none⟩) names.length nc]) rfl rfl (by simp [execOp, go_sem, e46, e47]) CT ?_
            rintro e w' ⟨yc, rfl, hk, hb⟩
            refine ⟨_, rfl, ?_⟩
            obtain ⟨vals', hvals⟩ : ∃ vals' : Nat → Value, vals' = fun q => if q = 11 then (Value.agg #[.int .i64 yc.k, .string yc.n, .slice yc.an yc.ln yc.cn, .slice yc.ak yc.lk yc.ck]) else if q = 12 then (Value.agg #[.string ⟨(names.getD j []).toArray⟩, .int .i64 yc.k, .string yc.n, .slice yc.an yc.ln yc.cn, .slice yc.ak yc.lk yc.ck]) else vals q := ⟨_, rfl⟩
            have hF' : Fr _ _ vals' listed b := hF.congr (fun i h => by rw [hvals]; exact (if_neg (by rintro rfl; rw [hl1] at h; cases h)).trans (if_neg (by rintro rfl; rw [l12] at h; cases h)))
            have hV' : SV (w.heap.size + 2) (.slice xa us.length xk) (.slice (some ⟨gn, on, none⟩) names.length nc) (.slice (some ⟨gt, ot, none⟩) types.length c1) j gn (on + j) gt (ot + j * 4) (names.getD j []) rc yc vals' := by rw [hvals]; exact ⟨hV.v0, hV.v1, hV.v2, hV.v3, hV.v4, hV.v5, hV.v6, hV.v7, hV.v8, hV.v9, hV.v10, rfl, rfl, hV.v15⟩
            have hn : vals' 11 = .agg #[.int .i64 yc.k, .string yc.n, .slice yc.an yc.ln yc.cn, .slice yc.ak yc.lk yc.ck] := by rw [hvals]; rfl
            refine ⟨by simpa using hsz, hC.put hi, vals', yc, hn ▸ hF'.put (Slots.of (by rfl)) hsz rfl, hV', ?_⟩
            rw [getD_setE (i := 11) (by simp [hsz]), getD_setN (show 11 ≠ 13 by decide), getD_setN (show 11 ≠ 14 by decide), getD_setN (show 11 ≠ 16 by decide), l13, l14, l16]
            exact hM.called hb hk
          · cases ho
            have e42 := hF.up 5 42 rfl (hdeps ⟨5, .data⟩ (by simp) rfl)
            rw [hV.v5] at e42
            have e48 := hF.up 11 48 rfl (hdeps ⟨11, .data⟩ (by simp) rfl)
            rw [hV.v11] at e48
            refine SJ.quiet hsz hC hi hF hV hM (Slots.of (by rfl)) rfl rfl (by decide) ?_
            rw [hV.v12]
            simp [execOp, go_sem, e42, e48]
          · cases ho
            have u11_0 := hdeps ⟨12, .data⟩ (by simp) rfl
            have l11 := hC 12 _ rfl u11_0 ⟨11, .data⟩ (by simp) rfl
            have l14 : listed.getD 14 false = false := by
              cases hh : listed.getD 14 false
              · rfl
              · have y0 := hC 14 _ rfl hh ⟨13, .data⟩ (by simp) rfl; rw [hl1] at y0; cases y0
            have l16 : listed.getD 16 false = false := by
              cases hh : listed.getD 16 false
              · rfl
              · have y0 := hC 16 _ rfl hh ⟨13, .phase⟩ (by simp) rfl; rw [hl1] at y0; cases y0
            have e49 := hF.up 12 49 rfl (hdeps ⟨12, .data⟩ (by simp) rfl)
            rw [hV.v12] at e49
            rw [l11, hl1, l14, l16] at hM
            obtain ⟨vals', hvals⟩ : ∃ vals' : Nat → Value, vals' = fun q => if q = 13 then (Value.slice (some ⟨v.heap.size, 0, none⟩) 1 1) else vals q := ⟨_, rfl⟩
            have hF' : Fr _ _ vals' listed b := hF.congr (fun i h => by rw [hvals]; exact (if_neg (by rintro rfl; rw [hl1] at h; cases h)))
            have hV' : SV (w.heap.size + 2) (.slice xa us.length xk) (.slice (some ⟨gn, on, none⟩) names.length nc) (.slice (some ⟨gt, ot, none⟩) types.length c1) j gn (on + j) gt (ot + j * 4) (names.getD j []) rc xc vals' := by rw [hvals]; exact ⟨hV.v0, hV.v1, hV.v2, hV.v3, hV.v4, hV.v5, hV.v6, hV.v7, hV.v8, hV.v9, hV.v10, hV.v11, hV.v12, hV.v15⟩
            have hn : vals' 13 = .slice (some ⟨v.heap.size, 0, none⟩) 1 1 := by rw [hvals]; rfl
            refine wpOp_run (w' := v.alloc (.cells (encZ ((names.getD j []), xc)).toArray 44)) (v := vals' 13) rfl rfl ?_ ⟨by simpa using hsz, hC.put hi, vals', xc, hF'.put (Slots.of (by rfl)) hsz rfl, hV', ?_⟩
            · rw [hn]
              simp [execOp, go_sem, e49, encZ, str]
            · rw [getD_setE (i := 13) (by simp [hsz]), getD_setN (show 13 ≠ 11 by decide), getD_setN (show 13 ≠ 14 by decide), getD_setN (show 13 ≠ 16 by decide), l11, l14, l16]
              rw [hn]
              exact hM.laid
          · cases ho
            have l11 := hdeps ⟨11, .chain⟩ (by simp) rfl
            have l13 := hdeps ⟨13, .data⟩ (by simp) rfl
            have l16 : listed.getD 16 false = false := by
              cases hh : listed.getD 16 false
              · rfl
              · have y0 := hC 16 _ rfl hh ⟨14, .data⟩ (by simp) rfl; rw [hl1] at y0; cases y0
            have d1 := hdeps ⟨1, .data⟩ (by simp) rfl
            rw [l11, l13, hl1, l16] at hM
            obtain ⟨v0, h0, h2, rfl, hbs⟩ := hM.bs_at
            have h0' := Below.of_drew h0
            have h0z := h0'.size
            refine wpOp_wp rfl rfl (Sh.wp_append_fresh (.tmp 38) (.tmp 50) 26 rfl wc.heap.size 44 im (.agg #[.string ⟨#[]⟩, .int .i64 0, .string ⟨#[]⟩, .slice none 0 0, .slice none 0 0]) 5 88 Try.underlying26 HIm.out HJm.out HKm.out HLm.out rfl (by decide) (.slice xa us.length xk) us.length (us.flatMap encZ) ((hF.eval (i := 1) rfl d1).trans hV.v1) ((H.out.row.below h0').alloc _).own ⟨v0.heap.size, 0, none⟩ 1 1 (encZ ((names.getD j []), xc)) ((hF.eval (i := 13) rfl l13).trans hbs) rfl (cells_newZ v0 (encZ ((names.getD j []), xc)) 44) (one5 (n := (names.getD j []))) (by have := HUL.out; unfold maxLen; omega) (by have := HUL.out; omega) (by simp; omega) ?_)
            intro y w3 hown hgr hfr
            obtain ⟨vals', hvals⟩ : ∃ vals' : Nat → Value, vals' = fun q => if q = 14 then y else vals q := ⟨_, rfl⟩
            have hF' : Fr _ _ vals' listed b := hF.congr (fun i h => by rw [hvals]; exact (if_neg (by rintro rfl; rw [hl1] at h; cases h)))
            have hV' : SV (w.heap.size + 2) (.slice xa us.length xk) (.slice (some ⟨gn, on, none⟩) names.length nc) (.slice (some ⟨gt, ot, none⟩) types.length c1) j gn (on + j) gt (ot + j * 4) (names.getD j []) rc xc vals' := by rw [hvals]; exact ⟨hV.v0, hV.v1, hV.v2, hV.v3, hV.v4, hV.v5, hV.v6, hV.v7, hV.v8, hV.v9, hV.v10, hV.v11, hV.v12, hV.v15⟩
            have hn : vals' 14 = y := by rw [hvals]; rfl
            have hn3 : vals' 13 = vals 13 := by rw [hvals]; rfl
            refine ⟨by simpa using hsz, hC.put hi, vals', xc, hn ▸ hF'.put (Slots.of (by rfl)) hsz rfl, hV', ?_⟩
            rw [getD_setE (i := 14) (by simp [hsz]), getD_setN (show 14 ≠ 11 by decide), getD_setN (show 14 ≠ 13 by decide), getD_setN (show 14 ≠ 16 by decide), l11, l13, l16]
            rw [hn, hn3]
            exact AM.appended h0 h2 ⟨hown, hgr, hfr⟩
          · cases ho
            have e7 := hF.old_is 7 (by rfl) rfl
            refine SJ.quiet hsz hC hi hF hV hM (Slots.of (by rfl)) rfl rfl (by decide) ?_
            rw [hV.v15]
            simp [execOp, go_sem, e7]
          · cases ho
            have l11 := hdeps ⟨11, .phase⟩ (by simp) rfl
            have l13 := hdeps ⟨13, .phase⟩ (by simp) rfl
            have l14 := hdeps ⟨14, .data⟩ (by simp) rfl
            have e52 := hF.up 15 52 rfl (hdeps ⟨15, .data⟩ (by simp) rfl)
            rw [hV.v15] at e52
            have e51 := hF.up 14 51 rfl (hdeps ⟨14, .data⟩ (by simp) rfl)
            have hs := (hM.far (g := w.heap.size + 2) hsz0 (H.out.row.ne (by omega)) (.inr hl1)).trans H.out.sat
            obtain ⟨⟨y0, y1, y2, y3, y4, y5⟩, ⟨z0, z1, z2, z3, z4, z5⟩⟩ := six_blkF hs
            rw [l11, l13, l14, hl1] at hM
            obtain ⟨va, vc, hap⟩ := hM.row_at
            rw [hap] at e51
            refine wpOp_wp rfl rfl ?_
            unfold Oper.wp Oper.upon
            simp [execOp, go_sem, e52, e51, y4, z4]
            refine ⟨by simpa using hsz, hC.put hi, vals, xc, hF.put (i := 16) (Slots.of (by rfl)) hsz rfl, hV, ?_⟩
            rw [getD_setE (i := 16) (by simp [hsz]), getD_setN (show 16 ≠ 11 by decide), getD_setN (show 16 ≠ 13 by decide), getD_setN (show 16 ≠ 14 by decide), l11, l13, l14]
            rw [← hap]
            exact hM.stored
        · intro listed b v hJ hr
          obtain ⟨hsz, hC, vals, xc, hF, hV, hM⟩ := hJ
          have hall := all_upB (by rfl) hsz hr
          have hb : b = putAll _ vals _ 17 := hF.done (Slots.of (by rfl)) hall
          rw [hall 11 (by decide), hall 13 (by decide), hall 14 (by decide), hall 16 (by decide)] at hM
          obtain ⟨v0, w3, h0, h2, hp, rfl⟩ := hM.done
          obtain ⟨va, vc, hap⟩ := own_sliceZ hp.own
          subst hb
          simp only [putAll, hV.v0, hV.v1, hV.v2, hV.v3, hV.v4, hV.v5, hV.v6, hV.v7, hV.v8, hV.v9, hV.v10, hV.v11, hV.v12, hV.v15, hap]
          simp [dstOf]
          have h0' := Below.of_drew h0
          have hz3 : w3.heap.size ≥ v0.heap.size := by have := hp.grown.size; simp at this; omega
          have h0z := h0'.size
          have hS3 := ((AM.appended (bs := vals 13) (sb := w.heap.size + 2) (off := 4) (enc := fun c => encZ ((names.getD j []), c)) h0 h2 hp).far (g := w.heap.size + 2) hsz0 (H.out.row.ne (by omega)) (.inr rfl)).trans H.out.sat
          have hg3 := (GRow.snoc (H.out.row.below h0') (h2.free (X := ((w.heap.size + 2) :: (w.heap.size + 1) :: List.range w.heap.size)) (vs := [.slice xa us.length xk]) (fun x hx => by simp at hx ⊢; omega) (fun v hv g e => by rw [List.mem_singleton.1 hv] at e; exact (H.out.row.own.lt g e).2)) hp.own hp.grown hp.fresh).1
          have hO : Only (w.heap.size + 2) w3 (w3.setCell ⟨w.heap.size + 2, 4, none⟩ (vals 14)) := (Only.refl _ _).setCell _ _
          have e1 := set_six4 hS3 (vals 14)
          have hb3 := hp.below (H.out.below.trans (h0'.mono (by omega))) (fun g e => by have := (H.out.row.own.lt g e).1; omega) (by omega)
          have e4 := hb3.trans (hO.below (by omega) hb3.size)
          have e5 := hg3.only (b := w.heap.size + 2) (by simp) (fun x hx => by simp at hx; omega) hO
          have e6 := (hp.kp (H.out.kp.below h0') (fun g e => (H.out.row.own.lt g e).1)).only hO
          rw [← ntR_succ] at e5
          rw [hap] at e1 e4 e5 e6
          have E1 := Lib.hid e1; have E4 := Lib.hid e4; have E5 := Lib.hid e5; have E6 := Lib.hid e6
          clear e1 e4 e5 e6 hO hb3 hg3 hS3 h0 h2 hp hM hF hV hC hall hr hsz
          go_wp2
          go_roundw
          case rel => exact ⟨j + 1, _, _, by go_num, by omega, E1.out, E5.out, E4.out, E6.out⟩
          case measure => simp [intOf]; omega
      · have hje : j = names.length := by omega
        subst hje
        have CT : Calls Try.prog 22 #[.agg #[.int .i64 c.k, .int .i64 c.n, .slice c.an c.ln c.cn, .slice c.ak c.lk c.ck], .int .i64 6, .slice na names.length nc] wr (TreeP (treeR names 6 main) wr) := Tree_any 6 (by decide) main c names na nc wr (HM.out.later H.out.below) (HN1.out.keep (fun g hg => by have := hg.2; omega) (fun g hg => H.out.kp.blk g hg.2 (by have := hg.1; omega))) (by omega)
        have HCT := Lib.hid CT
        have hr2 := (H.out.kp.blk w.heap.size (by omega) (by omega)).trans HR1.out
        obtain ⟨⟨p0, p1, p2, p3⟩, _⟩ := four_blk hr2
        clear CT hr2
        go_upto_block 4 with (go_at_call 22; (with_reducible refine HCT.out.mono ?_); rintro e w4 ⟨mc, rfl, hk, hb4⟩; have hs4 := (hb4.block _ (by omega)).trans H.out.sat; have hz4 := hb4.size; obtain ⟨⟨t0, t1, t2, t3, t4, t5⟩, ⟨f0, f1, f2, f3, f4, f5⟩⟩ := six_blkF hs4; have HK := Lib.hid hk; have HB4 := Lib.hid hb4; have HS4 := Lib.hid hs4; clear hk hb4 hs4)
        obtain ⟨W3, hW3⟩ : ∃ W3, W3 = put4 w4 (w.heap.size + 2) mc := ⟨_, rfl⟩
        have hO3 : Only (w.heap.size + 2) w4 W3 := by rw [hW3]; exact put4_only _ _ _
        have hs3 : W3.heap[w.heap.size + 2]? = some (.cells #[.int .i64 mc.k, .string mc.n, .slice mc.an mc.ln mc.cn, .slice mc.ak mc.lk mc.ck, .slice xa us.length xk, .slice none 0 0] 29 (0, 0)) := by rw [hW3]; exact put4_six HS4.out mc
        have hb3 : Below w.heap.size w W3 := (H.out.below.trans (HB4.out.mono (by omega))).trans (hO3.below (by omega) (by omega))
        have hk3 : Kp (w.heap.size + 2) wc W3 := (H.out.kp.below HB4.out).only hO3
        have hg3 := (H.out.row.below HB4.out).only (b := w.heap.size + 2) (by simp) (fun x hx => by simp at hx; omega) hO3
        have hm3 : TzV W3 (New wr.heap.size W3) (treeR names 6 main) mc := HK.out.past (Nat.le_refl _) hO3 (by omega)
        have hz3 : W3.heap.size = w4.heap.size := by rw [hW3]; exact put4_size _ _ _
        have hv1 := fun g e => H.out.row.own.lt g e
        obtain ⟨X3, hX3⟩ : ∃ X3, X3 = (w.heap.size + 2) :: (w.heap.size + 1) :: (blkL (.slice xa us.length xk) ++ List.range w.heap.size) := ⟨_, rfl⟩
        have hx3 : ∀ x ∈ X3, x < W3.heap.size := by
          intro x hx
          rw [hX3] at hx
          rcases List.mem_cons.1 hx with rfl | hx
          · omega
          · rcases List.mem_cons.1 hx with rfl | hx
            · omega
            · rcases List.mem_append.1 hx with hx | hx
              · have := (hg3.own.lt x (mem_blkL.1 hx)).2; omega
              · have := List.mem_range.1 hx; omega
        have hn3 : RowV W3 (fun g => New (w.heap.size + 3) W3 g) na 1 (names.map fun n => [str n]) := HN1.out.keep (fun g hg => ⟨hg.1, by have := hg.2; have := hk3.size; omega⟩) (fun g hg => hk3.blk g hg.2 (by have := hg.1; omega))
        have ho3 := (hk3.blk (w.heap.size + 1) (by omega) (by omega)).trans HO1.out
        unfold put4 at hW3
        rw [← hW3]
        have HS3 := Lib.hid hs3; have HB3 := Lib.hid hb3; have HG3 := Lib.hid hg3; have HM3 := Lib.hid hm3; have HX3 := Lib.hid hx3; have HN3 := Lib.hid hn3; have HXX := Lib.hid hX3; have HV1 := Lib.hid hv1; have HO3 := Lib.hid ho3
        have hWz : w.heap.size + 2 < W3.heap.size := by omega
        have hWr : wr.heap.size ≤ W3.heap.size := by omega
        clear hs3 hb3 hg3 hm3 hx3 hn3 hW3 hO3 hk3 hX3 hv1 ho3 t0 t1 t2 t3 t4 t5 f0 f1 f2 f3 f4 f5 s0 s1 s2 s3 s4 s5 g0 g1 g2 g3 g4 g5 p0 p1 p2 p3
        generalize hwrz : wr.heap.size = rz at *
        go_cut [11] (fun s11 wx => ∃ v2 gs, L3 w W3 X3 names sigs mc (.slice xa us.length xk) s11 wx (min sigs.length 4) v2 gs)
        case first =>
          go_wp2_with fail
          go_loopw [11] (fun v11 wr => ∃ j v gs, L3 w W3 X3 names sigs mc (.slice xa us.length xk) v11 wr j v gs) (fun v11 _ => 4 - (intOf v11).toNat)
          case atStart => exact ⟨0, .slice none 0 0, [], rfl, ⟨Nat.zero_le _, Nat.zero_le _⟩, HS3.out, SRow.start _ _ _, HB3.out, Kp.refl _ _⟩
          case round =>
            clear H
            obtain ⟨j, v2, gs, h⟩ := hrel
            obtain rfl := h.slot
            obtain ⟨hle1, hle2⟩ := h.le
            have hkz3 := h.kp.size
            obtain ⟨sa, sk, hv2⟩ := own_sliceZ h.row.own
            subst hv2
            have H := Lib.hid h
            clear h
            by_cases hgo : j < sigs.length ∧ j < 4
            · obtain ⟨hjs, hj4⟩ := hgo
              have hjz : (j : Int) < (sigs.length : Int) := by omega
              have hj4z : (j : Int) < 4 := by omega
              have hj0 : (0 : Int) ≤ (j : Int) := by omega
              obtain ⟨gt, ot, rc, rfl, hgt, hrv, hct⟩ := row4_at HG.out j hjs
              have hgtz : gt < wr.heap.size := by omega
              have hsg := sgsR_succ names sigs j
              unfold sgR at hsg
              generalize sigs.getD j default = rj at *
              have hrv0 := hrv
              cases hrv with
              | mk kd kn kns kks kan kcn kak kck kus hk1 hk2 hki hkln hklk hkl hka hkb hku =>
                have HSG := Lib.hid hsg; have HRV := Lib.hid hrv0; have HCT := Lib.hid hct; have HKK := Lib.hid (RwsV.mk hkl hkb hku)
                clear hsg hrv0 hct hkl hkb hku hka hki hk1 hk2
                generalize hrj : Rw.mk kd kn kns kks = rj at *
                have HRJ := Lib.hid hrj
                clear hrj
                go_wp2_with fail
                refine wp_region_by (FJ wr.drew (.slice na names.length nc) (.slice (some ⟨gt, ot, none⟩) sigs.length c2) j gt (ot + j * 4) (fn4.getD j []) ⟨kd, kn, kan, kns.length, kcn, kak, kks.length, kck⟩ (treeR names 4 rj)) (by kernel_rfl) ?_ ?_ ?_
                · exact ⟨by simp, Closed.start _, fun i => match i with
                    | 0 => .slice (some ⟨0, 0, none⟩) 4 4
                    | 1 => .int .i64 j
                    | 2 => .pointer (some ⟨0, j, none⟩)
                    | 3 => .string ⟨(fn4.getD j []).toArray⟩
                    | 4 => .slice (some ⟨gt, ot, none⟩) sigs.length c2
                    | 5 => .int .i64 j
                    | 6 => .pointer (some ⟨gt, ot + j * 4, none⟩)
                    | 7 => .agg #[.int .i64 kd, .int .i64 kn, .slice kan kns.length kcn, .slice kak kks.length kck]
                    | 8 => .slice na names.length nc
                    | 9 => (.agg #[.int .i64 0, .string ⟨#[]⟩, .slice none 0 0, .slice none 0 0])
                    | 10 => .agg #[.string ⟨(fn4.getD j []).toArray⟩, .slice none 0 0, .int .i64 0, .string ⟨#[]⟩, .slice none 0 0, .slice none 0 0]
                    | 11 => .pointer (some ⟨0, 0, none⟩)
                    | _ => undef, 0, 0, ⟨0, ⟨#[]⟩, none, 0, 0, none, 0, 0⟩, Fr.start _ _ _, ⟨rfl, rfl, rfl, rfl, rfl, rfl, rfl, rfl, rfl, rfl, rfl, rfl⟩, by simp only [rep_getD]; exact FM.start⟩
                · intro listed b v q hJ hi
                  obtain ⟨hsz, hC, vals, lb, fb, xc, hF, hV, hM⟩ := hJ
                  obtain ⟨hl1, hiN⟩ := not_up hsz hi
                  obtain ⟨_, o, ho, hdeps⟩ := mem_ready.1 hi
                  have hiN : q < 13 := hiN
                  obtain rfl | rfl | rfl | rfl | rfl | rfl | rfl | rfl | rfl | rfl | rfl | rfl | rfl : q = 0 ∨ q = 1 ∨ q = 2 ∨ q = 3 ∨ q = 4 ∨ q = 5 ∨ q = 6 ∨ q = 7 ∨ q = 8 ∨ q = 9 ∨ q = 10 ∨ q = 11 ∨ q = 12 := by omega
                  · cases ho
                    have l2 : listed.getD 2 false = false := by
                      cases hh : listed.getD 2 false
                      · rfl
                      · have y0 := hC 2 _ rfl hh ⟨0, .data⟩ (by simp) rfl; rw [hl1] at y0; cases y0
                    have l12 : listed.getD 12 false = false := by
                      cases hh : listed.getD 12 false
                      · rfl
                      · have y0 := hC 12 _ rfl hh ⟨0, .phase⟩ (by simp) rfl; rw [hl1] at y0; cases y0
                    rw [hl1, l12] at hM
                    obtain ⟨vals', hvals⟩ : ∃ vals' : Nat → Value, vals' = fun q => if q = 0 then (Value.slice (some ⟨v.heap.size, 0, none⟩) 4 4) else if q = 2 then (Value.pointer (some ⟨v.heap.size, j, none⟩)) else vals q := ⟨_, rfl⟩
                    have hF' : Fr _ _ vals' listed b := hF.congr (fun i h => by rw [hvals]; exact (if_neg (by rintro rfl; rw [hl1] at h; cases h)).trans (if_neg (by rintro rfl; rw [l2] at h; cases h)))
                    have hV' : FV (.slice na names.length nc) (.slice (some ⟨gt, ot, none⟩) sigs.length c2) j gt (ot + j * 4) (fn4.getD j []) ⟨kd, kn, kan, kns.length, kcn, kak, kks.length, kck⟩ v.heap.size fb xc vals' := by rw [hvals]; exact ⟨rfl, hV.v1, rfl, hV.v3, hV.v4, hV.v5, hV.v6, hV.v7, hV.v8, hV.v9, hV.v10, hV.v11⟩
                    have hn : vals' 0 = .slice (some ⟨v.heap.size, 0, none⟩) 4 4 := by rw [hvals]; rfl
                    refine wpOp_run (w' := v.alloc (.cells #[.string ⟨#[102, 97]⟩, .string ⟨#[102, 98]⟩, .string ⟨#[102, 99]⟩, .string ⟨#[102, 100]⟩] 9)) (v := vals' 0) rfl rfl ?_ ⟨by simpa using hsz, hC.put hi, vals', v.heap.size, fb, xc, hF'.put (Slots.of (by rfl)) hsz rfl, hV', ?_⟩
                    · rw [hn]
                      simp [execOp, go_sem]
                    · rw [getD_setE (i := 0) (by simp [hsz]), getD_setN (show 0 ≠ 9 by decide), getD_setN (show 0 ≠ 11 by decide), getD_setN (show 0 ≠ 12 by decide), l12]
                      exact hM.litted
                  · cases ho
                    have e11 := hF.old_is 11 (by rfl) rfl
                    refine FJ.quiet hsz hC hi hF hV hM (Slots.of (by rfl)) rfl rfl (by decide) ?_
                    rw [hV.v1]
                    simp [execOp, go_sem, e11]
                  · cases ho
                    have e67 := hF.up 0 67 rfl (hdeps ⟨0, .data⟩ (by simp) rfl)
                    rw [hV.v0] at e67
                    have e68 := hF.up 1 68 rfl (hdeps ⟨1, .data⟩ (by simp) rfl)
                    rw [hV.v1] at e68
                    refine FJ.quiet hsz hC hi hF hV hM (Slots.of (by rfl)) rfl rfl (by decide) ?_
                    rw [hV.v2]
                    simp [execOp, go_sem, e67, e68, hj0, hj4z]
                  · cases ho
                    have l12 : listed.getD 12 false = false := by
                      cases hh : listed.getD 12 false
                      · rfl
                      · have y0 := hC 12 _ rfl hh ⟨3, .phase⟩ (by simp) rfl; rw [hl1] at y0; cases y0
                    have u0_0 := hdeps ⟨2, .data⟩ (by simp) rfl
                    have l0 := hC 2 _ rfl u0_0 ⟨0, .data⟩ (by simp) rfl
                    obtain y0 := lit_at (hM.lit l0 l12) (nm := (fn4.getD j [])) (fn4_at j hj4)
                    have e69 := hF.up 2 69 rfl (hdeps ⟨2, .data⟩ (by simp) rfl)
                    rw [hV.v2] at e69
                    refine FJ.quiet hsz hC hi hF hV hM (Slots.of (by rfl)) rfl rfl (by decide) ?_
                    rw [hV.v3]
                    simp [execOp, go_sem, e69, y0]
                  · cases ho
                    have e2 := hF.old_is 2 (by rfl) rfl
                    refine FJ.quiet hsz hC hi hF hV hM (Slots.of (by rfl)) rfl rfl (by decide) ?_
                    rw [hV.v4]
                    simp [execOp, go_sem, e2]
                  · cases ho
                    have e11 := hF.old_is 11 (by rfl) rfl
                    refine FJ.quiet hsz hC hi hF hV hM (Slots.of (by rfl)) rfl rfl (by decide) ?_
                    rw [hV.v5]
                    simp [execOp, go_sem, e11]
                  · cases ho
                    have e71 := hF.up 4 71 rfl (hdeps ⟨4, .data⟩ (by simp) rfl)
                    rw [hV.v4] at e71
                    have e72 := hF.up 5 72 rfl (hdeps ⟨5, .data⟩ (by simp) rfl)
                    rw [hV.v5] at e72
                    refine FJ.quiet hsz hC hi hF hV hM (Slots.of (by rfl)) rfl rfl (by decide) ?_
                    rw [hV.v6]
                    simp [execOp, go_sem, e71, e72, hj0, hjz]
                  · cases ho
                    obtain ⟨y0, y1, y2, y3⟩ := HCT.out v (((Below.of_drew hM.below).block gt hgtz).trans (H.out.below.block gt hgt))
                    have e73 := hF.up 6 73 rfl (hdeps ⟨6, .data⟩ (by simp) rfl)
                    rw [hV.v6] at e73
                    refine FJ.quiet hsz hC hi hF hV hM (Slots.of (by rfl)) rfl rfl (by decide) ?_
                    rw [hV.v7]
                    simp [execOp, go_sem, e73, y0, y1, y2, y3]
                  · cases ho
                    have e8 := hF.old_is 8 (by rfl) rfl
                    refine FJ.quiet hsz hC hi hF hV hM (Slots.of (by rfl)) rfl rfl (by decide) ?_
                    rw [hV.v8]
                    simp [execOp, go_sem, e8]
                  · cases ho
                    have l10 : listed.getD 10 false = false := by
                      cases hh : listed.getD 10 false
                      · rfl
                      · have y0 := hC 10 _ rfl hh ⟨9, .data⟩ (by simp) rfl; rw [hl1] at y0; cases y0
                    have l12 : listed.getD 12 false = false := by
                      cases hh : listed.getD 12 false
                      · rfl
                      · have y0 := hC 12 _ rfl hh ⟨9, .chain⟩ (by simp) rfl; rw [hl1] at y0; cases y0
                    have e74 := hF.up 7 74 rfl (hdeps ⟨7, .data⟩ (by simp) rfl)
                    rw [hV.v7] at e74
                    have e75 := hF.up 8 75 rfl (hdeps ⟨8, .data⟩ (by simp) rfl)
                    rw [hV.v8] at e75
                    rw [hl1, l12] at hM
                    have hbv := Below.of_drew hM.below
                    have CT : Calls Try.prog 22 #[.agg #[.int .i64 kd, .int .i64 kn, .slice kan kns.length kcn, .slice kak kks.length kck], .int .i64 4, .slice na names.length nc] v (TreeP (treeR names 4 rj) v) := Tree_any 4 (by decide) rj ⟨kd, kn, kan, kns.length, kcn, kak, kks.length, kck⟩ names na nc v (HRV.out.later (H.out.below.trans (hbv.mono (by omega)))) (HN3.out.keep (fun g hg => by have := hbv.size; omega) (fun g hg => (hbv.block g (by have := hg.2; omega)).trans (H.out.kp.blk g hg.2 (by have := hg.1; omega)))) (by omega)
                    refine wpOp_call (f := 22) (args := #[.agg #[.int .i64 kd, .int .i64 kn, .slice kan kns.length kcn, .slice kak kks.length kck], .int .i64 4, .slice na names.length nc]) rfl rfl (by simp [execOp, go_sem, e74, e75]) CT ?_
                    rintro e w' ⟨yc, rfl, hk, hb⟩
                    refine ⟨_, rfl, ?_⟩
                    obtain ⟨vals', hvals⟩ : ∃ vals' : Nat → Value, vals' = fun q => if q = 9 then (Value.agg #[.int .i64 yc.k, .string yc.n, .slice yc.an yc.ln yc.cn, .slice yc.ak yc.lk yc.ck]) else if q = 10 then (Value.agg #[.string ⟨(fn4.getD j []).toArray⟩, .slice none 0 0, .int .i64 yc.k, .string yc.n, .slice yc.an yc.ln yc.cn, .slice yc.ak yc.lk yc.ck]) else vals q := ⟨_, rfl⟩
                    have hF' : Fr _ _ vals' listed b := hF.congr (fun i h => by rw [hvals]; exact (if_neg (by rintro rfl; rw [hl1] at h; cases h)).trans (if_neg (by rintro rfl; rw [l10] at h; cases h)))
                    have hV' : FV (.slice na names.length nc) (.slice (some ⟨gt, ot, none⟩) sigs.length c2) j gt (ot + j * 4) (fn4.getD j []) ⟨kd, kn, kan, kns.length, kcn, kak, kks.length, kck⟩ lb fb yc vals' := by rw [hvals]; exact ⟨hV.v0, hV.v1, hV.v2, hV.v3, hV.v4, hV.v5, hV.v6, hV.v7, hV.v8, rfl, rfl, hV.v11⟩
                    have hn : vals' 9 = .agg #[.int .i64 yc.k, .string yc.n, .slice yc.an yc.ln yc.cn, .slice yc.ak yc.lk yc.ck] := by rw [hvals]; rfl
                    refine ⟨by simpa using hsz, hC.put hi, vals', lb, fb, yc, hn ▸ hF'.put (Slots.of (by rfl)) hsz rfl, hV', ?_⟩
                    rw [getD_setE (i := 9) (by simp [hsz]), getD_setN (show 9 ≠ 0 by decide), getD_setN (show 9 ≠ 11 by decide), getD_setN (show 9 ≠ 12 by decide), l12]
                    exact hM.called hb hk
                  · cases ho
                    have e70 := hF.up 3 70 rfl (hdeps ⟨3, .data⟩ (by simp) rfl)
                    rw [hV.v3] at e70
                    have e76 := hF.up 9 76 rfl (hdeps ⟨9, .data⟩ (by simp) rfl)
                    rw [hV.v9] at e76
                    refine FJ.quiet hsz hC hi hF hV hM (Slots.of (by rfl)) rfl rfl (by decide) ?_
                    rw [hV.v10]
                    simp [execOp, go_sem, e70, e76]
                  · cases ho
                    have l12 : listed.getD 12 false = false := by
                      cases hh : listed.getD 12 false
                      · rfl
                      · have y0 := hC 12 _ rfl hh ⟨11, .data⟩ (by simp) rfl; rw [hl1] at y0; cases y0
                    rw [hl1, l12] at hM
                    obtain ⟨vals', hvals⟩ : ∃ vals' : Nat → Value, vals' = fun q => if q = 11 then (Value.pointer (some ⟨v.heap.size, 0, none⟩)) else vals q := ⟨_, rfl⟩
                    have hF' : Fr _ _ vals' listed b := hF.congr (fun i h => by rw [hvals]; exact (if_neg (by rintro rfl; rw [hl1] at h; cases h)))
                    have hV' : FV (.slice na names.length nc) (.slice (some ⟨gt, ot, none⟩) sigs.length c2) j gt (ot + j * 4) (fn4.getD j []) ⟨kd, kn, kan, kns.length, kcn, kak, kks.length, kck⟩ lb v.heap.size xc vals' := by rw [hvals]; exact ⟨hV.v0, hV.v1, hV.v2, hV.v3, hV.v4, hV.v5, hV.v6, hV.v7, hV.v8, hV.v9, hV.v10, rfl⟩
                    have hn : vals' 11 = .pointer (some ⟨v.heap.size, 0, none⟩) := by rw [hvals]; rfl
                    refine wpOp_run (w' := v.alloc (.cells #[.string ⟨#[]⟩, .slice none 0 0, .int .i64 0, .string ⟨#[]⟩, .slice none 0 0, .slice none 0 0] 46)) (v := vals' 11) rfl rfl ?_ ⟨by simpa using hsz, hC.put hi, vals', lb, v.heap.size, xc, hF'.put (Slots.of (by rfl)) hsz rfl, hV', ?_⟩
                    · rw [hn]
                      simp [execOp, go_sem]
                    · rw [getD_setE (i := 11) (by simp [hsz]), getD_setN (show 11 ≠ 0 by decide), getD_setN (show 11 ≠ 9 by decide), getD_setN (show 11 ≠ 12 by decide), l12]
                      exact hM.made
                  · cases ho
                    have l0 := hdeps ⟨0, .phase⟩ (by simp) rfl
                    have l9 := hdeps ⟨9, .chain⟩ (by simp) rfl
                    have l11 := hdeps ⟨11, .data⟩ (by simp) rfl
                    have e12 := hF.up 11 12 rfl (hdeps ⟨11, .data⟩ (by simp) rfl)
                    rw [hV.v11] at e12
                    have e77 := hF.up 10 77 rfl (hdeps ⟨10, .data⟩ (by simp) rfl)
                    rw [hV.v10] at e77
                    rw [l0, l9, l11, hl1] at hM
                    obtain ⟨⟨y0, y1, y2, y3, y4, y5⟩, ⟨z0, z1, z2, z3, z4, z5⟩⟩ := six_blkF (hM.fvar rfl).2
                    refine wpOp_wp rfl rfl ?_
                    unfold Oper.wp Oper.upon
                    simp [execOp, go_sem, e12, e77, y0, y1, y2, y3, y4, y5, z0, z1, z2, z3, z4, z5]
                    refine ⟨by simpa using hsz, hC.put hi, vals, lb, fb, xc, hF.put (i := 12) (Slots.of (by rfl)) hsz rfl, hV, ?_⟩
                    rw [getD_setE (i := 12) (by simp [hsz]), getD_setN (show 12 ≠ 0 by decide), getD_setN (show 12 ≠ 9 by decide), getD_setN (show 12 ≠ 11 by decide), l0, l9, l11]
                    have hq := hM.stored
                    unfold putS at hq
                    simpa using hq
                · intro listed b W4 hJ hr
                  obtain ⟨hsz, hC, vals, lb, fb, xc, hF, hV, hM⟩ := hJ
                  have hall := all_upB (by rfl) hsz hr
                  have hb : b = putAll _ vals _ 13 := hF.done (Slots.of (by rfl)) hall
                  rw [hall 0 (by decide), hall 9 (by decide), hall 11 (by decide), hall 12 (by decide)] at hM
                  subst hb
                  simp only [putAll, hV.v0, hV.v1, hV.v2, hV.v3, hV.v4, hV.v5, hV.v6, hV.v7, hV.v8, hV.v9, hV.v10, hV.v11]
                  simp [dstOf]
                  have hb4 := Below.of_drew hM.below
                  obtain ⟨hfb, hfat⟩ := hM.fvar rfl
                  have hfb : wr.heap.size ≤ fb := hfb
                  have hfz := (Array.getElem?_eq_some_iff.1 hfat).1
                  have HXT := Lib.hid (hM.tree rfl); have HFAT := Lib.hid hfat; have HBD := Lib.hid hb4
                  have hz4 := hb4.size
                  clear hM hF hV hC hall hr hsz hfat hb4
                  go_upto_block 6 with fail
                  go_cut [13] (fun s13 wx => ∃ pv us4, L4 W4 fb X3 (.slice sa gs.length sk) (fn4.getD j []) names kks xc s13 wx (min kks.length 3) pv us4)
                  case first =>
                    go_wp2_with fail
                    go_loopw [13] (fun v13 wr => ∃ k v us4, L4 W4 fb X3 (.slice sa gs.length sk) (fn4.getD j []) names kks xc v13 wr k v us4) (fun v13 _ => 3 - (intOf v13).toNat)
                    case atStart => exact ⟨0, .slice none 0 0, [], rfl, ⟨Nat.zero_le _, Nat.zero_le _⟩, HFAT.out, TRow.start _ _ _ _, Kp.refl _ _, Below.refl _ _⟩
                    case round =>
                      obtain ⟨k, pv, us4, h4⟩ := hrel
                      obtain rfl := h4.slot
                      obtain ⟨hkl1, hkl2⟩ := h4.le
                      have hkz4 := h4.kp.size
                      obtain ⟨pa, pk, hpv⟩ := own_sliceZ h4.row.own
                      subst hpv
                      have hgts := (h4.kp.blk gt (by omega) (by omega)).trans ((HBD.out.block gt hgtz).trans (H.out.below.block gt hgt))
                      obtain ⟨m0, m1, m2, m3⟩ := HCT.out _ hgts
                      have H4 := Lib.hid h4
                      clear h4
                      by_cases hgo4 : k < kks.length ∧ k < 3
                      · obtain ⟨hkk, hk3⟩ := hgo4
                        obtain ⟨gk, ok, rk, rfl, hgk, hrk, hck⟩ := row4_at HKK.out k hkk
                        have hgks := (H4.out.kp.blk gk (by omega) (by omega)).trans ((HBD.out.block gk (by omega)).trans (H.out.below.block gk hgk))
                        have hk0 : (0 : Int) ≤ (k : Int) := by omega
                        have hkz : (k : Int) < (kks.length : Int) := by omega
                        have hk3z : (k : Int) < 3 := by omega
                        have hul4 : us4.length = k := by rw [H4.out.row.len]; simp [parR]
                        have hfbr : fb < wr.heap.size := by omega
                        have hgtr : gt < wr.heap.size := by omega
                        have hgkr : gk < wr.heap.size := by omega
                        have hw4 : Below w.heap.size w wr := (H.out.below.trans (HBD.out.mono (by omega))).trans (H4.out.below.mono (by omega))
                        have hkn : ∀ g, w.heap.size + 3 ≤ g → g < W3.heap.size → wr.heap[g]? = W3.heap[g]? := fun g h1 h2 => (H4.out.kp.blk g (by omega) (by omega)).trans ((HBD.out.block g (by omega)).trans (H.out.kp.blk g h2 (by omega)))
                        have HCK := Lib.hid hck; have HRK := Lib.hid hrk; have HUL4 := Lib.hid hul4; have HW4 := Lib.hid hw4; have HKN := Lib.hid hkn
                        clear hck hrk hul4 hw4 hkn
                        go_wp2_with fail
                        refine wp_region_by (PJs wr.drew fb W4.heap.size (.slice pa us4.length pk) (.slice na names.length nc) (.slice (some ⟨gt, ot, none⟩) sigs.length c2) (.slice (some ⟨gk, ok, none⟩) kks.length kck) j k gt (ot + j * 4) gk (ok + k * 4) rk (treeR names 4 (kks.getD k default)) us4) (by kernel_rfl) ?_ ?_ ?_
                        · exact ⟨by simp, Closed.start _, fun i => match i with
                            | 0 => .pointer (some ⟨fb, 1, none⟩)
                            | 1 => .slice pa us4.length pk
                            | 2 => .slice (some ⟨gt, ot, none⟩) sigs.length c2
                            | 3 => .int .i64 j
                            | 4 => .pointer (some ⟨gt, ot + j * 4, none⟩)
                            | 5 => .pointer (some ⟨gt, ot + j * 4 + 3, none⟩)
                            | 6 => .slice (some ⟨gk, ok, none⟩) kks.length kck
                            | 7 => .int .i64 k
                            | 8 => .pointer (some ⟨gk, ok + k * 4, none⟩)
                            | 9 => .agg #[.int .i64 rk.k, .int .i64 rk.n, .slice rk.an rk.ln rk.cn, .slice rk.ak rk.lk rk.ck]
                            | 10 => .slice na names.length nc
                            | 11 => (.agg #[.int .i64 0, .string ⟨#[]⟩, .slice none 0 0, .slice none 0 0])
                            | 14 => .pointer (some ⟨fb, 1, none⟩)
                            | _ => undef, ⟨0, ⟨#[]⟩, none, 0, 0, none, 0, 0⟩, Fr.start _ _ _, ⟨rfl, rfl, rfl, rfl, rfl, rfl, rfl, rfl, rfl, rfl, rfl, rfl, rfl⟩, by simp only [rep_getD]; exact AM.start⟩
                        · intro listed b v q hJ hi
                          obtain ⟨hsz, hC, vals, xc, hF, hV, hM⟩ := hJ
                          obtain ⟨hl1, hiN⟩ := not_up hsz hi
                          obtain ⟨_, o, ho, hdeps⟩ := mem_ready.1 hi
                          have hiN : q < 16 := hiN
                          obtain rfl | rfl | rfl | rfl | rfl | rfl | rfl | rfl | rfl | rfl | rfl | rfl | rfl | rfl | rfl | rfl : q = 0 ∨ q = 1 ∨ q = 2 ∨ q = 3 ∨ q = 4 ∨ q = 5 ∨ q = 6 ∨ q = 7 ∨ q = 8 ∨ q = 9 ∨ q = 10 ∨ q = 11 ∨ q = 12 ∨ q = 13 ∨ q = 14 ∨ q = 15 := by omega
                          · cases ho
                            have e12 := hF.old_is 12 (by rfl) rfl
                            refine PJs.quiet hsz hC hi hF hV hM (Slots.of (by rfl)) rfl rfl (by decide) ?_
                            rw [hV.v0]
                            simp [execOp, go_sem, e12]
                          · cases ho
                            have l15 : listed.getD 15 false = false := by
                              cases hh : listed.getD 15 false
                              · rfl
                              · have y0 := hC 15 _ rfl hh ⟨1, .phase⟩ (by simp) rfl; rw [hl1] at y0; cases y0
                            have hs := (hM.far (g := fb) hfbr (H4.out.row.ne (by omega)) (.inr l15)).trans H4.out.fat
                            obtain ⟨⟨y0, y1, y2, y3, y4, y5⟩, ⟨z0, z1, z2, z3, z4, z5⟩⟩ := six_blkF hs
                            have e92 := hF.up 0 92 rfl (hdeps ⟨0, .data⟩ (by simp) rfl)
                            rw [hV.v0] at e92
                            refine PJs.quiet hsz hC hi hF hV hM (Slots.of (by rfl)) rfl rfl (by decide) ?_
                            rw [hV.v1]
                            simp [execOp, go_sem, e92, y1]
                          · cases ho
                            have e2 := hF.old_is 2 (by rfl) rfl
                            refine PJs.quiet hsz hC hi hF hV hM (Slots.of (by rfl)) rfl rfl (by decide) ?_
                            rw [hV.v2]
                            simp [execOp, go_sem, e2]
                          · cases ho
                            have e11 := hF.old_is 11 (by rfl) rfl
                            refine PJs.quiet hsz hC hi hF hV hM (Slots.of (by rfl)) rfl rfl (by decide) ?_
                            rw [hV.v3]
                            simp [execOp, go_sem, e11]
                          · cases ho
                            have e94 := hF.up 2 94 rfl (hdeps ⟨2, .data⟩ (by simp) rfl)
                            rw [hV.v2] at e94
                            have e95 := hF.up 3 95 rfl (hdeps ⟨3, .data⟩ (by simp) rfl)
                            rw [hV.v3] at e95
                            refine PJs.quiet hsz hC hi hF hV hM (Slots.of (by rfl)) rfl rfl (by decide) ?_
                            rw [hV.v4]
                            simp [execOp, go_sem, e94, e95, hj0, hjz]
                          · cases ho
                            have e96 := hF.up 4 96 rfl (hdeps ⟨4, .data⟩ (by simp) rfl)
                            rw [hV.v4] at e96
                            refine PJs.quiet hsz hC hi hF hV hM (Slots.of (by rfl)) rfl rfl (by decide) ?_
                            rw [hV.v5]
                            simp [execOp, go_sem, e96]
                          · cases ho
                            have l15 : listed.getD 15 false = false := by
                              cases hh : listed.getD 15 false
                              · rfl
                              · have y0 := hC 15 _ rfl hh ⟨6, .phase⟩ (by simp) rfl; rw [hl1] at y0; cases y0
                            obtain ⟨y0, y1, y2, y3⟩ := HCT.out v ((hM.far (g := gt) hgtr (H4.out.row.ne (by omega)) (.inr l15)).trans hgts)
                            have e97 := hF.up 5 97 rfl (hdeps ⟨5, .data⟩ (by simp) rfl)
                            rw [hV.v5] at e97
                            refine PJs.quiet hsz hC hi hF hV hM (Slots.of (by rfl)) rfl rfl (by decide) ?_
                            rw [hV.v6]
                            simp [execOp, go_sem, e97, y3]
                          · cases ho
                            have e13 := hF.old_is 13 (by rfl) rfl
                            refine PJs.quiet hsz hC hi hF hV hM (Slots.of (by rfl)) rfl rfl (by decide) ?_
                            rw [hV.v7]
                            simp [execOp, go_sem, e13]
                          · cases ho
                            have e98 := hF.up 6 98 rfl (hdeps ⟨6, .data⟩ (by simp) rfl)
                            rw [hV.v6] at e98
                            have e99 := hF.up 7 99 rfl (hdeps ⟨7, .data⟩ (by simp) rfl)
                            rw [hV.v7] at e99
                            refine PJs.quiet hsz hC hi hF hV hM (Slots.of (by rfl)) rfl rfl (by decide) ?_
                            rw [hV.v8]
                            simp [execOp, go_sem, e98, e99, hk0, hkz]
                          · cases ho
                            have l15 : listed.getD 15 false = false := by
                              cases hh : listed.getD 15 false
                              · rfl
                              · have y0 := hC 15 _ rfl hh ⟨9, .phase⟩ (by simp) rfl; rw [hl1] at y0; cases y0
                            obtain ⟨y0, y1, y2, y3⟩ := HCK.out v ((hM.far (g := gk) hgkr (H4.out.row.ne (by omega)) (.inr l15)).trans hgks)
                            have e100 := hF.up 8 100 rfl (hdeps ⟨8, .data⟩ (by simp) rfl)
                            rw [hV.v8] at e100
                            refine PJs.quiet hsz hC hi hF hV hM (Slots.of (by rfl)) rfl rfl (by decide) ?_
                            rw [hV.v9]
                            simp [execOp, go_sem, e100, y0, y1, y2, y3]
                          · cases ho
                            have e8 := hF.old_is 8 (by rfl) rfl
                            refine PJs.quiet hsz hC hi hF hV hM (Slots.of (by rfl)) rfl rfl (by decide) ?_
                            rw [hV.v10]
                            simp [execOp, go_sem, e8]
                          · cases ho
                            have l12 : listed.getD 12 false = false := by
                              cases hh : listed.getD 12 false
                              · rfl
                              · have y0 := hC 12 _ rfl hh ⟨11, .data⟩ (by simp) rfl; rw [hl1] at y0; cases y0
                            have l13 : listed.getD 13 false = false := by
                              cases hh : listed.getD 13 false
                              · rfl
                              · have y0 := hC 13 _ rfl hh ⟨11, .chain⟩ (by simp) rfl; rw [hl1] at y0; cases y0
                            have l15 : listed.getD 15 false = false := by
                              cases hh : listed.getD 15 false
                              · rfl
                              · have y0 := hC 15 _ rfl hh ⟨11, .phase⟩ (by simp) rfl; rw [hl1] at y0; cases y0
                            have e101 := hF.up 9 101 rfl (hdeps ⟨9, .data⟩ (by simp) rfl)
                            rw [hV.v9] at e101
                            have e102 := hF.up 10 102 rfl (hdeps ⟨10, .data⟩ (by simp) rfl)
                            rw [hV.v10] at e102
                            rw [hl1, l12, l13, l15] at hM
                            have hbv := Below.of_drew hM.below
                            have CT : Calls Try.prog 22 #[.agg #[.int .i64 rk.k, .int .i64 rk.n, .slice rk.an rk.ln rk.cn, .slice rk.ak rk.lk rk.ck], .int .i64 4, .slice na names.length nc] v (TreeP (treeR names 4 (kks.getD k default)) v) := Tree_any 4 (by decide) (kks.getD k default) rk names na nc v (HRK.out.later (HW4.out.trans (hbv.mono (by omega)))) (HN3.out.keep (fun g hg => by have := hbv.size; have := hg.2; omega) (fun g hg => (hbv.block g (by have := hg.2; omega)).trans (HKN.out g hg.1 hg.2))) (by omega)
                            refine wpOp_call (f := 22) (args := #[.agg #[.int .i64 rk.k, .int .i64 rk.n, .slice rk.an rk.ln rk.cn, .slice rk.ak rk.lk rk.ck], .int .i64 4, .slice na names.length nc]) rfl rfl (by simp [execOp, go_sem, e101, e102]) CT ?_
                            rintro e w' ⟨yc, rfl, hk, hb⟩
                            refine ⟨_, rfl, ?_⟩
                            obtain ⟨vals', hvals⟩ : ∃ vals' : Nat → Value, vals' = fun q => if q = 11 then (Value.agg #[.int .i64 yc.k, .string yc.n, .slice yc.an yc.ln yc.cn, .slice yc.ak yc.lk yc.ck]) else vals q := ⟨_, rfl⟩
                            have hF' : Fr _ _ vals' listed b := hF.congr (fun i h => by rw [hvals]; exact (if_neg (by rintro rfl; rw [hl1] at h; cases h)))
                            have hV' : PVs fb (.slice pa us4.length pk) (.slice na names.length nc) (.slice (some ⟨gt, ot, none⟩) sigs.length c2) (.slice (some ⟨gk, ok, none⟩) kks.length kck) j k gt (ot + j * 4) gk (ok + k * 4) rk yc vals' := by rw [hvals]; exact ⟨hV.v0, hV.v1, hV.v2, hV.v3, hV.v4, hV.v5, hV.v6, hV.v7, hV.v8, hV.v9, hV.v10, rfl, hV.v14⟩
                            have hn : vals' 11 = .agg #[.int .i64 yc.k, .string yc.n, .slice yc.an yc.ln yc.cn, .slice yc.ak yc.lk yc.ck] := by rw [hvals]; rfl
                            refine ⟨by simpa using hsz, hC.put hi, vals', yc, hn ▸ hF'.put (Slots.of (by rfl)) hsz rfl, hV', ?_⟩
                            rw [getD_setE (i := 11) (by simp [hsz]), getD_setN (show 11 ≠ 12 by decide), getD_setN (show 11 ≠ 13 by decide), getD_setN (show 11 ≠ 15 by decide), l12, l13, l15]
                            exact hM.called hb hk
                          · cases ho
                            have l11 := hdeps ⟨11, .data⟩ (by simp) rfl
                            have l13 : listed.getD 13 false = false := by
                              cases hh : listed.getD 13 false
                              · rfl
                              · have y0 := hC 13 _ rfl hh ⟨12, .data⟩ (by simp) rfl; rw [hl1] at y0; cases y0
                            have l15 : listed.getD 15 false = false := by
                              cases hh : listed.getD 15 false
                              · rfl
                              · have y0 := hC 15 _ rfl hh ⟨12, .phase⟩ (by simp) rfl; rw [hl1] at y0; cases y0
                            have e103 := hF.up 11 103 rfl (hdeps ⟨11, .data⟩ (by simp) rfl)
                            rw [hV.v11] at e103
                            rw [l11, hl1, l13, l15] at hM
                            obtain ⟨vals', hvals⟩ : ∃ vals' : Nat → Value, vals' = fun q => if q = 12 then (Value.slice (some ⟨v.heap.size, 0, none⟩) 1 1) else vals q := ⟨_, rfl⟩
                            have hF' : Fr _ _ vals' listed b := hF.congr (fun i h => by rw [hvals]; exact (if_neg (by rintro rfl; rw [hl1] at h; cases h)))
                            have hV' : PVs fb (.slice pa us4.length pk) (.slice na names.length nc) (.slice (some ⟨gt, ot, none⟩) sigs.length c2) (.slice (some ⟨gk, ok, none⟩) kks.length kck) j k gt (ot + j * 4) gk (ok + k * 4) rk xc vals' := by rw [hvals]; exact ⟨hV.v0, hV.v1, hV.v2, hV.v3, hV.v4, hV.v5, hV.v6, hV.v7, hV.v8, hV.v9, hV.v10, hV.v11, hV.v14⟩
                            have hn : vals' 12 = .slice (some ⟨v.heap.size, 0, none⟩) 1 1 := by rw [hvals]; rfl
                            refine wpOp_run (w' := v.alloc (.cells (C4.cells xc).toArray 25)) (v := vals' 12) rfl rfl ?_ ⟨by simpa using hsz, hC.put hi, vals', xc, hF'.put (Slots.of (by rfl)) hsz rfl, hV', ?_⟩
                            · rw [hn]
                              simp [execOp, go_sem, e103, C4.cells]
                            · rw [getD_setE (i := 12) (by simp [hsz]), getD_setN (show 12 ≠ 11 by decide), getD_setN (show 12 ≠ 13 by decide), getD_setN (show 12 ≠ 15 by decide), l11, l13, l15]
                              rw [hn]
                              exact hM.laid
                          · cases ho
                            have l11 := hdeps ⟨11, .chain⟩ (by simp) rfl
                            have l12 := hdeps ⟨12, .data⟩ (by simp) rfl
                            have l15 : listed.getD 15 false = false := by
                              cases hh : listed.getD 15 false
                              · rfl
                              · have y0 := hC 15 _ rfl hh ⟨13, .data⟩ (by simp) rfl; rw [hl1] at y0; cases y0
                            have d1 := hdeps ⟨1, .data⟩ (by simp) rfl
                            rw [l11, l12, hl1, l15] at hM
                            obtain ⟨v0, h0, h2, rfl, hbs⟩ := hM.bs_at
                            have h0' := Below.of_drew h0
                            have h0z := h0'.size
                            refine wpOp_wp rfl rfl (Sh.wp_append_fresh (.tmp 93) (.tmp 104) 23 rfl W4.heap.size 25 ik (.agg #[.int .i64 0, .string ⟨#[]⟩, .slice none 0 0, .slice none 0 0]) 4 72 Try.underlying23 HIk.out HJk.out HKk.out HLk.out rfl (by decide) (.slice pa us4.length pk) us4.length (us4.flatMap C4.cells) ((hF.eval (i := 1) rfl d1).trans hV.v1) ((H4.out.row.below h0').alloc _).own ⟨v0.heap.size, 0, none⟩ 1 1 (C4.cells xc) ((hF.eval (i := 12) rfl l12).trans hbs) rfl (cells_newZ v0 (C4.cells xc) 25) (C4.one xc) (by have := HUL4.out; unfold maxLen; omega) (by have := HUL4.out; omega) (by simp; omega) ?_)
                            intro y w3 hown hgr hfr
                            obtain ⟨vals', hvals⟩ : ∃ vals' : Nat → Value, vals' = fun q => if q = 13 then y else vals q := ⟨_, rfl⟩
                            have hF' : Fr _ _ vals' listed b := hF.congr (fun i h => by rw [hvals]; exact (if_neg (by rintro rfl; rw [hl1] at h; cases h)))
                            have hV' : PVs fb (.slice pa us4.length pk) (.slice na names.length nc) (.slice (some ⟨gt, ot, none⟩) sigs.length c2) (.slice (some ⟨gk, ok, none⟩) kks.length kck) j k gt (ot + j * 4) gk (ok + k * 4) rk xc vals' := by rw [hvals]; exact ⟨hV.v0, hV.v1, hV.v2, hV.v3, hV.v4, hV.v5, hV.v6, hV.v7, hV.v8, hV.v9, hV.v10, hV.v11, hV.v14⟩
                            have hn : vals' 13 = y := by rw [hvals]; rfl
                            have hn3 : vals' 12 = vals 12 := by rw [hvals]; rfl
                            refine ⟨by simpa using hsz, hC.put hi, vals', xc, hn ▸ hF'.put (Slots.of (by rfl)) hsz rfl, hV', ?_⟩
                            rw [getD_setE (i := 13) (by simp [hsz]), getD_setN (show 13 ≠ 11 by decide), getD_setN (show 13 ≠ 12 by decide), getD_setN (show 13 ≠ 15 by decide), l11, l12, l15]
                            rw [hn, hn3]
                            exact AM.appended h0 h2 ⟨hown, hgr, hfr⟩
                          · cases ho
                            have e12 := hF.old_is 12 (by rfl) rfl
                            refine PJs.quiet hsz hC hi hF hV hM (Slots.of (by rfl)) rfl rfl (by decide) ?_
                            rw [hV.v14]
                            simp [execOp, go_sem, e12]
                          · cases ho
                            have l11 := hdeps ⟨11, .phase⟩ (by simp) rfl
                            have l12 := hdeps ⟨12, .phase⟩ (by simp) rfl
                            have l13 := hdeps ⟨13, .data⟩ (by simp) rfl
                            have e106 := hF.up 14 106 rfl (hdeps ⟨14, .data⟩ (by simp) rfl)
                            rw [hV.v14] at e106
                            have e105 := hF.up 13 105 rfl (hdeps ⟨13, .data⟩ (by simp) rfl)
                            have hs := (hM.far (g := fb) hfbr (H4.out.row.ne (by omega)) (.inr hl1)).trans H4.out.fat
                            obtain ⟨⟨y0, y1, y2, y3, y4, y5⟩, ⟨z0, z1, z2, z3, z4, z5⟩⟩ := six_blkF hs
                            rw [l11, l12, l13, hl1] at hM
                            obtain ⟨va, vc, hap⟩ := hM.row_at
                            rw [hap] at e105
                            refine wpOp_wp rfl rfl ?_
                            unfold Oper.wp Oper.upon
                            simp [execOp, go_sem, e106, e105, y1, z1]
                            refine ⟨by simpa using hsz, hC.put hi, vals, xc, hF.put (i := 15) (Slots.of (by rfl)) hsz rfl, hV, ?_⟩
                            rw [getD_setE (i := 15) (by simp [hsz]), getD_setN (show 15 ≠ 11 by decide), getD_setN (show 15 ≠ 12 by decide), getD_setN (show 15 ≠ 13 by decide), l11, l12, l13]
                            rw [← hap]
                            exact hM.stored
                        · intro listed b v hJ hr
                          obtain ⟨hsz, hC, vals, yc, hF, hV, hM⟩ := hJ
                          have hall := all_upB (by rfl) hsz hr
                          have hb : b = putAll _ vals _ 16 := hF.done (Slots.of (by rfl)) hall
                          rw [hall 11 (by decide), hall 12 (by decide), hall 13 (by decide), hall 15 (by decide)] at hM
                          obtain ⟨v0, w3, h0, h2, hp, rfl⟩ := hM.done
                          obtain ⟨va, vc, hap⟩ := own_sliceZ hp.own
                          subst hb
                          simp only [putAll, hV.v0, hV.v1, hV.v2, hV.v3, hV.v4, hV.v5, hV.v6, hV.v7, hV.v8, hV.v9, hV.v10, hV.v11, hV.v14, hap]
                          simp [dstOf]
                          have h0' := Below.of_drew h0
                          have hz3 : w3.heap.size ≥ v0.heap.size := by have := hp.grown.size; simp at this; omega
                          have h0z := h0'.size
                          have hS3 := ((AM.appended (bs := vals 12) (sb := fb) (off := 1) (enc := C4.cells) h0 h2 hp).far (g := fb) hfbr (H4.out.row.ne (by omega)) (.inr rfl)).trans H4.out.fat
                          have hstep : Step (fb :: X3) [.slice pa us4.length pk, (.slice sa gs.length sk)] [vals 13, (.slice sa gs.length sk)] v0 w3 := (Step.alloc v0 _).trans (Step.append hp.grown (by simp) hp.fresh (fun u hu => by simp at hu ⊢; rcases hu with rfl | rfl; exact .inl rfl; exact .inr (.inr rfl)))
                          have hg3 := TRow.snoc (H4.out.row.below h0') (h2.free (X := fb :: X3) (vs := [.slice pa us4.length pk, (.slice sa gs.length sk)]) (fun x hx => by rcases List.mem_cons.1 hx with rfl | hx; exact hfbr; have := HX3.out x hx; have : wr.drew.heap.size = wr.heap.size := rfl; omega) (fun v hv g e => by rcases List.mem_cons.1 hv with rfl | hv; exact (H4.out.row.own.lt g e).2; rw [List.mem_singleton.1 hv] at e; have := (H.out.row.own.lt g e).2; have : wr.drew.heap.size = wr.heap.size := rfl; omega)) hp.own hstep
                          have hO : Only fb w3 (w3.setCell ⟨fb, 1, none⟩ (vals 13)) := (Only.refl _ _).setCell _ _
                          have e1 := set_six1 hS3 (vals 13)
                          have hb3 := hp.below (H4.out.below.trans (h0'.mono (by omega))) (fun g e => by have := (H4.out.row.own.lt g e).1; omega) (by omega)
                          have e4 := hb3.trans (hO.below (Nat.le_refl _) (by omega))
                          have e5 := hg3.only (b := fb) (by simp) (fun x hx => by rcases List.mem_cons.1 hx with rfl | hx; exact hfz; have := HX3.out x hx; omega) hO
                          have e6 := (hp.kp (H4.out.kp.below h0') (fun g e => (H4.out.row.own.lt g e).1)).only hO
                          rw [← parR_succ] at e5
                          rw [hap] at e1 e4 e5 e6
                          have E1 := Lib.hid e1; have E4 := Lib.hid e4; have E5 := Lib.hid e5; have E6 := Lib.hid e6
                          clear e1 e4 e5 e6 hO hb3 hg3 hS3 h0 h2 hp hM hF hV hC hall hr hsz hstep
                          go_wp2
                          go_roundw
                          case rel => exact ⟨k + 1, _, _, by go_num, ⟨by omega, by omega⟩, E1.out, E5.out, E6.out, E4.out⟩
                          case measure => simp [intOf]; omega
                      · have hmk : min kks.length 3 = k := by omega
                        have HMK := Lib.hid hmk
                        clear hmk
                        by_cases hkk : k < kks.length
                        · have hkz : (k : Int) < (kks.length : Int) := by omega
                          have hk3z : ¬ (k : Int) < 3 := by omega
                          go_wp2
                          go_meet
                          exact ⟨_, us4, by rw [HMK.out]; exact H4.out⟩
                        · have hkz : ¬ (k : Int) < (kks.length : Int) := by omega
                          go_wp2
                          go_meet
                          exact ⟨_, us4, by rw [HMK.out]; exact H4.out⟩
                  case rest =>
                    obtain ⟨pv, us4, h4⟩ := hcut
                    obtain rfl := h4.slot
                    have hkz4 := h4.kp.size
                    obtain ⟨pa, pk, hpv⟩ := own_sliceZ h4.row.own
                    subst hpv
                    have hbx : Below wr.heap.size wr wc := HBD.out.trans (h4.below.mono hfb)
                    have hbz := hbx.size
                    have hs6 := (hbx.block (w.heap.size + 2) (by omega)).trans H.out.sat
                    obtain ⟨⟨a0, a1, a2, a3, a4, a5⟩, _⟩ := six_blkF hs6
                    obtain ⟨⟨b0, b1, b2, b3, b4, b5⟩, _⟩ := six_blkF h4.fat
                    have hrow6 := H.out.row.below hbx
                    have hgl : gs.length ≤ 4 := by rw [H.out.row.len]; simp [sgsR]; omega
                    have hsg := HSG.out
                    rw [← HRJ.out] at hsg
                    simp only [kidsR] at hsg
                    rw [HRJ.out] at hsg
                    have hfree : ∀ g, wr.heap.size ≤ g → g < wc.heap.size → Free wc X3 [(.slice sa gs.length sk)] g := fun g h1 h2 => ⟨h2, fun hx => by have := HX3.out g hx; omega, fun v hv e => by rw [List.mem_singleton.1 hv] at e; have := (H.out.row.own.lt g e).2; omega⟩
                    have hsv : SgV wc (Free wc X3 [(.slice sa gs.length sk)]) ⟨(fn4.getD j []), parR names kks (min kks.length 3), treeR names 4 rj⟩ ((fn4.getD j []), ⟨pa, us4.length, pk, xc⟩) :=
                      ⟨rfl, h4.row.len, ⟨us4, h4.row.len, h4.row.row _ (fun g e => hfree g (by have := (h4.row.own.lt g e).1; omega) (h4.row.own.lt g e).2), fun i h1 h2 => (h4.row.val i h1 h2).keep (fun g hg => ⟨hg.1, fun hx => hg.2.1 (List.mem_cons_of_mem _ hx), fun v hv => hg.2.2 v (List.mem_cons_of_mem _ hv)⟩) (fun _ _ => rfl)⟩,
                        HXT.out.keep (fun g hg => hfree g hg.1.1 (by have := hg.1.2; omega)) (fun g hg => h4.kp.blk g hg.1.2 (hg.2 rfl))⟩
                    have hbw6 : Below w.heap.size w wc := H.out.below.trans (hbx.mono (by omega))
                    have hkp6 := H.out.kp.below hbx
                    have HS6 := Lib.hid hs6; have HR6 := Lib.hid hrow6; have HSG2 := Lib.hid hsg; have HSV := Lib.hid hsv; have HBW6 := Lib.hid hbw6; have HKP6 := Lib.hid hkp6; have H4 := Lib.hid h4
                    clear hs6 hrow6 hsg hsv hbw6 hkp6 h4 hfree hbx
                    generalize fn4.getD j [] = fnm at *
                    go_wp2_with (at_builtin; (refine Sh.wpList_append_fresh rfl _ _ 27 rfl W3.heap.size 46 ig (.agg #[.string ⟨#[]⟩, .slice none 0 0, .int .i64 0, .string ⟨#[]⟩, .slice none 0 0, .slice none 0 0]) 6 112 Try.underlying27 HIg.out HJg.out HKg.out HLg.out rfl (by decide) _ _ _ rfl ((HR6.out.alloc _).own) ⟨wc.heap.size, 0, none⟩ 1 1 [.string ⟨fnm.toArray⟩, .slice pa us4.length pk, .int .i64 xc.k, .string xc.n, .slice xc.an xc.ln xc.cn, .slice xc.ak xc.lk xc.ck] rfl rfl (cells_newZ _ _ _) one6 (by unfold maxLen; omega) (by omega) (by simp; omega) ?_); intro v' w7 hown hgr hfr; obtain ⟨va, vk, rfl⟩ := own_sliceZ hown; have hs7 := (hgr.block (w.heap.size + 2) (by simp; omega) (fun e => H.out.row.ne (by omega) e.symm)).trans ((Below.heap_alloc _ _ _ (by omega)).trans HS6.out); have hz7 := hgr.size; simp at hz7; obtain ⟨⟨t0, t1, t2, t3, t4, t5⟩, ⟨f0, f1, f2, f3, f4, f5⟩⟩ := six_blkF hs7; have HS7 := Lib.hid hs7; have HOW := Lib.hid hown; have HGR := Lib.hid hgr; have HFR := Lib.hid hfr; clear hs7 hown hgr hfr)
                    have hO : Only (w.heap.size + 2) w7 (w7.setCell ⟨w.heap.size + 2, 5, none⟩ (.slice va (gs.length + 1) vk)) := (Only.refl _ _).setCell _ _
                    have e1 := set_six5 HS7.out (.slice va (gs.length + 1) vk)
                    have hb7 := (HBW6.out.alloc HBW6.out.size _).trans (below_grown HGR.out (fun g e => by have := (H.out.row.own.lt g e).1; omega) (by simp; omega))
                    have e4 := hb7.trans (hO.below (by omega) hb7.size)
                    have e5 := ((HR6.out.snoc HSV.out HOW.out HGR.out HFR.out).1).only (b := w.heap.size + 2) (by rw [HXX.out]; exact List.mem_cons_self) HX3.out hO
                    rw [← HSG2.out] at e5
                    have e6 := ((HKP6.out.below ((Below.refl _ _).alloc (Nat.le_refl _) _)).grown HGR.out (fun g e => (H.out.row.own.lt g e).1)).only hO
                    have E1 := Lib.hid e1; have E4 := Lib.hid e4; have E5 := Lib.hid e5; have E6 := Lib.hid e6
                    clear e1 e4 e5 e6 hO hb7
                    go_roundw
                    case rel => exact ⟨j + 1, _, _, by go_num, ⟨by omega, by omega⟩, E1.out, E5.out, E4.out, E6.out⟩
                    case measure => simp [intOf]; omega
            · have hmj : min sigs.length 4 = j := by omega
              have HMJ := Lib.hid hmj
              clear hmj
              by_cases hjs : j < sigs.length
              · have hjz : (j : Int) < (sigs.length : Int) := by omega
                have hj4z : ¬ (j : Int) < 4 := by omega
                go_wp2
                go_meet
                exact ⟨_, gs, by rw [HMJ.out]; exact H.out⟩
              · have hjz : ¬ (j : Int) < (sigs.length : Int) := by omega
                go_wp2
                go_meet
                exact ⟨_, gs, by rw [HMJ.out]; exact H.out⟩
        case rest =>
          clear H
          obtain ⟨v2, gs, h⟩ := hcut
          obtain rfl := h.slot
          obtain ⟨sa, sk, hv2⟩ := own_sliceZ h.row.own
          subst hv2
          have hkz3 := h.kp.size
          have hz9 := (h.kp.blk (w.heap.size + 1) (by omega) (by omega)).trans HO3.out
          obtain ⟨⟨a0, a1, a2, a3, a4, a5⟩, _⟩ := six_blkF h.sat
          obtain ⟨_, ⟨f0, f1, f2, f3, f4, f5⟩⟩ := six_blkF hz9
          obtain ⟨⟨v0, v1, v2, v3, v4, v5⟩, _⟩ := six_blkF (set_six5 (set_six4 (put4_six hz9 mc) (.slice xa us.length xk)) (.slice sa gs.length sk))
          have hO9 : Only (w.heap.size + 1) wc (((put4 wc (w.heap.size + 1) mc).setCell ⟨w.heap.size + 1, 4, none⟩ (.slice xa us.length xk)).setCell ⟨w.heap.size + 1, 5, none⟩ (.slice sa gs.length sk)) := ((put4_only _ _ _).setCell _ _).setCell _ _
          generalize hW9 : ((put4 wc (w.heap.size + 1) mc).setCell ⟨w.heap.size + 1, 4, none⟩ (.slice xa us.length xk)).setCell ⟨w.heap.size + 1, 5, none⟩ (.slice sa gs.length sk) = W9 at *
          have hs9 := hO9.size
          have hgl := HG3.out.len
          have hsl := h.row.len
          have hfin : SchP ⟨treeR names 6 main, ntR names types names.length, sgsR names sigs (min sigs.length 4)⟩ w (.returned (.agg #[.int .i64 mc.k, .string mc.n, .slice mc.an mc.ln mc.cn, .slice mc.ak mc.lk mc.ck, .slice xa us.length xk, .slice sa gs.length sk])) W9 := by
            have hk9 : ∀ g, g < W3.heap.size → g ≠ w.heap.size + 1 → g ≠ w.heap.size + 2 → W9.heap[g]? = W3.heap[g]? := fun g h1 h2 h3 => (hO9.block g (by omega) (fun e => h2 (by cases e; rfl))).trans (h.kp.blk g h1 h3)
            refine ⟨mc, xa, xk, us, sa, sk, gs, by rw [hgl, hsl], ?_, h.below.trans (hO9.below (by omega) h.below.size)⟩
            rw [← hgl, ← hsl]
            refine ⟨HM3.out.keep (fun g hg => ⟨by have := hg.2; omega, (fun hx => by have := List.mem_range.1 hx; have := hg.1; omega), fun v hv e => ?_⟩) (fun g hg => hk9 g hg.2 (by have := hg.1; omega) (by have := hg.1; omega)), own_kp HG3.out.own (by omega) (fun g e => hk9 g (HG3.out.own.lt g e).2 (by have := (HG3.out.own.lt g e).1; omega) (by have := (HG3.out.own.lt g e).1; omega)), hgl, fun i h1 h2 => ⟨(HG3.out.val i h1 h2).1, (HG3.out.val i h1 h2).2.keep (fun g hg => ⟨by have := hg.1; omega, (fun hx => hg.2.1 (List.mem_cons_of_mem _ (List.mem_cons_of_mem _ hx))), fun v hv e => ?_⟩) (fun g hg => hk9 g hg.1 (fun e => hg.2.1 (by rw [e]; simp)) (fun e => hg.2.1 (by rw [e]; simp)))⟩,
              own_kp h.row.own (by omega) (fun g e => hO9.block g (h.row.own.lt g e).2 (fun e2 => by cases e2; have := (h.row.own.lt _ e).1; omega)), hsl, fun i h1 h2 => (h.row.val i h1 h2).step (fun g hg => ⟨⟨by have := hg.1; omega, (fun hx => hg.2.1 (by rw [HXX.out]; exact List.mem_cons_of_mem _ (List.mem_cons_of_mem _ (List.mem_append_right _ hx)))), fun v hv e => ?_⟩, hO9.block g hg.1 (fun e => hg.2.1 (by cases e; rw [HXX.out]; simp))⟩), fun g e1 e2 => ?_⟩
            · simp at hv
              rcases hv with rfl | rfl
              · have := (HV1.out g e).2; have := hg.1; omega
              · have := (h.row.own.lt g e).1; have := hg.2; omega
            · simp at hv
              rcases hv with rfl | rfl
              · exact hg.2.2 _ (by simp) e
              · have := (h.row.own.lt g e).1; have := hg.1; omega
            · simp at hv
              rcases hv with rfl | rfl
              · exact hg.2.1 (by rw [HXX.out]; exact List.mem_cons_of_mem _ (List.mem_cons_of_mem _ (List.mem_append_left _ (mem_blkL.2 e))))
              · exact hg.2.2 _ (by simp) e
            · have := (HG3.out.own.lt g e1).2; have := (h.row.own.lt g e2).1; omega
          have HFIN := Lib.hid hfin
          have hss : schR main types sigs = ⟨treeR names 6 main, ntR names types names.length, sgsR names sigs (min sigs.length 4)⟩ := by unfold schR; rw [HNA.out]
          have HSS := Lib.hid hss
          clear hfin hss hO9 hz9 hs9 h hgl hsl
          unfold put4 at hW9
          go_wp2
          rw [HSS.out]
          refine bodyPost_ret (v := .agg #[.int .i64 mc.k, .string mc.n, .slice mc.an mc.ln mc.cn, .slice mc.ak mc.lk mc.ck, .slice xa us.length xk, .slice sa gs.length sk]) (by simp [results, Try.results15, go_sem, v0, v1, v2, v3, v4, v5]) rfl ?_
          exact HFIN.out
end Sp
end Go.Proofs.Ytjjpjkkaogfoaaa
