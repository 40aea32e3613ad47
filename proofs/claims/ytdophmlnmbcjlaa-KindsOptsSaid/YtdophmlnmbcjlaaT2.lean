/- Tables of types, each once, as plain functions. No program is named here. -/
import Derived.Test.YtdophmlnmbcjlaaT1
namespace Go.Proofs.Ytdophmlnmbcjlaa
namespace Sp
open Sc
/-- A type whose kids are numbers. -/
structure Kz where
  kind : Int
  name : List UInt8
  names : List (List UInt8)
  kids : List Nat
deriving DecidableEq, Inhabited
/-- The number of the type that is there, or the next one. -/
def numK (T : List Kz) (k : Kz) : Nat × Nat × List Kz := if k ∈ T then (T.idxOf k, 0, T) else if 120 ≤ T.length then (0, 20, T) else (T.length, 0, T ++ [k])
mutual
def treeK (T : List Kz) : Tz → Nat × Nat × List Kz
  | .mk k nm ns ks => if (kidsK T ks).2.1 = 0 then numK (kidsK T ks).2.2 ⟨k, nm, ns, (kidsK T ks).1⟩ else (0, (kidsK T ks).2.1, (kidsK T ks).2.2)
def kidsK (T : List Kz) : List Tz → List Nat × Nat × List Kz
  | [] => ([], 0, T)
  | t :: ks => if (treeK T t).2.1 = 0 then ((treeK T t).1 :: (kidsK (treeK T t).2.2 ks).1, (kidsK (treeK T t).2.2 ks).2) else ([], (treeK T t).2)
end
theorem kidsK_append : ∀ (T : List Kz) (a b : List Tz), kidsK T (a ++ b) = if (kidsK T a).2.1 = 0 then ((kidsK T a).1 ++ (kidsK (kidsK T a).2.2 b).1, (kidsK (kidsK T a).2.2 b).2) else kidsK T a
  | T, [], b => by simp [kidsK]
  | T, t :: a, b => by
    rw [List.cons_append, kidsK, kidsK]
    by_cases h : (treeK T t).2.1 = 0
    · rw [if_pos h, if_pos h, kidsK_append _ a b]
      dsimp only
      split
      · rfl
      · rfl
    · rw [if_neg h, if_neg h, if_neg h]
theorem kidsK_snoc (T : List Kz) (a : List Tz) (t : Tz) : kidsK T (a ++ [t]) = if (kidsK T a).2.1 = 0 then (if (treeK (kidsK T a).2.2 t).2.1 = 0 then ((kidsK T a).1 ++ [(treeK (kidsK T a).2.2 t).1], (0, (treeK (kidsK T a).2.2 t).2.2)) else ((kidsK T a).1, (treeK (kidsK T a).2.2 t).2)) else kidsK T a := by
  rw [kidsK_append]
  split
  · simp only [kidsK]
    by_cases h : (treeK (kidsK T a).2.2 t).2.1 = 0
    · rw [if_pos h, if_pos h]
    · rw [if_neg h, if_neg h]; simp
  · rfl
/-- What stops within a front stops the whole. -/
theorem kidsK_bad {T : List Kz} {ks : List Tz} {i : Nat} (h : (kidsK T (ks.take i)).2.1 ≠ 0) : kidsK T ks = kidsK T (ks.take i) := by
  have := kidsK_append T (ks.take i) (ks.drop i)
  rwa [List.take_append_drop, if_neg h] at this
/-- What is wrong with a type that is added, and how many types were gone through. -/
def ownC (has : List UInt8 → Bool) (k : Int) (nm : List UInt8) (ns : List (List UInt8)) (nk : Nat) : Nat :=
  if 8 < nk then 3 else if k < 1 ∨ 9 < k then 1 else if formB k nm ns nk = false then 12 else if k = 9 ∧ has nm = false then 15 else 0
mutual
def oneC (has : List UInt8 → Bool) (n : Nat) : Tz → Nat × Nat
  | .mk k nm ns ks => if 400 < n + 1 then (3, n + 1) else if ownC has k nm ns ks.length ≠ 0 then (ownC has k nm ns ks.length, n + 1) else allC has (n + 1) ks
def allC (has : List UInt8 → Bool) (n : Nat) : List Tz → Nat × Nat
  | [] => (0, n)
  | t :: ks => if (oneC has n t).1 = 0 then allC has (oneC has n t).2 ks else oneC has n t
end
mutual
/-- A type that may be added, but for its size. -/
def okK (has : List UInt8 → Bool) : Tz → Bool
  | .mk k nm ns ks => decide (ownC has k nm ns ks.length = 0) && okKs has ks
def okKs (has : List UInt8 → Bool) : List Tz → Bool
  | [] => true
  | t :: ks => okK has t && okKs has ks
end
mutual
theorem oneC_ok (has : List UInt8 → Bool) : ∀ (t : Tz) (n : Nat), (oneC has n t).1 = 0 → okK has t = true ∧ (oneC has n t).2 = n + sizeZ t ∧ n + sizeZ t ≤ 400
  | .mk k nm ns ks, n, h => by
    rw [oneC] at h ⊢
    split at h
    · cases h
    · rename_i h1
      split at h
      · rename_i h2; exact absurd h h2
      · rename_i h2
        have h3 : ownC has k nm ns ks.length = 0 := by simpa using h2
        obtain ⟨a, b, c⟩ := allC_ok has ks (n + 1) h (by omega)
        rw [if_neg h1, if_neg h2, okK, a, sizeZ]
        exact ⟨by simp [h3], by omega, by omega⟩
theorem allC_ok (has : List UInt8 → Bool) : ∀ (ks : List Tz) (n : Nat), (allC has n ks).1 = 0 → n ≤ 400 → okKs has ks = true ∧ (allC has n ks).2 = n + sizeZs ks ∧ n + sizeZs ks ≤ 400
  | [], n, _, hn => ⟨rfl, by simp [allC, sizeZs], by simpa [sizeZs] using hn⟩
  | t :: ks, n, h, hn => by
    rw [allC] at h ⊢
    split at h
    · rename_i h1
      obtain ⟨a, b, c⟩ := oneC_ok has t n h1
      obtain ⟨d, e, f⟩ := allC_ok has ks _ h (by omega)
      rw [if_pos h1, okKs, a, d, sizeZs]
      exact ⟨rfl, by omega, by omega⟩
    · rename_i h1; exact absurd h h1
end
mutual
theorem oneC_of (has : List UInt8 → Bool) : ∀ (t : Tz) (n : Nat), okK has t = true → n + sizeZ t ≤ 400 → oneC has n t = (0, n + sizeZ t)
  | .mk k nm ns ks, n, h, hs => by
    rw [okK, Bool.and_eq_true, decide_eq_true_eq] at h
    rw [sizeZ] at hs ⊢
    rw [oneC, if_neg (by omega), if_neg (by omega), allC_of has ks (n + 1) h.2 (by omega)]
    congr 1; omega
theorem allC_of (has : List UInt8 → Bool) : ∀ (ks : List Tz) (n : Nat), okKs has ks = true → n + sizeZs ks ≤ 400 → allC has n ks = (0, n + sizeZs ks)
  | [], n, _, _ => by simp [allC, sizeZs]
  | t :: ks, n, h, hs => by
    rw [okKs, Bool.and_eq_true] at h
    rw [sizeZs] at hs ⊢
    have := sizeZ_pos t
    rw [allC, oneC_of has t n h.1 (by omega), if_pos rfl, allC_of has ks _ h.2 (by omega)]
    congr 1; omega
end
theorem okKs_mem {has : List UInt8 → Bool} : ∀ {ks : List Tz}, okKs has ks = true → ∀ t ∈ ks, okK has t = true
  | t :: ks, h, x, hx => by
    rw [okKs, Bool.and_eq_true] at h
    rcases List.mem_cons.1 hx with rfl | hx
    · exact h.1
    · exact okKs_mem h.2 x hx
/-- What a key says is what its kind asks. -/
structure WfK (k : Kz) : Prop where
  rng : 1 ≤ k.kind ∧ k.kind ≤ 9
  few : k.kids.length ≤ 8
  form : k.names.length = if k.kind = 7 ∨ k.kind = 8 then k.kids.length else 0
theorem WfK.names8 {k : Kz} (h : WfK k) : k.names.length ≤ 8 := by
  have := h.form; have := h.few; split at * <;> omega
theorem wfK_of {has : List UInt8 → Bool} {k : Int} {nm : List UInt8} {ns : List (List UInt8)} {ids : List Nat} (h : ownC has k nm ns ids.length = 0) : WfK ⟨k, nm, ns, ids⟩ := by
  unfold ownC at h
  by_cases h1 : 8 < ids.length
  · rw [if_pos h1] at h; cases h
  · rw [if_neg h1] at h
    by_cases h2 : k < 1 ∨ 9 < k
    · rw [if_pos h2] at h; cases h
    · rw [if_neg h2] at h
      by_cases h3 : formB k nm ns ids.length = false
      · rw [if_pos h3] at h; cases h
      · refine ⟨by dsimp only; omega, by dsimp only; omega, ?_⟩
        dsimp only
        unfold formB at h3
        simp only [Bool.not_eq_false, Bool.and_eq_true, Bool.or_eq_true, decide_eq_true_eq] at h3
        obtain ⟨⟨h4, _⟩, h5⟩ := h3
        unfold kidsN at h4
        split
        · rename_i h6
          rw [if_neg (by omega), if_pos h6] at h4; omega
        · rename_i h6; rcases h5 with h5 | h5
          · exact h5
          · exact absurd h5 h6
/-- A table: each type once, kids ahead. -/
structure TabW (T : List Kz) : Prop where
  nd : T.Nodup
  len : T.length ≤ 120
  kids : ∀ i (h : i < T.length), ∀ j ∈ T[i].kids, j < i
  wf : ∀ k ∈ T, WfK k
theorem TabW.nil : TabW [] := ⟨List.nodup_nil, by simp, (fun i h => by cases h), (fun k h => by cases h)⟩
theorem numK_grow (T : List Kz) (k : Kz) : T <+: (numK T k).2.2 := by
  unfold numK
  split
  · exact List.prefix_refl _
  · split
    · exact List.prefix_refl _
    · exact List.prefix_append _ _
mutual
theorem treeK_grow : ∀ (t : Tz) (T : List Kz), T <+: (treeK T t).2.2
  | .mk k nm ns ks, T => by
    rw [treeK]
    split
    · exact (kidsK_grow ks T).trans (numK_grow _ _)
    · exact kidsK_grow ks T
theorem kidsK_grow : ∀ (ks : List Tz) (T : List Kz), T <+: (kidsK T ks).2.2
  | [], T => by rw [kidsK]; exact List.prefix_refl _
  | t :: ks, T => by
    rw [kidsK]
    split
    · exact (treeK_grow t T).trans (kidsK_grow ks _)
    · exact treeK_grow t T
end
theorem numK_e (T : List Kz) (k : Kz) : (numK T k).2.1 = 0 ∨ (numK T k).2.1 = 20 := by
  unfold numK; split
  · exact .inl rfl
  · split
    · exact .inr rfl
    · exact .inl rfl
mutual
theorem treeK_e : ∀ (t : Tz) (T : List Kz), (treeK T t).2.1 = 0 ∨ (treeK T t).2.1 = 20
  | .mk k nm ns ks, T => by
    rw [treeK]
    split
    · exact numK_e _ _
    · exact kidsK_e ks T
theorem kidsK_e : ∀ (ks : List Tz) (T : List Kz), (kidsK T ks).2.1 = 0 ∨ (kidsK T ks).2.1 = 20
  | [], T => by rw [kidsK]; exact .inl rfl
  | t :: ks, T => by
    rw [kidsK]
    split
    · exact kidsK_e ks _
    · exact treeK_e t T
end
theorem idxOf_in {T r : List Kz} {k : Kz} (h : k ∈ T) : (T ++ r).idxOf k = T.idxOf k := by rw [List.idxOf_append, if_pos h]
theorem idxOf_end {T : List Kz} {k : Kz} (h : ¬ k ∈ T) : (T ++ [k]).idxOf k = T.length := by rw [List.idxOf_append, if_neg h]; simp
theorem idxOf_at {T : List Kz} (hd : T.Nodup) (i : Nat) (hi : i < T.length) : T.idxOf T[i] = i := by
  have h1 := List.idxOf_lt_length_iff.2 (List.getElem_mem hi)
  exact (List.getElem_inj (h₀ := h1) (h₁ := hi) hd).1 (List.getElem_idxOf h1)
/-- What a number's being given says. -/
theorem numK_ok {T T' : List Kz} {k : Kz} {i : Nat} (h : numK T k = (i, 0, T')) : k ∈ T' ∧ i = T'.idxOf k ∧ (T' = T ∨ (T' = T ++ [k] ∧ k ∉ T ∧ T.length < 120)) := by
  unfold numK at h
  split at h
  · rename_i h1
    simp only [Prod.mk.injEq] at h
    obtain ⟨rfl, -, rfl⟩ := h
    exact ⟨h1, rfl, .inl rfl⟩
  · rename_i h1
    split at h
    · simp at h
    · rename_i h2
      simp only [Prod.mk.injEq] at h
      obtain ⟨rfl, -, rfl⟩ := h
      exact ⟨by simp, (idxOf_end h1).symm, .inr ⟨rfl, h1, by omega⟩⟩
theorem numK_there {T : List Kz} {k : Kz} (h : k ∈ T) : numK T k = (T.idxOf k, 0, T) := by unfold numK; exact if_pos h
theorem get_prefix {T T' : List Kz} (h : T <+: T') {i : Nat} (hi : i < T.length) : ∃ hi' : i < T'.length, T'[i] = T[i] := by
  obtain ⟨r, rfl⟩ := h
  exact ⟨by simp; omega, List.getElem_append_left hi⟩
theorem get_idx {T : List Kz} {k : Kz} (hk : k ∈ T) : ∃ h : T.idxOf k < T.length, T[T.idxOf k] = k := ⟨List.idxOf_lt_length_iff.2 hk, List.getElem_idxOf (List.idxOf_lt_length_iff.2 hk)⟩
def typK (T : List Kz) : Nat → Nat → Tz
  | 0, _ => .mk 0 [] [] []
  | f + 1, i => match T[i]? with | some k => .mk k.kind k.name k.names (k.kids.map (typK T f)) | none => .mk 0 [] [] []
def typT (T : List Kz) (i : Nat) : Tz := typK T (i + 1) i
theorem typK_some {T : List Kz} {f i : Nat} (h : i < T.length) : typK T (f + 1) i = .mk T[i].kind T[i].name T[i].names (T[i].kids.map (typK T f)) := by rw [typK, List.getElem?_eq_getElem h]
theorem typK_none {T : List Kz} {f i : Nat} (h : T.length ≤ i) : typK T f i = .mk 0 [] [] [] := by
  cases f with
  | zero => rfl
  | succ f => rw [typK, List.getElem?_eq_none h]
theorem typK_fuel {T : List Kz} (hT : ∀ i (h : i < T.length), ∀ j ∈ T[i].kids, j < i) : ∀ (f g i : Nat), i < f → i < g → typK T f i = typK T g i
  | 0, _, _, h, _ => by omega
  | _ + 1, 0, _, _, h => by omega
  | f + 1, g + 1, i, hf, hg => by
    by_cases hi : i < T.length
    · rw [typK_some hi, typK_some hi]
      congr 1
      exact List.map_congr_left fun j hj => typK_fuel hT f g j (by have := hT i hi j hj; omega) (by have := hT i hi j hj; omega)
    · rw [typK_none (by omega), typK_none (by omega)]
theorem typT_at {T : List Kz} (hT : ∀ i (h : i < T.length), ∀ j ∈ T[i].kids, j < i) {i : Nat} (h : i < T.length) : typT T i = .mk T[i].kind T[i].name T[i].names (T[i].kids.map (typT T)) := by
  unfold typT
  rw [typK_some h]
  congr 1
  exact List.map_congr_left fun j hj => typK_fuel hT _ _ j (hT i h j hj) (by omega)
theorem typK_prefix {T T' : List Kz} (hp : T <+: T') (hT : ∀ i (h : i < T.length), ∀ j ∈ T[i].kids, j < i) : ∀ (f i : Nat), i < T.length → typK T' f i = typK T f i
  | 0, _, _ => rfl
  | f + 1, i, hi => by
    obtain ⟨hi', e⟩ := get_prefix hp hi
    rw [typK_some hi, typK_some hi', e]
    congr 1
    exact List.map_congr_left fun j hj => typK_prefix hp hT f j (by have := hT i hi j hj; omega)
theorem typT_prefix {T T' : List Kz} (hp : T <+: T') (hT : ∀ i (h : i < T.length), ∀ j ∈ T[i].kids, j < i) {i : Nat} (hi : i < T.length) : typT T' i = typT T i := typK_prefix hp hT _ _ hi
theorem numK_wf {T : List Kz} {k : Kz} (hT : TabW T) (hk : WfK k) (hj : ∀ j ∈ k.kids, j < T.length) : TabW (numK T k).2.2 := by
  unfold numK
  split
  · exact hT
  · rename_i h1
    split
    · exact hT
    · rename_i h2
      refine ⟨?_, by simp; omega, fun i hi j hjm => ?_, fun x hx => ?_⟩
      · rw [List.nodup_append]
        exact ⟨hT.nd, by simp, fun a ha b hb e => h1 (by rw [List.mem_singleton.1 hb] at e; exact e ▸ ha)⟩
      · simp only [List.length_append, List.length_singleton] at hi
        by_cases h : i < T.length
        · rw [List.getElem_append_left h] at hjm; exact hT.kids i h j hjm
        · rw [List.getElem_append_right (by omega)] at hjm
          simp at hjm
          have := hj j hjm; omega
      · rcases List.mem_append.1 hx with hx | hx
        · exact hT.wf x hx
        · rw [List.mem_singleton.1 hx]; exact hk
mutual
/-- A type that is added: the table stays one; its number's tree is it. -/
theorem treeK_wf {has : List UInt8 → Bool} : ∀ (t : Tz) (T : List Kz), TabW T → okK has t = true → TabW (treeK T t).2.2 ∧ ((treeK T t).2.1 = 0 → (treeK T t).1 < (treeK T t).2.2.length ∧ typT (treeK T t).2.2 (treeK T t).1 = t)
  | .mk k nm ns ks, T, hT, hk => by
    rw [okK, Bool.and_eq_true, decide_eq_true_eq] at hk
    obtain ⟨a, b⟩ := kidsK_wf ks T hT hk.2
    rw [treeK]
    by_cases h : (kidsK T ks).2.1 = 0
    · rw [if_pos h]
      obtain ⟨b1, b2, b3⟩ := b h
      obtain ⟨ids, hids⟩ : ∃ ids, (kidsK T ks).1 = ids := ⟨_, rfl⟩
      obtain ⟨T1, hT1⟩ : ∃ T1, (kidsK T ks).2.2 = T1 := ⟨_, rfl⟩
      rw [hids, hT1] at b2 b3
      rw [hids] at b1
      rw [hT1] at a
      rw [hids, hT1]
      have hw := numK_wf a (k := ⟨k, nm, ns, ids⟩) (wfK_of (by rw [b1]; exact hk.1)) b2
      refine ⟨hw, fun he => ?_⟩
      obtain ⟨⟨i, e, T2⟩, h2⟩ : ∃ p, numK T1 ⟨k, nm, ns, ids⟩ = p := ⟨_, rfl⟩
      rw [h2] at he hw ⊢
      dsimp only at he hw ⊢
      subst he
      obtain ⟨c1, c2, c3⟩ := numK_ok h2
      obtain ⟨d1, d2⟩ := get_idx c1
      rw [← c2] at d1
      refine ⟨d1, ?_⟩
      have d3 : T2[i] = ⟨k, nm, ns, ids⟩ := by subst c2; exact d2
      rw [typT_at hw.kids d1, d3]
      dsimp only
      congr 1
      have hp : T1 <+: T2 := by have := numK_grow T1 ⟨k, nm, ns, ids⟩; rw [h2] at this; exact this
      rw [← b3]
      exact List.map_congr_left fun j hj => typT_prefix hp a.kids (b2 j hj)
    · rw [if_neg h]; exact ⟨a, fun he => absurd he h⟩
theorem kidsK_wf {has : List UInt8 → Bool} : ∀ (ks : List Tz) (T : List Kz), TabW T → okKs has ks = true → TabW (kidsK T ks).2.2 ∧ ((kidsK T ks).2.1 = 0 → (kidsK T ks).1.length = ks.length ∧ (∀ j ∈ (kidsK T ks).1, j < (kidsK T ks).2.2.length) ∧ (kidsK T ks).1.map (typT (kidsK T ks).2.2) = ks)
  | [], T, hT, _ => by rw [kidsK]; exact ⟨hT, fun _ => ⟨rfl, (fun j hj => by cases hj), rfl⟩⟩
  | t :: ks, T, hT, hk => by
    rw [okKs, Bool.and_eq_true] at hk
    obtain ⟨a, b⟩ := treeK_wf t T hT hk.1
    rw [kidsK]
    by_cases h : (treeK T t).2.1 = 0
    · rw [if_pos h]
      obtain ⟨b1, b2⟩ := b h
      obtain ⟨c, d⟩ := kidsK_wf ks _ a hk.2
      refine ⟨c, fun he => ?_⟩
      obtain ⟨d1, d2, d3⟩ := d he
      have hp := kidsK_grow ks (treeK T t).2.2
      refine ⟨by simp [d1], fun j hj => ?_, ?_⟩
      · rcases List.mem_cons.1 hj with rfl | hj
        · exact Nat.lt_of_lt_of_le b1 hp.length_le
        · exact d2 j hj
      · rw [List.map_cons, d3, typT_prefix hp a.kids b1, b2]
    · rw [if_neg h]; exact ⟨a, fun he => absurd he h⟩
end
/-- The tree of a number has that number. -/
theorem typT_again {T : List Kz} (hT : TabW T) : ∀ (n i : Nat), i < n → i < T.length → treeK T (typT T i) = (i, 0, T)
  | 0, _, h, _ => by omega
  | n + 1, i, hn, hi => by
    have key : ∀ ids : List Nat, (∀ j ∈ ids, j < i) → kidsK T (ids.map (typT T)) = (ids, 0, T) := by
      intro ids
      induction ids with
      | nil => intro _; rw [List.map_nil, kidsK]
      | cons j ids ih =>
        intro h
        have hj := h j List.mem_cons_self
        rw [List.map_cons, kidsK, typT_again hT n j (by omega) (by omega)]
        dsimp only
        rw [if_pos rfl, ih fun x hx => h x (List.mem_cons_of_mem _ hx)]
    rw [typT_at hT.kids hi, treeK, key _ (hT.kids i hi)]
    dsimp only
    rw [if_pos rfl, numK_there (List.getElem_mem hi)]
    congr 1
    exact idxOf_at hT.nd i hi
/-- A table of types that may be, none greater than M. -/
structure TabG (has : List UInt8 → Bool) (M : Nat) (T : List Kz) : Prop extends TabW T where
  ok : ∀ i, i < T.length → okK has (typT T i) = true ∧ sizeZ (typT T i) ≤ M
theorem TabG.nil {has : List UInt8 → Bool} {M : Nat} : TabG has M [] := ⟨TabW.nil, fun i h => by cases h⟩
mutual
theorem treeK_g {has : List UInt8 → Bool} {M : Nat} : ∀ (t : Tz) (T : List Kz), TabG has M T → okK has t = true → sizeZ t ≤ M → TabG has M (treeK T t).2.2
  | .mk k nm ns ks, T, hT, hk, hM => by
    have hw := treeK_wf (.mk k nm ns ks) T hT.toTabW hk
    have hk' := hk
    rw [okK, Bool.and_eq_true] at hk
    have hM' := hM
    rw [sizeZ] at hM
    have hg := kidsK_g ks T hT hk.2 (by omega)
    refine ⟨hw.1, fun i hi => ?_⟩
    obtain ⟨hw1, hw2⟩ := hw
    rw [treeK] at hw1 hw2 hi ⊢
    by_cases h : (kidsK T ks).2.1 = 0
    · rw [if_pos h] at hw1 hw2 hi ⊢
      obtain ⟨⟨j, e, T2⟩, h2⟩ : ∃ p, numK (kidsK T ks).2.2 ⟨k, nm, ns, (kidsK T ks).1⟩ = p := ⟨_, rfl⟩
      rw [h2] at hw1 hw2 hi ⊢
      dsimp only at hw1 hw2 hi ⊢
      by_cases hi2 : i < (kidsK T ks).2.2.length
      · have hp := numK_grow (kidsK T ks).2.2 ⟨k, nm, ns, (kidsK T ks).1⟩
        rw [h2] at hp
        rw [typT_prefix hp hg.kids hi2]
        exact hg.ok i hi2
      · by_cases he : e = 0
        · obtain ⟨c1, c2⟩ := hw2 he
          subst he
          obtain ⟨d1, d2, d3⟩ := numK_ok h2
          rcases d3 with d3 | ⟨d3, d4, -⟩
          · rw [d3] at hi; exact absurd hi hi2
          · have : i = j := by
              rw [d2, d3, idxOf_end d4]
              rw [d3] at hi
              simp at hi; omega
            rw [this, c2]
            exact ⟨hk', hM'⟩
        · have : T2 = (kidsK T ks).2.2 := by
            unfold numK at h2
            split at h2
            · simp only [Prod.mk.injEq] at h2; exact h2.2.2.symm
            · split at h2
              · simp only [Prod.mk.injEq] at h2; exact h2.2.2.symm
              · simp only [Prod.mk.injEq] at h2; exact absurd h2.2.1.symm he
          rw [this] at hi; exact absurd hi hi2
    · rw [if_neg h] at hi ⊢; exact hg.ok i hi
theorem kidsK_g {has : List UInt8 → Bool} {M : Nat} : ∀ (ks : List Tz) (T : List Kz), TabG has M T → okKs has ks = true → sizeZs ks ≤ M → TabG has M (kidsK T ks).2.2
  | [], T, hT, _, _ => by rw [kidsK]; exact hT
  | t :: ks, T, hT, hk, hM => by
    rw [okKs, Bool.and_eq_true] at hk
    rw [sizeZs] at hM
    have := treeK_g t T hT hk.1 (by omega)
    rw [kidsK]
    split
    · exact kidsK_g ks _ this hk.2 (by omega)
    · exact this
end
end Sp
end Go.Proofs.Ytdophmlnmbcjlaa
