/- What Tree and Schema make is such as memory can hold. -/
import Derived.Test.YteooafgdmpbjeabV41
import Derived.Test.YteooafgdmpbjeabV45
import Derived.Test.YteooafgdmpbjeabV48
import Derived.Test.YteooafgdmpbjeabV43
import Derived.Test.YteooafgdmpbjeabV20
namespace Go.Proofs.Yteooafgdmpbjeab
namespace Sp
open Sc
theorem fitZs_append : ∀ a b : List Tz, fitZs (a ++ b) = (fitZs a && fitZs b)
  | [], b => by simp [fitZs]
  | t :: a, b => by simp only [List.cons_append, fitZs, fitZs_append a b, Bool.and_assoc]
theorem fit_mk {k : Int} {nm : List UInt8} {ns : List (List UInt8)} {ks : List Tz} (h1 : nm.length ≤ 100) (h2 : ns.length ≤ 100) (h3 : ∀ n ∈ ns, n.length ≤ 100) (h4 : ks.length ≤ 100) (h5 : fitZs ks = true) : fitZ (.mk k nm ns ks) = true := by
  rw [fitZ, h5]
  simp only [Bool.and_eq_true, decide_eq_true_eq, List.all_eq_true]
  unfold maxLen
  exact ⟨⟨by omega, ⟨by omega, fun n hn => by have := h3 n hn; omega⟩, by omega⟩, trivial⟩
theorem nameL_len (n : Int) : (nameL n).length ≤ 100 := by
  unfold nameL
  have h : 0 ≤ n % 7 ∧ n % 7 < 7 := by omega
  obtain ⟨k, hk⟩ : ∃ k : Nat, n % 7 = k := ⟨(n % 7).toNat, by omega⟩
  rw [hk]
  have hk7 : k < 7 := by omega
  match k, hk7 with
  | 0, _ => decide
  | 1, _ => decide
  | 2, _ => decide
  | 3, _ => decide
  | 4, _ => decide
  | 5, _ => decide
  | 6, _ => decide
theorem fldN_len (ns : List Int) (i : Nat) : (fldN ns i).length ≤ 100 := by
  unfold fldN
  split
  · exact nameL_len _
  · decide
/-- A record's, a union's parts: few, and such as memory can hold. -/
structure FitR (t : Tz) (i : Nat) : Prop where
  form : ∃ k ms us, t = .mk k [] ms us ∧ ms.length = us.length ∧ ms.length ≤ i ∧ (∀ n ∈ ms, n.length ≤ 100) ∧ fitZs us = true
theorem FitR.put {t x : Tz} {i : Nat} {n : List UInt8} (h : FitR t i) (hn : n.length ≤ 100) (hx : fitZ x = true) : FitR (putT n x t) (i + 1) := by
  obtain ⟨k, ms, us, rfl, h1, h2, h3, h4⟩ := h
  rw [putT]
  split
  · exact ⟨k, ms, us, rfl, h1, by omega, h3, h4⟩
  · have hp := posT_le ms n
    have e := List.take_append_drop (posT ms n) us
    have k1 := fitZs_append (us.take (posT ms n)) (us.drop (posT ms n))
    rw [e, h4] at k1
    have k2 := k1.symm
    rw [Bool.and_eq_true] at k2
    refine ⟨k, _, _, rfl, by simp; omega, by simp; omega, fun m hm => ?_, ?_⟩
    · simp only [List.mem_append, List.mem_singleton] at hm
      rcases hm with (hm | rfl) | hm
      · exact h3 m (List.mem_of_mem_take hm)
      · exact hn
      · exact h3 m (List.mem_of_mem_drop hm)
    · rw [fitZs_append, fitZs_append, k2.1, k2.2]; simp [fitZs, hx]
theorem FitR.fit {t : Tz} {i : Nat} (h : FitR t i) (hi : i ≤ 100) : fitZ t = true := by
  obtain ⟨k, ms, us, rfl, h1, h2, h3, h4⟩ := h
  exact fit_mk (by simp) (by omega) h3 (by omega) h4
theorem treeR_fit (names : List (List UInt8)) (hn : ∀ n ∈ names, n.length ≤ 100) : ∀ (d : Nat) (r : Rw), fitZ (treeR names d r) = true
  | 0, .mk kd n ns ks => by
    have hl : (names.getD (n % names.length).toNat []).length ≤ 100 := by
      rw [List.getD]
      cases h : names[(n % names.length).toNat]? with
      | none => simp
      | some x => exact hn x (List.mem_of_getElem? h)
    rw [treeR]
    split
    · exact fit_mk hl (by simp) (fun n hn => by cases hn) (by simp) rfl
    · exact fit_mk (by simp) (by simp) (fun n hn => by cases hn) (by simp) rfl
  | d + 1, .mk kd n ns ks => by
    have hl : (names.getD (n % names.length).toNat []).length ≤ 100 := by
      rw [List.getD]
      cases h : names[(n % names.length).toNat]? with
      | none => simp
      | some x => exact hn x (List.mem_of_getElem? h)
    have h1 := topK_rng names.length (d + 1) kd
    obtain ⟨k, hk⟩ : ∃ k, topK names.length (d + 1) kd = k := ⟨_, rfl⟩
    have ih := fun r => treeR_fit names hn d r
    rw [hk] at h1
    by_cases h9 : k = 9
    · rw [treeR_name _ _ _ _ _ _ (hk.trans h9)]
      exact fit_mk hl (by simp) (fun n hn => by cases hn) (by simp) rfl
    · by_cases h3 : k ≤ 3
      · rw [treeR_leaf _ _ _ _ _ _ (by rw [hk]; exact h3)]
        exact fit_mk (by simp) (by simp) (fun n hn => by cases hn) (by simp) rfl
      · by_cases h6 : k ≤ 6
        · rw [treeR_kid _ _ _ _ _ _ k hk (by omega)]
          split
          · exact ih _
          · exact fit_mk (by simp) (by simp) (fun n hn => by cases hn) (by simp) (by rw [fitZs, ih]; rfl)
        · rw [treeR_recT _ _ _ _ _ _ k hk (by omega)]
          have hf : fldM k ns ≤ 4 := by unfold fldM; split <;> omega
          have key : ∀ i, FitR (recT names d kd n ns ks k i) i := by
            intro i
            induction i with
            | zero => exact ⟨k, [], [], rfl, rfl, Nat.le_refl _, (fun n hn => by cases hn), rfl⟩
            | succ i ihh => rw [recT_succ]; exact ihh.put (fldN_len ns i) (ih _)
          exact (key (fldM k ns)).fit (by omega)
theorem nm4_len : ∀ n ∈ nm4, n.length ≤ 100 := by decide
theorem namesR_len100 (types : List Rw) : ∀ n ∈ namesR types, n.length ≤ 100 := fun n hn => nm4_len n (List.mem_of_mem_take hn)
theorem schR_fit (main : Rw) (types sigs : List Rw) : SzFit (schR main types sigs) := by
  have hn := namesR_len100 types
  refine ⟨treeR_fit _ hn _ _, fun i hi => ?_, fun i hi => ?_⟩
  · simp only [schR, ntR, List.getElem_map, List.getElem_range]
    refine ⟨?_, treeR_fit _ hn _ _⟩
    rw [List.getD]
    cases h : (namesR types)[i]? with
    | none => simp
    | some x => have := hn x (List.mem_of_getElem? h); unfold maxLen; simp; omega
  · simp only [schR, sgsR, List.getElem_map, List.getElem_range]
    unfold sgR fitG
    simp only [Bool.and_eq_true, decide_eq_true_eq]
    refine ⟨⟨⟨?_, ?_⟩, ?_⟩, treeR_fit _ hn _ _⟩
    · have : ∀ n ∈ fn4, n.length ≤ 100 := by decide
      rw [List.getD]
      cases h : fn4[i]? with
      | none => simp
      | some x => have := this x (List.mem_of_getElem? h); unfold maxLen; simp; omega
    · simp only [parR, List.length_map, List.length_range]; unfold maxLen; omega
    · have : ∀ l : List Tz, (∀ t ∈ l, fitZ t = true) → fitZs l = true := by
        intro l
        induction l with
        | nil => intro _; rfl
        | cons t l ih => intro h; rw [fitZs, h t List.mem_cons_self, ih (fun x hx => h x (List.mem_cons_of_mem _ hx))]; rfl
      refine this _ fun t ht => ?_
      obtain ⟨k, _, rfl⟩ := List.mem_map.1 ht
      exact treeR_fit _ hn _ _
theorem schR_types (main : Rw) (types sigs : List Rw) : (schR main types sigs).types.length = min types.length 4 := by simp [schR, ntR, namesR_len]
theorem schR_sigs (main : Rw) (types sigs : List Rw) : (schR main types sigs).sigs.length = min sigs.length 4 := by simp [schR, sgsR]
end Sp
end Go.Proofs.Yteooafgdmpbjeab
namespace Go.Proofs.Yteooafgdmpbjeab
namespace Sp
open Sc
theorem shortZs_append : ∀ a b : List Tz, shortZs (a ++ b) = (shortZs a && shortZs b)
  | [], b => by simp [shortZs]
  | t :: a, b => by simp only [List.cons_append, shortZs, shortZs_append a b, Bool.and_assoc]
theorem short_mk {k : Int} {nm : List UInt8} {ns : List (List UInt8)} {ks : List Tz} (h1 : nm.length ≤ 100) (_h2 : ns.length ≤ 100) (h3 : ∀ n ∈ ns, n.length ≤ 100) (_h4 : ks.length ≤ 100) (h5 : shortZs ks = true) : shortZ (.mk k nm ns ks) = true := by
  rw [shortZ, h5]
  simp only [Bool.and_eq_true, decide_eq_true_eq, List.all_eq_true]
  exact ⟨⟨by omega, fun n hn => by have := h3 n hn; omega⟩, trivial⟩
/-- A record's, a union's parts: few, and such as memory can hold. -/
structure ShoR (t : Tz) (i : Nat) : Prop where
  form : ∃ k ms us, t = .mk k [] ms us ∧ ms.length = us.length ∧ ms.length ≤ i ∧ (∀ n ∈ ms, n.length ≤ 100) ∧ shortZs us = true
theorem ShoR.put {t x : Tz} {i : Nat} {n : List UInt8} (h : ShoR t i) (hn : n.length ≤ 100) (hx : shortZ x = true) : ShoR (putT n x t) (i + 1) := by
  obtain ⟨k, ms, us, rfl, h1, h2, h3, h4⟩ := h
  rw [putT]
  split
  · exact ⟨k, ms, us, rfl, h1, by omega, h3, h4⟩
  · have hp := posT_le ms n
    have e := List.take_append_drop (posT ms n) us
    have k1 := shortZs_append (us.take (posT ms n)) (us.drop (posT ms n))
    rw [e, h4] at k1
    have k2 := k1.symm
    rw [Bool.and_eq_true] at k2
    refine ⟨k, _, _, rfl, by simp; omega, by simp; omega, fun m hm => ?_, ?_⟩
    · simp only [List.mem_append, List.mem_singleton] at hm
      rcases hm with (hm | rfl) | hm
      · exact h3 m (List.mem_of_mem_take hm)
      · exact hn
      · exact h3 m (List.mem_of_mem_drop hm)
    · rw [shortZs_append, shortZs_append, k2.1, k2.2]; simp [shortZs, hx]
theorem ShoR.short {t : Tz} {i : Nat} (h : ShoR t i) (hi : i ≤ 100) : shortZ t = true := by
  obtain ⟨k, ms, us, rfl, h1, h2, h3, h4⟩ := h
  exact short_mk (by simp) (by omega) h3 (by omega) h4
theorem treeR_short (names : List (List UInt8)) (hn : ∀ n ∈ names, n.length ≤ 100) : ∀ (d : Nat) (r : Rw), shortZ (treeR names d r) = true
  | 0, .mk kd n ns ks => by
    have hl : (names.getD (n % names.length).toNat []).length ≤ 100 := by
      rw [List.getD]
      cases h : names[(n % names.length).toNat]? with
      | none => simp
      | some x => exact hn x (List.mem_of_getElem? h)
    rw [treeR]
    split
    · exact short_mk hl (by simp) (fun n hn => by cases hn) (by simp) rfl
    · exact short_mk (by simp) (by simp) (fun n hn => by cases hn) (by simp) rfl
  | d + 1, .mk kd n ns ks => by
    have hl : (names.getD (n % names.length).toNat []).length ≤ 100 := by
      rw [List.getD]
      cases h : names[(n % names.length).toNat]? with
      | none => simp
      | some x => exact hn x (List.mem_of_getElem? h)
    have h1 := topK_rng names.length (d + 1) kd
    obtain ⟨k, hk⟩ : ∃ k, topK names.length (d + 1) kd = k := ⟨_, rfl⟩
    have ih := fun r => treeR_short names hn d r
    rw [hk] at h1
    by_cases h9 : k = 9
    · rw [treeR_name _ _ _ _ _ _ (hk.trans h9)]
      exact short_mk hl (by simp) (fun n hn => by cases hn) (by simp) rfl
    · by_cases h3 : k ≤ 3
      · rw [treeR_leaf _ _ _ _ _ _ (by rw [hk]; exact h3)]
        exact short_mk (by simp) (by simp) (fun n hn => by cases hn) (by simp) rfl
      · by_cases h6 : k ≤ 6
        · rw [treeR_kid _ _ _ _ _ _ k hk (by omega)]
          split
          · exact ih _
          · exact short_mk (by simp) (by simp) (fun n hn => by cases hn) (by simp) (by rw [shortZs, ih]; rfl)
        · rw [treeR_recT _ _ _ _ _ _ k hk (by omega)]
          have hf : fldM k ns ≤ 4 := by unfold fldM; split <;> omega
          have key : ∀ i, ShoR (recT names d kd n ns ks k i) i := by
            intro i
            induction i with
            | zero => exact ⟨k, [], [], rfl, rfl, Nat.le_refl _, (fun n hn => by cases hn), rfl⟩
            | succ i ihh => rw [recT_succ]; exact ihh.put (fldN_len ns i) (ih _)
          exact (key (fldM k ns)).short (by omega)
theorem schR_short (main : Rw) (types sigs : List Rw) : ShortS (schR main types sigs) := by
  have hn := namesR_len100 types
  refine ⟨fun i hi => ?_, ⟨treeR_fit _ hn _ _, treeR_short _ hn _ _⟩, fun g hg => ?_⟩
  · simp only [schR, ntR, List.getElem_map, List.getElem_range]
    refine ⟨?_, treeR_fit _ hn _ _, treeR_short _ hn _ _⟩
    rw [List.getD]
    cases h : (namesR types)[i]? with
    | none => simp
    | some x => have := hn x (List.mem_of_getElem? h); simp; omega
  · simp only [schR, sgsR] at hg
    obtain ⟨i, -, rfl⟩ := List.mem_map.1 hg
    unfold sgR
    refine ⟨?_, ?_, fun t ht => ?_, treeR_fit _ hn _ _, treeR_short _ hn _ _⟩
    · have : ∀ n ∈ fn4, n.length ≤ 100 := by decide
      dsimp only
      rw [List.getD]
      cases h : fn4[i]? with
      | none => simp
      | some x => have := this x (List.mem_of_getElem? h); simp; omega
    · simp only [parR, List.length_map, List.length_range]; omega
    · obtain ⟨k, _, rfl⟩ := List.mem_map.1 ht
      exact ⟨treeR_fit _ hn _ _, treeR_short _ hn _ _⟩
end Sp
end Go.Proofs.Yteooafgdmpbjeab
namespace Go.Proofs.Yteooafgdmpbjeab
open Go.RowKit
namespace Sp
open Sc
/-- A row of types; what they lead to lies behind block xb, beside the row's own. -/
def KS (w : World) (xb : Nat) (v : Value) (g : Nat) : Prop := xb + 1 ≤ g ∧ g < w.heap.size ∧ v.ownBlock ≠ some g
structure KRow (w : World) (xb : Nat) (v : Value) (l : List Tz) (us : List C4) : Prop where
  own : w.ownsRow (xb + 1) 31 4 v us.length (us.flatMap C4.cells)
  len : us.length = l.length
  val : ∀ i (h : i < l.length) (h' : i < us.length), TzV w (KS w xb v) l[i] us[i]
section
variable {w w' w3 : World} {xb : Nat} {v v' : Value} {l : List Tz} {us : List C4} {t : Tz} {c : C4}
theorem KRow.start (w : World) (xb : Nat) : KRow w xb (.slice none 0 0) [] [] := ⟨World.ownsRow_nil _ _ _ _, rfl, fun i h => by cases h⟩
theorem KRow.below (h : KRow w xb v l us) (hb : Below w.heap.size w w') : KRow w' xb v l us :=
  ⟨h.own.kept (row := none) ⟨hb.os, hb.tape, hb.output, hb.size, fun k hk _ => hb.block k hk⟩ (by cases v.ownBlock <;> simp), h.len, fun i h1 h2 => (h.val i h1 h2).keep (fun g hg => ⟨hg.1, Nat.lt_of_lt_of_le hg.2.1 hb.size, hg.2.2⟩) (fun g hg => hb.block g hg.2.1)⟩
theorem KRow.only (h : KRow w xb v l us) (ho : Only xb w w') : KRow w' xb v l us :=
  ⟨h.own.kept ho (by
      cases hv : v.ownBlock with
      | none => exact .inl rfl
      | some g => refine .inr fun e => ?_; cases e; have := (h.own.lt _ hv).1; omega), h.len, fun i h1 h2 => (h.val i h1 h2).keep (fun g hg => ⟨hg.1, Nat.lt_of_lt_of_le hg.2.1 ho.size, hg.2.2⟩) (fun g hg => ho.block g hg.2.1 (fun e => by cases e; have := hg.1; omega))⟩
theorem KRow.snoc (h : KRow w xb v l us) (hV : TzV w (KS w xb v) t c) (hown : w3.ownsRow (xb + 1) 31 4 v' (us.length + 1) (us.flatMap C4.cells ++ c.cells))
    (hgr : w.grownBy w3 v.ownBlock) (hfr : ∀ g, v'.ownBlock = some g → v.ownBlock = some g ∨ w.heap.size ≤ g) : KRow w3 xb v' (l ++ [t]) (us ++ [c]) := by
  have s1 : ∀ g, KS w xb v g → KS w3 xb v' g := fun g hg => ⟨hg.1, Nat.lt_of_lt_of_le hg.2.1 hgr.size, fun e => by
    rcases hfr g e with e | e
    · exact hg.2.2 e
    · have := hg.2.1; omega⟩
  have s2 : ∀ g, KS w xb v g → w3.heap[g]? = w.heap[g]? := fun g hg => hgr.block g hg.2.1 (fun e => hg.2.2 e.symm)
  refine ⟨by simpa [List.flatMap_append] using hown, by simp [h.len], fun i h1 h2 => ?_⟩
  have hlen := h.len
  by_cases hi : i < us.length
  · rw [List.getElem_append_left hi, List.getElem_append_left (by omega)]
    exact (h.val i (by omega) hi).keep s1 s2
  · simp at h1 h2
    obtain rfl : i = us.length := by omega
    simp only [List.getElem_append_right (Nat.le_refl _), Nat.sub_self, List.getElem_cons_zero]
    rw [List.getElem_append_right (by omega)]
    simp only [hlen, Nat.sub_self, List.getElem_cons_zero]
    exact hV.keep s1 s2
theorem KRow.row {a : Option Addr} {n cc : Nat} (h : KRow w xb (.slice a n cc) l us) (S : Nat → Prop) (hS : ∀ g, xb + 1 ≤ g → g < w.heap.size → S g) : RowV w S a 4 (us.map C4.cells) := by
  obtain ⟨a', c', e, hr⟩ := RowV.own (S := S) (l := us.map C4.cells) h.own (cells4_len us) (by simp) (fun g hg => hS g (h.own.lt g hg).1 (h.own.lt g hg).2)
  cases e
  exact hr
end
end Sp
end Go.Proofs.Yteooafgdmpbjeab
