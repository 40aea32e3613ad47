/- Pairs of numbers as a map's keys; the map of the pairs that were opened. -/
import Derived.Test.YteooafgdmpbjeabU3
import Derived.Test.YteooafgdmpbjeabU6
namespace Go.Proofs.Yteooafgdmpbjeab
open Go.RowKit
namespace Sp
open Sc
set_option maxRecDepth 100000
def prV (a b : Nat) : Value := .agg #[.int .i64 (a : Nat), .int .i64 (b : Nat)]
def prLits (p : Nat × Nat) : List Go.Lit := [.int .i64 (p.1 : Nat), .int .i64 (p.2 : Nat)]
def prLit (p : Nat × Nat) : Go.Lit := .string (keyBytes (prLits p))
theorem rowPr : (84 : TypeId) < Try.prog.types.size := of_decide_eq_true (by kernel_rfl)
theorem cellsPr : Try.prog.cellsOf 84 = 2 := by kernel_rfl
theorem widePr : (match Try.prog.underlying 84 with | some (.array _ _) | some (.struct _) => true | _ => false) = true := by kernel_rfl
theorem pairLaw : Maps.Keyed Try.prog 84 := Maps.Keyed.of_law (deep_law_laid laidK (m := 3) (by omega) rowPr (by kernel_rfl) widePr)
theorem typePr : Try.prog.keyType 84 = true := by kernel_rfl
/-- Numbers that a key may hold. -/
def PrFit (p : Nat × Nat) : Prop := p.1 < 1000 ∧ p.2 < 1000
theorem prlits_of (p : Nat × Nat) (h : PrFit p) (d : Nat) : Try.prog.keyLits (d + 3) 84 [.int .i64 (p.1 : Nat), .int .i64 (p.2 : Nat)] = some (prLits p) := by
  have s0 := lit_int (d + 1) (p.1 : Nat) (WalkArith.wf_i64 (by have := h.1; omega))
  have s1 := lit_int (d + 1) (p.2 : Nat) (WalkArith.wf_i64 (by have := h.2; omega))
  have ci : Try.prog.cellsOf 3 = 1 := by kernel_rfl
  rw [Program.keyLits.eq_def]
  simp only [Try.underlying84, cellsPr, ci, prLits]
  simp [List.range_succ, s0, s1]
theorem keyOf_pr (p : Nat × Nat) (h : PrFit p) : keyOf Try.prog 84 (prV p.1 p.2) = some (prLit p) := by
  unfold keyOf
  rw [Try.underlying84]
  have hf : (prV p.1 p.2).formed Try.prog 84 = true := by
    simp [Value.formed, Try.underlying84, cellsPr, prV]
  have e : Try.prog.types.size + 1 = (Try.prog.types.size - 2) + 3 := by
    have : (3 : Nat) ≤ Try.prog.types.size := Nat.le_of_lt (Nat.lt_of_le_of_lt (by decide) rowPr)
    omega
  have e2 : (prV p.1 p.2).cells.toList = [.int .i64 (p.1 : Nat), .int .i64 (p.2 : Nat)] := by simp [Value.cells, prV]
  simp only [typePr, hf]
  rw [e, e2, prlits_of p h]
  simp [prLit]
theorem prLit_inj {a b : Nat × Nat} (ha : PrFit a) (hb : PrFit b) (h : prLit a = prLit b) : a = b := by
  have e := pairLaw.inj (keyOf_pr a ha) (by rw [h]; exact keyOf_pr b hb)
  simp only [prV, Value.agg.injEq] at e
  have e2 : [Value.int .i64 (a.1 : Nat), .int .i64 (a.2 : Nat)] = [.int .i64 (b.1 : Nat), .int .i64 (b.2 : Nat)] := by simpa using congrArg Array.toList e
  simp only [List.cons.injEq, Value.int.injEq, true_and, and_true] at e2
  exact Prod.ext (by omega) (by omega)
def prD (S : List (Nat × Nat)) : DataW Value := S.foldl (fun D p => D.put (prLit p) (.held (.agg #[]))) (.map [])
theorem prD_snoc (S : List (Nat × Nat)) (p : Nat × Nat) : prD (S ++ [p]) = (prD S).put (prLit p) (.held (.agg #[])) := by
  unfold prD; rw [List.foldl_append]; simp
theorem prKeyLit (p : Nat × Nat) : WideAt.IsKeyLit (prLit p) := trivial
theorem tidy_prD : ∀ S, Maps.Tidy (prD S) := by
  apply snoc_ind
  · exact Maps.tidy_empty
  · intro l x h; rw [prD_snoc]; exact h.put (prKeyLit x) _
theorem has_prD {p : Nat × Nat} (hp : PrFit p) : ∀ S : List (Nat × Nat), (∀ x ∈ S, PrFit x) → Maps.has (prD S) (prLit p) = decide (p ∈ S) := by
  apply snoc_ind
  · intro _; simp [prD]; rfl
  · intro l x ih h
    have ih := ih fun y hy => h y (by simp [hy])
    rw [prD_snoc]
    by_cases e : x = p
    · rw [e, Maps.has_put_same (tidy_prD l).isMap (prKeyLit p)]; simp
    · rw [Maps.has_put_other (fun e' => e (prLit_inj (h x (by simp)) hp e'.symm)), ih]
      simp [Ne.symm e]
theorem at_prD {p : Nat × Nat} (hp : PrFit p) : ∀ S : List (Nat × Nat), (∀ x ∈ S, PrFit x) → (prD S).atKey (prLit p) (.held (.agg #[])) = .held (.agg #[]) := by
  apply snoc_ind
  · intro _; simp [prD]; rfl
  · intro l x ih h
    have ih := ih fun y hy => h y (by simp [hy])
    rw [prD_snoc]
    by_cases e : x = p
    · rw [e, Maps.atKey_put_same (tidy_prD l).isMap (prKeyLit p)]
    · rw [Maps.atKey_put_other (fun e' => e (prLit_inj (h x (by simp)) hp e'.symm)), ih]
/-- Block ob is the map of the pairs that were opened. -/
structure PrsV (w : World) (ob : Nat) (S : List (Nat × Nat)) : Prop where
  map : w.ownsMap Try.prog 84 heldR ob S.length (prD S)
  fit : ∀ p ∈ S, PrFit p
theorem PrsV.lt {w : World} {ob : Nat} {S : List (Nat × Nat)} (h : PrsV w ob S) : ob < w.heap.size := World.ownsMap.lt h.map
theorem PrsV.same {w w' : World} {ob : Nat} {S : List (Nat × Nat)} (h : PrsV w ob S) (hb : w'.heap[ob]? = w.heap[ob]?) : PrsV w' ob S := by
  obtain ⟨⟨es, clock, h1, h2⟩, h3⟩ := h
  exact ⟨⟨es, clock, hb.trans h1, h2⟩, h3⟩
theorem PrsV.made (w : World) : PrsV (w.alloc (.map #[] 0)) w.heap.size [] := ⟨World.ownsMap_made _ _ _ _, fun p h => by cases h⟩
theorem PrsV.isMap {w : World} {ob : Nat} {S : List (Nat × Nat)} (h : PrsV w ob S) : ∃ es clock, w.heap[ob]? = some (.map es clock) := by
  obtain ⟨⟨es, clock, h1, h2⟩, h3⟩ := h
  exact ⟨es, clock, h1⟩
theorem zeroE (w : World) : (zeroValue 117).run Try.prog w = .ok (.agg #[]) w := by kernel_rfl
theorem PrsV.look {w : World} {ob : Nat} {S : List (Nat × Nat)} (h : PrsV w ob S) {a b : Nat} (hp : PrFit (a, b)) :
    (Instr.lookup 79 (.map (some ob)) (prV a b) true).run Try.prog w = .ok (.tuple #[.agg #[], .bool (decide ((a, b) ∈ S))]) w := by
  obtain ⟨v, ps, hrun, hv⟩ := World.ownsMap.look_ok h.map pairLaw Try.underlying79 (zeroE w) (zd := .held (.agg #[])) (zp := []) rfl (keyOf_pr (a, b) hp)
  rw [at_prD hp S h.fit] at hv
  rw [has_prD hp S h.fit] at hrun
  have : v = .agg #[] := heldR_inv hv
  rw [← this]; exact hrun
theorem PrsV.put {w : World} {ob : Nat} {S : List (Nat × Nat)} (h : PrsV w ob S) {a b : Nat} (hp : PrFit (a, b)) (hl : S.length < maxLen) :
    ∃ w', (Instr.mapUpdate 79 (.map (some ob)) (prV a b) (.agg #[])).run Try.prog w = .ok () w' ∧ PrsV w' ob (S ++ [(a, b)]) ∧ w.grownBy w' (some ob) := by
  obtain ⟨w', hrun, h1, h2⟩ := World.ownsMap.update h.map pairLaw Try.underlying79 hl (val := .agg #[]) (d := .held (.agg #[])) (ps := []) (keyOf_pr (a, b) hp) rfl
  exact ⟨w', hrun, ⟨by rw [prD_snoc, List.length_append]; exact h1, fun p hm => by
    rcases List.mem_append.1 hm with hm | hm
    · exact h.fit p hm
    · rw [List.mem_singleton.1 hm]; exact hp⟩, h2⟩
theorem size_prD : ∀ S : List (Nat × Nat), S.Nodup → (∀ p ∈ S, PrFit p) → Maps.size (prD S) = S.length := by
  apply snoc_ind
  · intro _ _; rfl
  · intro l x ih hd h
    have hd' := List.nodup_append.1 hd
    have hn : ¬ x ∈ l := fun e => hd'.2.2 x e x (by simp) rfl
    rw [prD_snoc, Maps.size_put (tidy_prD l), has_prD (h x (by simp)) l (fun y hy => h y (by simp [hy])), decide_eq_false hn, ih hd'.1 (fun y hy => h y (by simp [hy])), List.length_append]
    rfl
theorem PrsV.len {w : World} {ob : Nat} {S : List (Nat × Nat)} (h : PrsV w ob S) (hd : S.Nodup) (ty : TypeId) :
    (Builtin.len_ #[79] ty #[.map (some ob)]).run Try.prog w = .ok (.int .i64 (S.length : Nat)) w := by
  rw [World.ownsMap.len h.map Try.underlying79 ty, size_prD S hd h.fit]
end Sp
end Go.Proofs.Yteooafgdmpbjeab
