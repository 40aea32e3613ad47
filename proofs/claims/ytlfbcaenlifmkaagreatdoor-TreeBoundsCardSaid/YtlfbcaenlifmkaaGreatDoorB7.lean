/- Which operand begins with a word. -/
import Derived.Test.YtlfbcaenlifmkaaGreatDoorB6
import Derived.Test.YtlfbcaenlifmkaaGreatDoorRows
import Derived.Orders
namespace Go.Proofs.YtlfbcaenlifmkaaGreatDoor
open Go.RowKit
namespace Tr
open Sc
set_option maxHeartbeats 800000 in
theorem begins_any (t : T) (w : World) (hL : VerbTab w) :
    Calls Tryz.prog 84 #[tokV t] w fun e w' => e = .returned (.int .i64 (begins t)) ∧ Below w.heap.size w w' := by
  have hA := (Below.refl w.heap.size w).alloc (Nat.le_refl _) (.cells #[.int .i64 t.kind, .string ⟨t.text.toArray⟩, .int .i64 t.n, .int .i64 t.at_] 157)
  have HN := Lib.hid (named_any t.text _ (hL.below hA))
  have HS := Lib.hid (fun w' => signed_any t.text w')
  have HA := Lib.hid hA
  clear hA hL
  unfold begins tokV
  by_cases h2 : t.kind = 2
  · rw [if_pos h2]
    have e : ((t.kind : Int) == 2) = true := by simp [h2]
    clear h2
    go_enter Tryz.func84, Tryz.ntmps84
    go_wp2
    go_ret
    exact ⟨rfl, (Below.refl _ _).alloc (Nat.le_refl _) _⟩
  rw [if_neg h2]
  have e2 : ((t.kind : Int) == 2) = false := by simp; omega
  by_cases h3 : t.kind = 3
  · rw [if_pos h3]
    have e : ((t.kind : Int) == 3) = true := by simp [h3]
    clear h2 h3
    go_enter Tryz.func84, Tryz.ntmps84
    go_wp2
    go_ret
    exact ⟨rfl, (Below.refl _ _).alloc (Nat.le_refl _) _⟩
  rw [if_neg h3]
  have e3 : ((t.kind : Int) == 3) = false := by simp; omega
  by_cases h1 : t.kind = 1
  · rw [if_pos h1]
    have e : ((t.kind : Int) == 1) = true := by simp [h1]
    clear h1 h2 h3
    generalize named t.text = k at *
    go_enter Tryz.func84, Tryz.ntmps84
    go_wp2_with (go_at_call 129; (with_reducible refine HN.out.mono ?_); rintro e w1 ⟨rfl, b1⟩)
    go_ret
    exact ⟨rfl, HA.out.trans (b1.mono (by simp))⟩
  rw [if_neg h1]
  have e1 : ((t.kind : Int) == 1) = false := by simp; omega
  by_cases h4 : t.kind = 4
  · rw [if_pos h4]
    have e : ((t.kind : Int) == 4) = true := by simp [h4]
    clear h1 h2 h3 h4
    generalize signed t.text = k at *
    go_enter Tryz.func84, Tryz.ntmps84
    go_wp2_with (go_at_call 130; (refine (HS.out _).mono ?_); rintro e w1 ⟨rfl, rfl⟩)
    go_ret
    exact ⟨rfl, (Below.refl _ _).alloc (Nat.le_refl _) _⟩
  · rw [if_neg h4]
    have e4 : ((t.kind : Int) == 4) = false := by simp; omega
    clear h1 h2 h3 h4
    go_enter Tryz.func84, Tryz.ntmps84
    go_wp2
    go_ret
    exact ⟨rfl, (Below.refl _ _).alloc (Nat.le_refl _) _⟩
end Tr
end Go.Proofs.YtlfbcaenlifmkaaGreatDoor
namespace Go.Proofs.YtlfbcaenlifmkaaGreatDoor
namespace Sp
variable {P : Program} {ops : Array Oper} {Q : Exit → Act → World → Prop} {md : Region.Mode}
/-- How many have not come up. -/
def openN (ops : Array Oper) (listed : Array Bool) : Nat := ((List.range ops.size).filter fun j => !listed.getD j true).length
theorem filter_leD {α : Type} (p q : α → Bool) (h : ∀ x, q x = true → p x = true) : ∀ l : List α, (l.filter q).length ≤ (l.filter p).length
  | [] => Nat.le_refl _
  | x :: l => by
    have ih := filter_leD p q h l
    rw [List.filter_cons, List.filter_cons]
    cases hq : q x
    · rw [if_neg (by simp)]; split <;> simp <;> omega
    · rw [if_pos rfl, if_pos (h x hq)]; simp; exact ih
theorem filter_ltD {α : Type} (p q : α → Bool) (h : ∀ x, q x = true → p x = true) (y : α) (hp : p y = true) (hq : q y = false) : ∀ l : List α, y ∈ l → (l.filter q).length < (l.filter p).length
  | x :: l, hm => by
    rw [List.filter_cons, List.filter_cons]
    rcases List.mem_cons.1 hm with e | e
    · subst e
      rw [if_neg (by rw [hq]; decide), if_pos hp]
      have := filter_leD p q h l
      simp; omega
    · have ih := filter_ltD p q h y hp hq l e
      cases hqx : q x
      · rw [if_neg (by simp)]; split <;> simp <;> omega
      · rw [if_pos rfl, if_pos (h x hqx)]; simp; exact ih
theorem getD_setD {listed : Array Bool} {i j : Nat} (h : (listed.setIfInBounds i true).getD j true = false) : listed.getD j true = false ∧ j ≠ i := by
  simp only [Array.getD_eq_getD_getElem?, Array.getElem?_setIfInBounds] at h ⊢
  by_cases e : i = j
  · subst e
    rw [if_pos rfl] at h
    split at h <;> simp_all
  · rw [if_neg e] at h
    exact ⟨h, fun e' => e e'.symm⟩
theorem openN_set {listed : Array Bool} {i : Nat} (hi : i < ops.size) (h : listed.getD i true = false) : openN ops (listed.setIfInBounds i true) < openN ops listed := by
  refine filter_ltD _ _ (fun x hx => ?_) i ?_ ?_ _ (List.mem_range.2 hi)
  · simp only [Bool.not_eq_true'] at hx ⊢
    exact (getD_setD hx).1
  · simp only [h, Bool.not_false]
  · cases hh : (listed.setIfInBounds i true).getD i true
    · exact absurd rfl (getD_setD hh).2
    · rfl
theorem wpAny_inv (J : Array Bool → Act → World → Prop)
    (step : ∀ listed a w i, J listed a w → i ∈ Region.ready md ops listed → wpOp P ops Q i (fun a' w' => J (listed.setIfInBounds i true) a' w') a w)
    (done : ∀ listed a w, J listed a w → Region.ready md ops listed = [] → Q .normal a w) :
    ∀ fuel listed a w, openN ops listed ≤ fuel → J listed a w → wpAny P md ops Q fuel listed a w
  | 0, listed, a, w, hf, h => by
    have hr : Region.ready md ops listed = [] := by
      apply List.eq_nil_iff_forall_not_mem.2
      intro j hj
      obtain ⟨h1, o, ho, _⟩ := mem_ready.1 hj
      have hm : j ∈ (List.range ops.size).filter fun j => !listed.getD j true := List.mem_filter.2 ⟨List.mem_range.2 (Array.getElem?_eq_some_iff.1 ho).1, by rw [h1]; rfl⟩
      have := List.length_pos_of_mem hm
      unfold openN at hf
      omega
    exact ⟨hr, done _ _ _ h hr⟩
  | fuel + 1, listed, a, w, hf, h => by
    refine ⟨done _ _ _ h, fun i hi => wpOp_mono (fun a' w' h' => wpAny_inv J step done fuel _ a' w' ?_ h') (step _ _ _ _ h hi)⟩
    obtain ⟨h1, o, ho, _⟩ := mem_ready.1 hi
    have := openN_set (ops := ops) (Array.getElem?_eq_some_iff.1 ho).1 h1
    omega
/-- The region, by what holds at its beginning, behind each operation that may come up, and when all have come up. -/
theorem wp_region_inv {id : Nat} {a : Act} {w : World} (hm : P.follows .mixedOrders = true) (J : Array Bool → Act → World → Prop)
    (start : J (Array.replicate ops.size false) a w.drew)
    (step : ∀ listed a w i, J listed a w → i ∈ Region.ready .any ops listed → wpOp P ops Q i (fun a' w' => J (listed.setIfInBounds i true) a' w') a w)
    (done : ∀ listed a w, J listed a w → Region.ready .any ops listed = [] → Q .normal a w) : (Code.region id ops true).wp P Q a w :=
  wp_region_any hm (wpAny_inv J step done ops.size _ a _ (by unfold openN; exact Nat.le_trans (List.length_filter_le _ _) (by simp)) start)
/-- The same, the invariant told of whatever operations and frame stand there. -/
theorem wp_region_by {id : Nat} {a : Act} {w : World} (J : Array Oper → Act → Array Bool → Act → World → Prop) (hm : P.follows .mixedOrders = true)
    (start : J ops a (Array.replicate ops.size false) a w.drew)
    (step : ∀ listed b v i, J ops a listed b v → i ∈ Region.ready .any ops listed → wpOp P ops Q i (fun b' v' => J ops a (listed.setIfInBounds i true) b' v') b v)
    (done : ∀ listed b v, J ops a listed b v → Region.ready .any ops listed = [] → Q .normal b v) : (Code.region id ops true).wp P Q a w :=
  wp_region_inv hm (J ops a) start step done
end Sp
end Go.Proofs.YtlfbcaenlifmkaaGreatDoor
