/- A region that draws its order, by an invariant over what has come up: however it is drawn, each operation that may come up carries it on. No program is named here. -/
import Derived.Test.YtdophmlnmbcjlaaRows
import Derived.Orders
namespace Go.Proofs.Ytdophmlnmbcjlaa
namespace Sp
variable {P : Program} {ops : Array Oper} {Q : Exit → Act → World → Prop} {md : Region.Mode}
/-- How many have not come up. -/
def openN (ops : Array Oper) (listed : Array Bool) : Nat := ((List.range ops.size).filter fun j => !listed.getD j true).length
theorem filter_leD {α : Type} (p q : α → Bool) (h : ∀ x, q x = true → p x = true) : ∀ l : List α, (l.filter q).length ≤ (l.filter p).length
  | [] => Nat.le_refl _
  | x :: l => by
    have ih := filter_leD p q h l
    rw [List.filter_cons, List.filter_cons]
    cases hq : q x
    · rw [if_neg (by simp)]; split <;> simp <;> omega
    · rw [if_pos rfl, if_pos (h x hq)]; simp; exact ih
theorem filter_ltD {α : Type} (p q : α → Bool) (h : ∀ x, q x = true → p x = true) (y : α) (hp : p y = true) (hq : q y = false) : ∀ l : List α, y ∈ l → (l.filter q).length < (l.filter p).length
  | x :: l, hm => by
    rw [List.filter_cons, List.filter_cons]
    rcases List.mem_cons.1 hm with e | e
    · subst e
      rw [if_neg (by rw [hq]; decide), if_pos hp]
      have := filter_leD p q h l
      simp; omega
    · have ih := filter_ltD p q h y hp hq l e
      cases hqx : q x
      · rw [if_neg (by simp)]; split <;> simp <;> omega
      · rw [if_pos rfl, if_pos (h x hqx)]; simp; exact ih
theorem getD_setD {listed : Array Bool} {i j : Nat} (h : (listed.setIfInBounds i true).getD j true = false) : listed.getD j true = false ∧ j ≠ i := by
  simp only [Array.getD_eq_getD_getElem?, Array.getElem?_setIfInBounds] at h ⊢
  by_cases e : i = j
  · subst e
    rw [if_pos rfl] at h
    split at h <;> simp_all
  · rw [if_neg e] at h
    exact ⟨h, fun e' => e e'.symm⟩
theorem openN_set {listed : Array Bool} {i : Nat} (hi : i < ops.size) (h : listed.getD i true = false) : openN ops (listed.setIfInBounds i true) < openN ops listed := by
  refine filter_ltD _ _ (fun x hx => ?_) i ?_ ?_ _ (List.mem_range.2 hi)
  · simp only [Bool.not_eq_true'] at hx ⊢
    exact (getD_setD hx).1
  · simp only [h, Bool.not_false]
  · cases hh : (listed.setIfInBounds i true).getD i true
    · exact absurd rfl (getD_setD hh).2
    · rfl
theorem wpAny_inv (J : Array Bool → Act → World → Prop)
    (step : ∀ listed a w i, J listed a w → i ∈ Region.ready md ops listed → wpOp P ops Q i (fun a' w' => J (listed.setIfInBounds i true) a' w') a w)
    (done : ∀ listed a w, J listed a w → Region.ready md ops listed = [] → Q .normal a w) :
    ∀ fuel listed a w, openN ops listed ≤ fuel → J listed a w → wpAny P md ops Q fuel listed a w
  | 0, listed, a, w, hf, h => by
    have hr : Region.ready md ops listed = [] := by
      apply List.eq_nil_iff_forall_not_mem.2
      intro j hj
      obtain ⟨h1, o, ho, _⟩ := mem_ready.1 hj
      have hm : j ∈ (List.range ops.size).filter fun j => !listed.getD j true := List.mem_filter.2 ⟨List.mem_range.2 (Array.getElem?_eq_some_iff.1 ho).1, by rw [h1]; rfl⟩
      have := List.length_pos_of_mem hm
      unfold openN at hf
      omega
    exact ⟨hr, done _ _ _ h hr⟩
  | fuel + 1, listed, a, w, hf, h => by
    refine ⟨done _ _ _ h, fun i hi => wpOp_mono (fun a' w' h' => wpAny_inv J step done fuel _ a' w' ?_ h') (step _ _ _ _ h hi)⟩
    obtain ⟨h1, o, ho, _⟩ := mem_ready.1 hi
    have := openN_set (ops := ops) (Array.getElem?_eq_some_iff.1 ho).1 h1
    omega
/-- The region, by what holds at its beginning, behind each operation that may come up, and when all have come up. -/
theorem wp_region_inv {id : Nat} {a : Act} {w : World} (hm : P.follows .mixedOrders = true) (J : Array Bool → Act → World → Prop)
    (start : J (Array.replicate ops.size false) a w.drew)
    (step : ∀ listed a w i, J listed a w → i ∈ Region.ready .any ops listed → wpOp P ops Q i (fun a' w' => J (listed.setIfInBounds i true) a' w') a w)
    (done : ∀ listed a w, J listed a w → Region.ready .any ops listed = [] → Q .normal a w) : (Code.region id ops true).wp P Q a w :=
  wp_region_any hm (wpAny_inv J step done ops.size _ a _ (by unfold openN; exact Nat.le_trans (List.length_filter_le _ _) (by simp)) start)
/-- The same, the invariant told of whatever operations and frame stand there. -/
theorem wp_region_by {id : Nat} {a : Act} {w : World} (J : Array Oper → Act → Array Bool → Act → World → Prop) (hm : P.follows .mixedOrders = true)
    (start : J ops a (Array.replicate ops.size false) a w.drew)
    (step : ∀ listed b v i, J ops a listed b v → i ∈ Region.ready .any ops listed → wpOp P ops Q i (fun b' v' => J ops a (listed.setIfInBounds i true) b' v') b v)
    (done : ∀ listed b v, J ops a listed b v → Region.ready .any ops listed = [] → Q .normal b v) : (Code.region id ops true).wp P Q a w :=
  wp_region_inv hm (J ops a) start step done
/-- Where each waits for earlier ones alone and none may come up, all have come up. -/
theorem all_up {listed : Array Bool} (hb : ∀ (j : Nat) (o : Oper), ops[j]? = some o → ∀ e ∈ o.after, e.on < j ∧ e.on < ops.size) (hs : listed.size = ops.size) (hr : Region.ready md ops listed = []) : ∀ n j, j < n → j < ops.size → listed.getD j true = true
  | 0, j, h, _ => absurd h (Nat.not_lt_zero _)
  | n + 1, j, h, hj => by
    cases hl : listed.getD j true with
    | true => rfl
    | false =>
      have hm : j ∈ Region.ready md ops listed := by
        refine mem_ready.2 ⟨hl, ops[j], Array.getElem?_eq_getElem hj, fun e he _ => ?_⟩
        obtain ⟨h1, h2⟩ := hb j ops[j] (Array.getElem?_eq_getElem hj) e he
        have := all_up hb hs hr n e.on (by omega) h2
        rw [Array.getD_eq_getD_getElem?, Array.getElem?_eq_getElem (by omega)] at this ⊢
        simpa using this
      rw [hr] at hm
      cases hm
end Sp
end Go.Proofs.Ytdophmlnmbcjlaa
