/- A key in memory told as a node: what memory holds while it is made. -/
import Derived.Test.YteooafgdmpbjeabU40
import Derived.Test.YteooafgdmpbjeabU22
import Derived.Test.YteooafgdmpbjeabU29
namespace Go.Proofs.Yteooafgdmpbjeab
open Go.RowKit
namespace Sp
open Sc
set_option maxRecDepth 100000
theorem getD_setS {listed : Array Bool} {i : Nat} (h : i < listed.size) : (listed.setIfInBounds i true).getD i false = true := by rw [getD_setF]; simp [h]
theorem all_up2 {ops : Array Oper} {md : Region.Mode} {listed : Array Bool} (hb : ∀ (j : Nat) (o : Oper), ops[j]? = some o → ∀ e ∈ o.after, Region.binds md e = true → e.on < j ∧ e.on < ops.size) (hs : listed.size = ops.size) (hr : Region.ready md ops listed = []) : ∀ n j, j < n → j < ops.size → listed.getD j true = true
  | 0, j, h, _ => absurd h (Nat.not_lt_zero _)
  | n + 1, j, h, hj => by
    cases hl : listed.getD j true with
    | true => rfl
    | false =>
      have hm : j ∈ Region.ready md ops listed := by
        refine mem_ready.2 ⟨hl, ops[j], Array.getElem?_eq_getElem hj, fun e he hbd => ?_⟩
        obtain ⟨h1, h2⟩ := hb j ops[j] (Array.getElem?_eq_getElem hj) e he hbd
        have := all_up2 hb hs hr n e.on (by omega) h2
        rw [Array.getD_eq_getD_getElem?, Array.getElem?_eq_getElem (by omega)] at this ⊢
        simpa using this
      rw [hr] at hm
      cases hm
def edgesB2 (md : Region.Mode) (ops : Array Oper) : Bool := (List.range ops.size).all fun j => match ops[j]? with | some o => o.after.toList.all fun e => !Region.binds md e || (decide (e.on < j) && decide (e.on < ops.size)) | none => true
theorem all_upB2 {ops : Array Oper} {md : Region.Mode} {listed : Array Bool} (hb : edgesB2 md ops = true) (hs : listed.size = ops.size) (hr : Region.ready md ops listed = []) : ∀ i, i < ops.size → listed.getD i false = true := fun i hi => by
  have h := all_up2 (md := md) (fun j o ho e he hbd => by
    have a := List.all_eq_true.1 hb j (List.mem_range.2 (Array.getElem?_eq_some_iff.1 ho).1)
    rw [ho] at a
    have b := List.all_eq_true.1 a e (Array.mem_toList_iff.2 he)
    rw [hbd] at b
    simpa only [Bool.not_true, Bool.false_or, Bool.and_eq_true, decide_eq_true_eq] using b) hs hr (i + 1) i (Nat.lt_succ_self i) hi
  rw [Array.getD_eq_getD_getElem?, Array.getElem?_eq_getElem (by omega)] at h ⊢
  simpa using h
/-- One that stores. -/
theorem QJ.store {P : Program} {ops : Array Oper} {Q : Exit → Act → World → Prop} {α : Type} {vals : α → Nat → Value} {M : α → Array Bool → World → Prop} {a0 b : Act} {listed : Array Bool} {v v' : World} {i : Nat} {o : Oper} {x : α} (hz : listed.size = ops.size) (hC : Closed ops listed) (hi : i ∈ Region.ready .any ops listed) (hF : Fr ops a0 (vals x) listed b) (hs : Slots ops a0.tmps.size) (ho : ops[i]? = some o) (hd : o.dst = none) (hg : Region.wanted o (yielded ops b.tmps) = true) (hM : M x (listed.setIfInBounds i true) v')
    (hr : (execOp b.eval o).run P v = .ok .skip v') : wpOp P ops Q i (fun b' v' => QJ vals M ops a0 (listed.setIfInBounds i true) b' v') b v := by
  refine wpOp_wpG ho hg ?_
  unfold Oper.wp
  rw [hr]
  have h := hF.put hs hz ho
  rw [hd] at h
  refine ⟨by simp [hz], hC.put hi, x, ?_, hM⟩
  rw [hd]
  exact h
def KeyAt (w : World) (kb o : Nat) (k : Kz) : Prop := ∀ i v, k.cells[i]? = some v → w.cell? ⟨kb, o + i, none⟩ = some v
theorem KeyAt.keep {w w' : World} {kb o : Nat} {k : Kz} (h : KeyAt w kb o k) (hk : w'.heap[kb]? = w.heap[kb]?) : KeyAt w' kb o k := fun i v hv => (World.cell?_of_block (a := ⟨kb, o + i, none⟩) hk).trans (h i v hv)
theorem KeyAt.three {w : World} {kb o : Nat} {k : Kz} (h : KeyAt w kb o k) : w.cell? ⟨kb, o, none⟩ = some (.int .i64 k.kind) ∧ w.cell? ⟨kb, o + 1, none⟩ = some (.string ⟨k.name.toArray⟩) ∧ w.cell? ⟨kb, o + 2, none⟩ = some (.int .i64 (k.kids.length : Nat)) := ⟨h 0 _ rfl, h 1 _ rfl, h 2 _ rfl⟩
theorem KeyAt.kids {w : World} {kb o : Nat} {k : Kz} (h : KeyAt w kb o k) (hk : WfK k) : ∀ j u, (k.kids.map fun (j : Nat) => Value.int .i64 (j : Nat))[j]? = some u → w.cell? ((⟨kb, o + 11, none⟩ : Addr).add j) = some u := fun j u hu => by
  obtain ⟨hj, rfl⟩ := List.getElem?_eq_some_iff.1 hu
  simp only [List.length_map] at hj
  have e : (⟨kb, o + 11, none⟩ : Addr).add j = ⟨kb, o + (11 + j), none⟩ := by unfold Addr.add; split <;> simp_all [Nat.add_assoc]
  rw [e]
  refine h (11 + j) _ ?_
  have h8 := hk.few
  rw [List.getElem_map]
  have hg : k.kids[j] = k.kids.getD j 0 := by rw [List.getD, List.getElem?_eq_getElem hj]; rfl
  rw [hg]
  obtain rfl | rfl | rfl | rfl | rfl | rfl | rfl | rfl : j = 0 ∨ j = 1 ∨ j = 2 ∨ j = 3 ∨ j = 4 ∨ j = 5 ∨ j = 6 ∨ j = 7 := by omega
  all_goals rfl
theorem KeyAt.names {w : World} {kb o : Nat} {k : Kz} (h : KeyAt w kb o k) (hk : WfK k) : ∀ j u, (k.names.map str)[j]? = some u → w.cell? ((⟨kb, o + 3, none⟩ : Addr).add j) = some u := fun j u hu => by
  obtain ⟨hj, rfl⟩ := List.getElem?_eq_some_iff.1 hu
  simp only [List.length_map] at hj
  have e : (⟨kb, o + 3, none⟩ : Addr).add j = ⟨kb, o + (3 + j), none⟩ := by unfold Addr.add; split <;> simp_all [Nat.add_assoc]
  rw [e]
  refine h (3 + j) _ ?_
  have h8 := hk.names8
  rw [List.getElem_map]
  have hg : k.names[j] = k.names.getD j [] := by rw [List.getD, List.getElem?_eq_getElem hj]; rfl
  rw [hg]
  obtain rfl | rfl | rfl | rfl | rfl | rfl | rfl | rfl : j = 0 ∨ j = 1 ∨ j = 2 ∨ j = 3 ∨ j = 4 ∨ j = 5 ∨ j = 6 ∨ j = 7 := by omega
  all_goals rfl
/-- The numbers of the kids, as a row. -/
def KidsV (w : World) (S : Nat → Prop) (k : Kz) (v : Value) : Prop := ∃ a c, v = .slice a k.kids.length c ∧ RowV w S a 1 (k.kids.map fun (j : Nat) => [Value.int .i64 (j : Nat)])
theorem KidsV.keep {w w' : World} {S S' : Nat → Prop} {k : Kz} {v : Value} (h : KidsV w S k v) (hS : ∀ g, S g → S' g) (hk : ∀ g, S g → w'.heap[g]? = w.heap[g]?) : KidsV w' S' k v := by
  obtain ⟨a, c, e, h⟩ := h
  exact ⟨a, c, e, h.keep hS hk⟩
def nodC (k : Kz) (s : Value) : Array Value := #[.int .i64 k.kind, .string ⟨k.name.toArray⟩, .slice none 0 0, s]
def nodZ : Array Value := #[.int .i64 0, .string ⟨#[]⟩, .slice none 0 0, .slice none 0 0]
structure NdM (w0 : World) (k : Kz) (b16 b18 b19 : Bool) (x : Nat × Value) (v : World) : Prop where
  below : Below w0.heap.size w0 v
  app : b16 = true → KidsV v (fun g => w0.heap.size ≤ g ∧ g < v.heap.size ∧ (b18 = true → g ≠ x.1)) k x.2
  box : b18 = true → w0.heap.size ≤ x.1 ∧ x.1 < v.heap.size ∧ v.heap[x.1]? = some (.cells (if b19 = true then nodC k x.2 else nodZ) 95 (0, 0))
section
variable {w0 v : World} {k : Kz} {b16 b18 : Bool} {x : Nat × Value}
theorem NdM.add (h : NdM w0 k false b18 false x v) {s : Value} {w' : World} (hown : w'.ownsRow v.heap.size 3 1 s k.kids.length (k.kids.map fun (j : Nat) => Value.int .i64 (j : Nat))) (hg : v.grownBy w' none) : NdM w0 k true b18 false (x.1, s) w' := by
  have hb := below_grown (B := v.heap.size) hg (fun g e => by cases e) (Nat.le_refl _)
  have hz := hb.size
  have hz0 := h.below.size
  refine ⟨h.below.trans (hb.mono hz0), fun _ => ?_, fun e => ?_⟩
  · obtain ⟨a, c, e, hr⟩ := RowV.own (l := k.kids.map fun (j : Nat) => [Value.int .i64 (j : Nat)]) (S := fun g => v.heap.size ≤ g ∧ g < w'.heap.size) (by rw [show (k.kids.map fun (j : Nat) => [Value.int .i64 (j : Nat)]).flatten = k.kids.map fun (j : Nat) => Value.int .i64 (j : Nat) by induction k.kids with | nil => rfl | cons a l ih => simp [ih]]; exact hown) (fun x hx => by obtain ⟨y, _, rfl⟩ := List.mem_map.1 hx; rfl) (by simp) (fun g e => hown.lt g e)
    exact ⟨a, c, e, hr.keep (fun g hg => ⟨by have := hg.1; omega, hg.2, fun hb18 e => by have := (h.box hb18).2.1; have := hg.1; dsimp only at e; omega⟩) (fun _ _ => rfl)⟩
  · obtain ⟨h1, h2, h3⟩ := h.box e
    exact ⟨h1, by dsimp only; omega, (hb.block _ h2).trans h3⟩
theorem NdM.make (h : NdM w0 k b16 false false x v) : NdM w0 k b16 true false (v.heap.size, x.2) (v.alloc (.cells nodZ 95)) := by
  have hb : Below v.heap.size v (v.alloc (.cells nodZ 95)) := (Below.refl _ _).alloc (Nat.le_refl _) _
  have hz0 := h.below.size
  refine ⟨h.below.trans (hb.mono hz0), fun e => (h.app e).keep (fun g hg => ⟨hg.1, by have := hg.2.1; simp; omega, fun _ => by have := hg.2.1; dsimp only; omega⟩) (fun g hg => hb.block g hg.2.1), fun _ => ⟨hz0, by simp, ?_⟩⟩
  exact heap_alloc_new v _
theorem NdM.put (h : NdM w0 k true true false x v) :
    NdM w0 k true true true x ((((v.setCell ⟨x.1, 0, none⟩ (.int .i64 k.kind)).setCell ⟨x.1, 1, none⟩ (.string ⟨k.name.toArray⟩)).setCell ⟨x.1, 2, none⟩ (.slice none 0 0)).setCell ⟨x.1, 3, none⟩ x.2) := by
  obtain ⟨h1, h2, h3⟩ := h.box rfl
  rw [if_neg (by decide)] at h3
  have hz0 := h.below.size
  obtain ⟨W, hW⟩ : ∃ W, W = ((((v.setCell ⟨x.1, 0, none⟩ (.int .i64 k.kind)).setCell ⟨x.1, 1, none⟩ (.string ⟨k.name.toArray⟩)).setCell ⟨x.1, 2, none⟩ (.slice none 0 0)).setCell ⟨x.1, 3, none⟩ x.2) := ⟨_, rfl⟩
  have hk : Keeps (fun g => g = x.1) v W := by rw [hW]; exact ((((Keeps.refl (fun g => g = x.1) _).setCell 0 _ rfl).setCell 1 _ rfl).setCell 2 _ rfl).setCell 3 _ rfl
  have hs : W.heap.size = v.heap.size := by rw [hW]; simp
  rw [← hW]
  refine ⟨h.below.trans (hk.below hz0 (fun g e => by rw [e]; exact h1)), fun _ => (h.app rfl).keep (fun g hg => ⟨hg.1, by rw [hs]; exact hg.2.1, hg.2.2⟩) (fun g hg => hk.block g hg.2.1 (hg.2.2 rfl)), fun _ => ⟨h1, by rw [hs]; exact h2, ?_⟩⟩
  rw [if_pos rfl, hW]
  exact set_four h3
end
end Sp
end Go.Proofs.Yteooafgdmpbjeab
