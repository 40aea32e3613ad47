/- Whether a field is next. Written by gen_qatf.py. -/
import Derived.Test.YtlfbcaenlifmkaaGreatDoorB7
import Derived.Test.YtlfbcaenlifmkaaGreatDoorB9
import Derived.Deep.Cut
namespace Go.Proofs.YtlfbcaenlifmkaaGreatDoor
open Go.RowKit
namespace Tr
open Sc Sp
def putT (w : World) (b : Nat) (t : T) : World :=
  (((w.setCell ⟨b, 0, none⟩ (.int .i64 t.kind)).setCell ⟨b, 1, none⟩ (.string ⟨t.text.toArray⟩)).setCell ⟨b, 2, none⟩ (.int .i64 t.n)).setCell ⟨b, 3, none⟩ (.int .i64 t.at_)
theorem putT_size (w : World) (b : Nat) (t : T) : (putT w b t).heap.size = w.heap.size := by simp [putT]
theorem putT_only (w : World) (b : Nat) (t : T) : Only b w (putT w b t) := ((((Only.refl b w).setCell 0 _).setCell 1 _).setCell 2 _).setCell 3 _
theorem putT_at {w : World} {b : Nat} {v0 v1 v2 v3 : Value} {ty : TypeId} {fr : Nat × Nat} (h : w.heap[b]? = some (.cells #[v0, v1, v2, v3] ty fr)) (t : T) :
    (putT w b t).heap[b]? = some (.cells #[.int .i64 t.kind, .string ⟨t.text.toArray⟩, .int .i64 t.n, .int .i64 t.at_] ty fr) := by
  simp [putT, World.setCell, Array.getElem?_modify, h]
/-- Two words are laid, each in a variable of its own. -/
structure AfM (w : World) (B : Nat) (t0 t1 : T) (l8 l9 l10 l11 : Bool) (x : Nat × Nat) (v : World) : Prop where
  below : Below B w v
  bx : l8 = true → B ≤ x.1 ∧ v.heap[x.1]? = some (.cells (if l10 then #[.int .i64 t0.kind, .string ⟨t0.text.toArray⟩, .int .i64 t0.n, .int .i64 t0.at_] else #[.int .i64 noT.kind, .string ⟨noT.text.toArray⟩, .int .i64 noT.n, .int .i64 noT.at_]) 157 (0, 0))
  bY : l9 = true → B ≤ x.2 ∧ v.heap[x.2]? = some (.cells (if l11 then #[.int .i64 t1.kind, .string ⟨t1.text.toArray⟩, .int .i64 t1.n, .int .i64 t1.at_] else #[.int .i64 noT.kind, .string ⟨noT.text.toArray⟩, .int .i64 noT.n, .int .i64 noT.at_]) 157 (0, 0))
  ne : l8 = true → l9 = true → x.1 ≠ x.2
  le : B ≤ v.heap.size
section
variable {w v w' : World} {B : Nat} {t0 t1 : T} {l8 l9 l10 l11 : Bool} {x : Nat × Nat}
theorem AfM.start (h : Below w.heap.size w v) : AfM w w.heap.size t0 t1 false false false false x v := ⟨h, (fun h => by cases h), (fun h => by cases h), (fun h => by cases h), h.size⟩
theorem AfM.call (h : AfM w B t0 t1 l8 l9 l10 l11 x v) (hb : Below v.heap.size v w') : AfM w B t0 t1 l8 l9 l10 l11 x w' :=
  ⟨h.below.trans (hb.mono h.le), fun e => ⟨(h.bx e).1, (hb.block _ (blk_lt (h.bx e).2)).trans (h.bx e).2⟩, fun e => ⟨(h.bY e).1, (hb.block _ (blk_lt (h.bY e).2)).trans (h.bY e).2⟩, h.ne, Nat.le_trans h.le hb.size⟩
theorem AfM.mkX (h : AfM w B t0 t1 false l9 false l11 x v) : AfM w B t0 t1 true l9 false l11 (v.heap.size, x.2) (v.alloc (.cells #[.int .i64 noT.kind, .string ⟨noT.text.toArray⟩, .int .i64 noT.n, .int .i64 noT.at_] 157)) :=
  ⟨h.below.alloc h.le _, fun _ => ⟨h.le, heap_alloc_new v _⟩, fun e => ⟨(h.bY e).1, (Below.heap_alloc _ _ _ (blk_lt (h.bY e).2)).trans (h.bY e).2⟩, fun _ e e2 => by have := blk_lt (h.bY e).2; simp only at e2; omega, by have := h.le; simp; omega⟩
theorem AfM.mkY (h : AfM w B t0 t1 l8 false l10 false x v) : AfM w B t0 t1 l8 true l10 false (x.1, v.heap.size) (v.alloc (.cells #[.int .i64 noT.kind, .string ⟨noT.text.toArray⟩, .int .i64 noT.n, .int .i64 noT.at_] 157)) :=
  ⟨h.below.alloc h.le _, fun e => ⟨(h.bx e).1, (Below.heap_alloc _ _ _ (blk_lt (h.bx e).2)).trans (h.bx e).2⟩, fun _ => ⟨h.le, heap_alloc_new v _⟩, fun e _ e2 => by have := blk_lt (h.bx e).2; simp only at e2; omega, by have := h.le; simp; omega⟩
theorem AfM.putX (h : AfM w B t0 t1 true l9 false l11 x v) : AfM w B t0 t1 true l9 true l11 x (putT v x.1 t0) := by
  obtain ⟨hx1, hx2⟩ := h.bx rfl
  have ho := putT_only v x.1 t0
  have hk : ∀ g, g < v.heap.size → g ≠ x.1 → (putT v x.1 t0).heap[g]? = v.heap[g]? := fun g h1 h2 => ho.block g h1 (fun e => by cases e; exact h2 rfl)
  exact ⟨h.below.trans (ho.below hx1 h.le), fun _ => ⟨hx1, putT_at hx2 _⟩, fun e => ⟨(h.bY e).1, (hk _ (blk_lt (h.bY e).2) (fun e2 => h.ne rfl e e2.symm)).trans (h.bY e).2⟩, h.ne, by rw [putT_size]; exact h.le⟩
theorem AfM.putY (h : AfM w B t0 t1 l8 true l10 false x v) : AfM w B t0 t1 l8 true l10 true x (putT v x.2 t1) := by
  obtain ⟨hy1, hy2⟩ := h.bY rfl
  have ho := putT_only v x.2 t1
  have hk : ∀ g, g < v.heap.size → g ≠ x.2 → (putT v x.2 t1).heap[g]? = v.heap[g]? := fun g h1 h2 => ho.block g h1 (fun e => by cases e; exact h2 rfl)
  exact ⟨h.below.trans (ho.below hy1 h.le), fun e => ⟨(h.bx e).1, (hk _ (blk_lt (h.bx e).2) (fun e2 => h.ne e rfl e2)).trans (h.bx e).2⟩, fun _ => ⟨hy1, putT_at hy2 _⟩, h.ne, by rw [putT_size]; exact h.le⟩
end
theorem atField_eq (r : R) : atField r = (isS (r.at_ 0) [46] && decide ((r.at_ 1).kind = 1) && decide ((r.at_ 1).at_ = (r.at_ 0).at_ + 1)) := rfl
set_option maxRecDepth 100000 in
set_option maxHeartbeats 8000000 in
theorem atField_any (w : World) (rb : Nat) (r : R) (br : Nat) (h : RdE w rb r br) :
    Calls Tryz.prog 165 #[.pointer (some ⟨rb, 0, none⟩)] w fun e w' => e = .returned (.bool (atField r)) ∧ Below w.heap.size w w' := by
  have hrb := h.lt
  have C0 := fun w' (hw : Below w.heap.size w w') => at0_any w' rb r br (h.keep hw)
  have C1 := fun w' (hw : Below w.heap.size w w') => at1_any w' rb r br (h.keep hw)
  obtain ⟨a, c, h'⟩ := h
  obtain ⟨s0, -⟩ := h'.small_at 0
  obtain ⟨s1, -⟩ := h'.small_at 1
  rw [atField_eq]
  clear h'
  generalize r.at_ 0 = t0 at *
  generalize r.at_ 1 = t1 at *
  have HI := Lib.hid (fun w' => isSign_any t0 [46] w')
  unfold tokV at *
  have HC := Lib.hid C0; have HD := Lib.hid C1
  clear C0 C1
  go_enter Tryz.func165, Tryz.ntmps165
  go_upto_region 1 with fail
  refine wp_region_by (QJ (fun (x : Nat × Nat) qq => match qq with | 0 => .pointer (some ⟨rb, 0, none⟩) | 1 => .pointer (some ⟨rb, 0, none⟩) | 2 => .pointer (some ⟨rb, 0, none⟩) | 3 => .agg #[.int .i64 t0.kind, .string ⟨t0.text.toArray⟩, .int .i64 t0.n, .int .i64 t0.at_] | 4 => .pointer (some ⟨rb, 0, none⟩) | 5 => .pointer (some ⟨rb, 0, none⟩) | 6 => .pointer (some ⟨rb, 0, none⟩) | 7 => .agg #[.int .i64 t1.kind, .string ⟨t1.text.toArray⟩, .int .i64 t1.n, .int .i64 t1.at_] | 8 => .pointer (some ⟨x.1, 0, none⟩) | 9 => .pointer (some ⟨x.2, 0, none⟩) | _ => undef) (fun x listed v => AfM w w.heap.size t0 t1 (listed.getD 8 false) (listed.getD 9 false) (listed.getD 10 false) (listed.getD 11 false) x v)) (by kernel_rfl) ?_ ?_ ?_
  · exact ⟨by simp, Closed.start _, (0, 0), Fr.start _ _ _, by simp only [rep_getDL]; exact AfM.start (Below.refl w.heap.size w).drew⟩
  · intro listed b v q hJ hi
    obtain ⟨hsz, hC, x, hF, hM⟩ := hJ
    have hMb : AfM w w.heap.size t0 t1 (listed.getD 8 false) (listed.getD 9 false) (listed.getD 10 false) (listed.getD 11 false) x v := hM
    obtain ⟨hl1, hiN⟩ := not_up hsz hi
    obtain ⟨_, o, ho, hdeps⟩ := mem_ready.1 hi
    have hiN : q < 12 := hiN
    obtain rfl | rfl | rfl | rfl | rfl | rfl | rfl | rfl | rfl | rfl | rfl | rfl : q = 0 ∨ q = 1 ∨ q = 2 ∨ q = 3 ∨ q = 4 ∨ q = 5 ∨ q = 6 ∨ q = 7 ∨ q = 8 ∨ q = 9 ∨ q = 10 ∨ q = 11 := by omega
    · cases ho
      have e0 := hF.old_is 0 (by rfl) rfl
      refine QJ.quiet (x := x) hsz hC hi hF (Slots.of (by rfl)) rfl (wanted_none rfl) (show AfM w w.heap.size t0 t1 ((listed.setIfInBounds 0 true).getD 8 false) ((listed.setIfInBounds 0 true).getD 9 false) ((listed.setIfInBounds 0 true).getD 10 false) ((listed.setIfInBounds 0 true).getD 11 false) x v by rw [getD_setN (show 0 ≠ 8 by decide), getD_setN (show 0 ≠ 9 by decide), getD_setN (show 0 ≠ 10 by decide), getD_setN (show 0 ≠ 11 by decide)]; exact hMb) ?_
      show _ = Result.ok (Next.value (.pointer (some ⟨rb, 0, none⟩))) v
      simp [execOp, go_sem, e0]
    · cases ho
      have e5 : b.tmps[5]? = some (.pointer (some ⟨rb, 0, none⟩)) := hF.up 0 5 rfl (hdeps ⟨0, .data⟩ (by simp) rfl)
      refine QJ.quiet (x := x) hsz hC hi hF (Slots.of (by rfl)) rfl (wanted_none rfl) (show AfM w w.heap.size t0 t1 ((listed.setIfInBounds 1 true).getD 8 false) ((listed.setIfInBounds 1 true).getD 9 false) ((listed.setIfInBounds 1 true).getD 10 false) ((listed.setIfInBounds 1 true).getD 11 false) x v by rw [getD_setN (show 1 ≠ 8 by decide), getD_setN (show 1 ≠ 9 by decide), getD_setN (show 1 ≠ 10 by decide), getD_setN (show 1 ≠ 11 by decide)]; exact hMb) ?_
      show _ = Result.ok (Next.value (.pointer (some ⟨rb, 0, none⟩))) v
      simp [execOp, go_sem, e5]
    · cases ho
      have e6 : b.tmps[6]? = some (.pointer (some ⟨rb, 0, none⟩)) := hF.up 1 6 rfl (hdeps ⟨1, .data⟩ (by simp) rfl)
      refine QJ.quiet (x := x) hsz hC hi hF (Slots.of (by rfl)) rfl (wanted_none rfl) (show AfM w w.heap.size t0 t1 ((listed.setIfInBounds 2 true).getD 8 false) ((listed.setIfInBounds 2 true).getD 9 false) ((listed.setIfInBounds 2 true).getD 10 false) ((listed.setIfInBounds 2 true).getD 11 false) x v by rw [getD_setN (show 2 ≠ 8 by decide), getD_setN (show 2 ≠ 9 by decide), getD_setN (show 2 ≠ 10 by decide), getD_setN (show 2 ≠ 11 by decide)]; exact hMb) ?_
      show _ = Result.ok (Next.value (.pointer (some ⟨rb, 0, none⟩))) v
      simp [execOp, go_sem, e6]
    · cases ho
      have e7 : b.tmps[7]? = some (.pointer (some ⟨rb, 0, none⟩)) := hF.up 2 7 rfl (hdeps ⟨2, .data⟩ (by simp) rfl)
      refine QJ.call (x := x) (f := 85) (args := #[.pointer (some ⟨rb, 0, none⟩), .int .i64 0]) hsz hC hi hF (Slots.of (by rfl)) rfl (wanted_none rfl) (by simp [execOp, go_sem, e7]) (HC.out v hMb.below) ?_
      rintro e w' ⟨rfl, hb⟩
      exact ⟨x, rfl, fun _ _ => rfl, (show AfM w w.heap.size t0 t1 ((listed.setIfInBounds 3 true).getD 8 false) ((listed.setIfInBounds 3 true).getD 9 false) ((listed.setIfInBounds 3 true).getD 10 false) ((listed.setIfInBounds 3 true).getD 11 false) x w' by rw [getD_setN (show 3 ≠ 8 by decide), getD_setN (show 3 ≠ 9 by decide), getD_setN (show 3 ≠ 10 by decide), getD_setN (show 3 ≠ 11 by decide)]; exact hMb.call hb)⟩
    · cases ho
      have e0 := hF.old_is 0 (by rfl) rfl
      refine QJ.quiet (x := x) hsz hC hi hF (Slots.of (by rfl)) rfl (wanted_none rfl) (show AfM w w.heap.size t0 t1 ((listed.setIfInBounds 4 true).getD 8 false) ((listed.setIfInBounds 4 true).getD 9 false) ((listed.setIfInBounds 4 true).getD 10 false) ((listed.setIfInBounds 4 true).getD 11 false) x v by rw [getD_setN (show 4 ≠ 8 by decide), getD_setN (show 4 ≠ 9 by decide), getD_setN (show 4 ≠ 10 by decide), getD_setN (show 4 ≠ 11 by decide)]; exact hMb) ?_
      show _ = Result.ok (Next.value (.pointer (some ⟨rb, 0, none⟩))) v
      simp [execOp, go_sem, e0]
    · cases ho
      have e9 : b.tmps[9]? = some (.pointer (some ⟨rb, 0, none⟩)) := hF.up 4 9 rfl (hdeps ⟨4, .data⟩ (by simp) rfl)
      refine QJ.quiet (x := x) hsz hC hi hF (Slots.of (by rfl)) rfl (wanted_none rfl) (show AfM w w.heap.size t0 t1 ((listed.setIfInBounds 5 true).getD 8 false) ((listed.setIfInBounds 5 true).getD 9 false) ((listed.setIfInBounds 5 true).getD 10 false) ((listed.setIfInBounds 5 true).getD 11 false) x v by rw [getD_setN (show 5 ≠ 8 by decide), getD_setN (show 5 ≠ 9 by decide), getD_setN (show 5 ≠ 10 by decide), getD_setN (show 5 ≠ 11 by decide)]; exact hMb) ?_
      show _ = Result.ok (Next.value (.pointer (some ⟨rb, 0, none⟩))) v
      simp [execOp, go_sem, e9]
    · cases ho
      have e10 : b.tmps[10]? = some (.pointer (some ⟨rb, 0, none⟩)) := hF.up 5 10 rfl (hdeps ⟨5, .data⟩ (by simp) rfl)
      refine QJ.quiet (x := x) hsz hC hi hF (Slots.of (by rfl)) rfl (wanted_none rfl) (show AfM w w.heap.size t0 t1 ((listed.setIfInBounds 6 true).getD 8 false) ((listed.setIfInBounds 6 true).getD 9 false) ((listed.setIfInBounds 6 true).getD 10 false) ((listed.setIfInBounds 6 true).getD 11 false) x v by rw [getD_setN (show 6 ≠ 8 by decide), getD_setN (show 6 ≠ 9 by decide), getD_setN (show 6 ≠ 10 by decide), getD_setN (show 6 ≠ 11 by decide)]; exact hMb) ?_
      show _ = Result.ok (Next.value (.pointer (some ⟨rb, 0, none⟩))) v
      simp [execOp, go_sem, e10]
    · cases ho
      have e11 : b.tmps[11]? = some (.pointer (some ⟨rb, 0, none⟩)) := hF.up 6 11 rfl (hdeps ⟨6, .data⟩ (by simp) rfl)
      refine QJ.call (x := x) (f := 85) (args := #[.pointer (some ⟨rb, 0, none⟩), .int .i64 1]) hsz hC hi hF (Slots.of (by rfl)) rfl (wanted_none rfl) (by simp [execOp, go_sem, e11]) (HD.out v hMb.below) ?_
      rintro e w' ⟨rfl, hb⟩
      exact ⟨x, rfl, fun _ _ => rfl, (show AfM w w.heap.size t0 t1 ((listed.setIfInBounds 7 true).getD 8 false) ((listed.setIfInBounds 7 true).getD 9 false) ((listed.setIfInBounds 7 true).getD 10 false) ((listed.setIfInBounds 7 true).getD 11 false) x w' by rw [getD_setN (show 7 ≠ 8 by decide), getD_setN (show 7 ≠ 9 by decide), getD_setN (show 7 ≠ 10 by decide), getD_setN (show 7 ≠ 11 by decide)]; exact hMb.call hb)⟩
    · cases ho

      have l10 : listed.getD 10 false = false := by
        cases hh : listed.getD 10 false
        · rfl
        · have y0 := hC 10 _ rfl hh ⟨8, .data⟩ (by simp) rfl; rw [hl1] at y0; cases y0
      have a := hMb
      rw [hl1, l10] at a
      refine QJ.make (v' := v.alloc (.cells #[.int .i64 noT.kind, .string ⟨noT.text.toArray⟩, .int .i64 noT.n, .int .i64 noT.at_] 157)) (x := x) (x' := (v.heap.size, x.2)) hsz hC hi hF (Slots.of (by rfl)) rfl (wanted_none rfl) (fun q hq => match q, (show q ≠ 8 by rintro rfl; rw [hl1] at hq; cases hq) with | 0, _ => rfl | 1, _ => rfl | 2, _ => rfl | 3, _ => rfl | 4, _ => rfl | 5, _ => rfl | 6, _ => rfl | 7, _ => rfl | 8, h => absurd rfl h | 9, _ => rfl | 10, _ => rfl | 11, _ => rfl | _ + 12, _ => rfl) (show AfM w w.heap.size t0 t1 ((listed.setIfInBounds 8 true).getD 8 false) ((listed.setIfInBounds 8 true).getD 9 false) ((listed.setIfInBounds 8 true).getD 10 false) ((listed.setIfInBounds 8 true).getD 11 false) (v.heap.size, x.2) (v.alloc (.cells #[.int .i64 noT.kind, .string ⟨noT.text.toArray⟩, .int .i64 noT.n, .int .i64 noT.at_] 157)) by rw [getD_setS (by rw [hsz]; decide), getD_setN (show 8 ≠ 9 by decide), getD_setN (show 8 ≠ 10 by decide), getD_setN (show 8 ≠ 11 by decide), l10]; exact a.mkX) ?_
      show _ = Result.ok (Next.value (.pointer (some ⟨v.heap.size, 0, none⟩))) _
      simp [execOp, go_sem, noT]
    · cases ho

      have l11 : listed.getD 11 false = false := by
        cases hh : listed.getD 11 false
        · rfl
        · have y0 := hC 11 _ rfl hh ⟨9, .data⟩ (by simp) rfl; rw [hl1] at y0; cases y0
      have a := hMb
      rw [hl1, l11] at a
      refine QJ.make (v' := v.alloc (.cells #[.int .i64 noT.kind, .string ⟨noT.text.toArray⟩, .int .i64 noT.n, .int .i64 noT.at_] 157)) (x := x) (x' := (x.1, v.heap.size)) hsz hC hi hF (Slots.of (by rfl)) rfl (wanted_none rfl) (fun q hq => match q, (show q ≠ 9 by rintro rfl; rw [hl1] at hq; cases hq) with | 0, _ => rfl | 1, _ => rfl | 2, _ => rfl | 3, _ => rfl | 4, _ => rfl | 5, _ => rfl | 6, _ => rfl | 7, _ => rfl | 8, _ => rfl | 9, h => absurd rfl h | 10, _ => rfl | 11, _ => rfl | _ + 12, _ => rfl) (show AfM w w.heap.size t0 t1 ((listed.setIfInBounds 9 true).getD 8 false) ((listed.setIfInBounds 9 true).getD 9 false) ((listed.setIfInBounds 9 true).getD 10 false) ((listed.setIfInBounds 9 true).getD 11 false) (x.1, v.heap.size) (v.alloc (.cells #[.int .i64 noT.kind, .string ⟨noT.text.toArray⟩, .int .i64 noT.n, .int .i64 noT.at_] 157)) by rw [getD_setS (by rw [hsz]; decide), getD_setN (show 9 ≠ 8 by decide), getD_setN (show 9 ≠ 10 by decide), getD_setN (show 9 ≠ 11 by decide), l11]; exact a.mkY) ?_
      show _ = Result.ok (Next.value (.pointer (some ⟨v.heap.size, 0, none⟩))) _
      simp [execOp, go_sem, noT]
    · cases ho
      have l8 := hdeps ⟨8, .data⟩ (by simp) rfl
      have a := hMb
      rw [hl1, l8] at a
      have tt := (a.bx rfl).2
      simp only [Bool.false_eq_true, if_false] at tt
      obtain ⟨⟨z0, z1, z2, z3⟩, ⟨f0, f1, f2, f3⟩⟩ := four_blk tt
      have e3 : b.tmps[3]? = some (.pointer (some ⟨x.1, 0, none⟩)) := hF.up 8 3 rfl (hdeps ⟨8, .data⟩ (by simp) rfl)
      have e8 : b.tmps[8]? = some (.agg #[.int .i64 t0.kind, .string ⟨t0.text.toArray⟩, .int .i64 t0.n, .int .i64 t0.at_]) := hF.up 3 8 rfl (hdeps ⟨3, .data⟩ (by simp) rfl)
      refine QJ.store (v' := putT v x.1 t0) (x := x) hsz hC hi hF (Slots.of (by rfl)) rfl rfl (wanted_none rfl) (show AfM w w.heap.size t0 t1 ((listed.setIfInBounds 10 true).getD 8 false) ((listed.setIfInBounds 10 true).getD 9 false) ((listed.setIfInBounds 10 true).getD 10 false) ((listed.setIfInBounds 10 true).getD 11 false) x (putT v x.1 t0) by rw [getD_setS (by rw [hsz]; decide), getD_setN (show 10 ≠ 8 by decide), getD_setN (show 10 ≠ 9 by decide), getD_setN (show 10 ≠ 11 by decide), l8]; exact a.putX) ?_
      unfold putT
      simp [execOp, go_sem, e3, e8, z0, z1, z2, z3, f0, f1, f2, f3]
    · cases ho
      have l9 := hdeps ⟨9, .data⟩ (by simp) rfl
      have a := hMb
      rw [hl1, l9] at a
      have tt := (a.bY rfl).2
      simp only [Bool.false_eq_true, if_false] at tt
      obtain ⟨⟨z0, z1, z2, z3⟩, ⟨f0, f1, f2, f3⟩⟩ := four_blk tt
      have e4 : b.tmps[4]? = some (.pointer (some ⟨x.2, 0, none⟩)) := hF.up 9 4 rfl (hdeps ⟨9, .data⟩ (by simp) rfl)
      have e12 : b.tmps[12]? = some (.agg #[.int .i64 t1.kind, .string ⟨t1.text.toArray⟩, .int .i64 t1.n, .int .i64 t1.at_]) := hF.up 7 12 rfl (hdeps ⟨7, .data⟩ (by simp) rfl)
      refine QJ.store (v' := putT v x.2 t1) (x := x) hsz hC hi hF (Slots.of (by rfl)) rfl rfl (wanted_none rfl) (show AfM w w.heap.size t0 t1 ((listed.setIfInBounds 11 true).getD 8 false) ((listed.setIfInBounds 11 true).getD 9 false) ((listed.setIfInBounds 11 true).getD 10 false) ((listed.setIfInBounds 11 true).getD 11 false) x (putT v x.2 t1) by rw [getD_setS (by rw [hsz]; decide), getD_setN (show 11 ≠ 8 by decide), getD_setN (show 11 ≠ 9 by decide), getD_setN (show 11 ≠ 10 by decide), l9]; exact a.putY) ?_
      unfold putT
      simp [execOp, go_sem, e4, e12, z0, z1, z2, z3, f0, f1, f2, f3]
  · intro listed b W5 hJ hr'
    obtain ⟨hsz, hC, xx, hF, hM⟩ := hJ
    have hall := all_upB2 (by rfl) hsz hr'
    have hMb : AfM w w.heap.size t0 t1 true true true true xx W5 := by
      have h : AfM w w.heap.size t0 t1 (listed.getD 8 false) (listed.getD 9 false) (listed.getD 10 false) (listed.getD 11 false) xx W5 := hM
      rw [hall 8 (by decide), hall 9 (by decide), hall 10 (by decide), hall 11 (by decide)] at h
      exact h
    have hb : b = putAll _ _ _ 12 := hF.done (Slots.of (by rfl)) hall
    subst hb
    simp only [putAll]
    obtain ⟨hx1, hx2⟩ := hMb.bx rfl
    obtain ⟨hy1, hy2⟩ := hMb.bY rfl
    rw [if_pos rfl] at hx2 hy2
    have hbl := hMb.below
    have hlx := blk_lt hx2
    have hly := blk_lt hy2
    obtain ⟨⟨x0, x1, x2, x3⟩, -⟩ := four_blk hx2
    obtain ⟨⟨y0, y1, y2, y3⟩, -⟩ := four_blk hy2
    have HB := Lib.hid hbl
    have hle := hMb.le
    obtain ⟨ax, ay⟩ := xx
    simp only at hx1 hy1 hlx hly x0 x1 x2 x3 y0 y1 y2 y3
    clear hMb hM hF hC hsz hr' hall hx2 hy2 hbl
    simp [dstOf]
    cases h0 : isS t0 [46]
    · rw [h0] at HI
      have H0 := Lib.hid h0; clear h0
      go_wp2_with (go_at_call 88; (refine (HI.out _).mono ?_); rintro e w2 ⟨rfl, b2⟩)
      go_ret
      exact ⟨ret_bool (by rw [H0.out]; rfl), HB.out.trans (b2.mono hle)⟩
    · rw [h0] at HI
      have H0 := Lib.hid h0; clear h0
      by_cases h1 : t1.kind = 1
      · have e1 : ((t1.kind : Int) == 1) = true := by simp [h1]
        have H1 := Lib.hid h1; clear h1
        go_wp2_with (go_at_call 88; (refine (HI.out _).mono ?_); rintro e w2 ⟨rfl, b2⟩; have B2 := Lib.hid b2; have y0 := (b2.cell (p := ⟨ay, 0, none⟩) hly).trans y0; have y3 := (b2.cell (p := ⟨ay, 3, none⟩) hly).trans y3; have x3 := (b2.cell (p := ⟨ax, 3, none⟩) hlx).trans x3; clear b2)
        go_ret
        exact ⟨ret_bool (by rw [H0.out, decide_eq_true H1.out]; by_cases hh : t1.at_ = t0.at_ + 1 <;> simp [hh] <;> omega), HB.out.trans (B2.out.mono hle)⟩
      · have e1 : ((t1.kind : Int) == 1) = false := by simp; omega
        have H1 := Lib.hid h1; clear h1
        go_wp2_with (go_at_call 88; (refine (HI.out _).mono ?_); rintro e w2 ⟨rfl, b2⟩; have B2 := Lib.hid b2; have y0 := (b2.cell (p := ⟨ay, 0, none⟩) hly).trans y0; have y3 := (b2.cell (p := ⟨ay, 3, none⟩) hly).trans y3; have x3 := (b2.cell (p := ⟨ax, 3, none⟩) hlx).trans x3; clear b2)
        go_ret
        exact ⟨ret_bool (by rw [H0.out, decide_eq_false H1.out]; rfl), HB.out.trans (B2.out.mono hle)⟩
end Tr
end Go.Proofs.YtlfbcaenlifmkaaGreatDoor
