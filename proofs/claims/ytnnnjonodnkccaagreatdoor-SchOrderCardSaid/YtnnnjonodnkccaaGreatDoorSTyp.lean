/- oneType: a type, so many deep. -/
import Derived.Test.YtnnnjonodnkccaaGreatDoorSRecB
namespace Go.Proofs.YtnnnjonodnkccaaGreatDoor
open Go.RowKit
namespace Sh
open Sc

def z4 : Array Value := #[.int .i64 0, .string ⟨#[]⟩, .slice none 0 0, .slice none 0 0]

theorem look_form (w : World) (hL : LookTab w) (k : Nat) (f : Int) (hk : k < 10) (hf : (lkf k : Int) = f) : Calls Tryz.prog 48 #[.int .i64 k] w fun e w' => e = .returned (.agg #[.string ⟨(lkw k).toArray⟩, .int .i64 f]) ∧ Below w.heap.size w w' := by
  have := lookOf_in w hL k hk
  rwa [hf] at this

theorem field_form (s : ByteArray) (f : Int) (w : World) : (Instr.field 103 (.agg #[.string s, .int .i64 f]) 1).run Tryz.prog w = .ok (.int .i64 f) w := by kernel_rfl

/-- Neither a brace nor a name, or too deep: what fail leaves. -/
theorem typ_fail (w : World) (rb d x : Nat) (r : R) (h : RdE w rb r) (hx : (r.isAt 4 [123] = false ∧ r.isName = false ∧ x = 12) ∨ ((r.isAt 4 [123] || r.isName) = true ∧ 13 ≤ d ∧ d ≤ 1000 ∧ x = 13)) :
    Calls Tryz.prog 29 #[.pointer (some ⟨rb, 0, none⟩), .int .i64 d] w (TyP w rb (.zero, r.fail x)) := by
  have hrb := h.lt
  have hb := heap_alloc_new w (.cells z4 29)
  have h0 := h.keep ((Below.refl _ _).alloc (Nat.le_refl _) (.cells z4 29))
  have CF := fail_any _ rb r h0 x
  obtain ⟨a, c, h1⟩ := h0
  have CA := at_any _ rb r a c h1 4 [123]
  have CN := atName_any _ rb r a c h1
  have HF := Lib.hid CF; have HB := Lib.hid hb
  clear CF hb h1 h
  unfold z4 at *
  have fin : ∀ w1, Only rb (w.alloc (.cells #[.int .i64 0, .string ⟨#[]⟩, .slice none 0 0, .slice none 0 0] 29)) w1 → RdE w1 rb (r.fail x) → ∀ w5, Only w.heap.size w1 w5 → TyP w rb (.zero, r.fail x) (.returned C4.zero.val) w5 := fun w1 o1 h1 w5 o5 => by
    have h3 := o1.size
    simp at h3
    have hf := TyV.fin (b := w.heap.size) (a := w.heap.size + 1) (c := .zero) (t := .zero) ((Only.alloc rb w _).trans o1) h1 (TyV.zero w1 _) (by omega) (Nat.le_refl _) hrb o5
    exact ⟨.zero, rfl, hf.1, hf.2.1, hf.2.2⟩
  have HFIN := Lib.hid fin; clear fin
  rcases hx with ⟨h1, h2, rfl⟩ | ⟨h1, h2, h3, rfl⟩
  · rw [h1] at CA; rw [h2] at CN
    have HA := Lib.hid CA; have HN := Lib.hid CN; clear CA CN h1 h2
    go_enter Tryz.func29, Tryz.ntmps29
    go_wp2_with (first
      | (go_at_call 44; (refine HA.out.mono ?_); rintro e w1 ⟨rfl, rfl⟩)
      | (go_at_call 45; (refine HN.out.mono ?_); rintro e w1 ⟨rfl, rfl⟩)
      | (go_at_call 43; (refine HF.out.mono ?_); rintro e w1 ⟨rfl, h1, o1⟩; have hs1 := o1.size; simp at hs1; obtain ⟨⟨q0, q1, q2, q3⟩, z0, z1, z2, z3⟩ := four_blk (o1.blk HB.out (by omega)); have H1 := Lib.hid h1; have O1 := Lib.hid o1; clear h1 o1))
    have hlt : w.heap.size < w1.heap.size := by omega
    refine bodyPost_ret (v := C4.zero.val) (by simp [results, Tryz.results29, go_sem, C4.val, C4.zero, q0, q1, q2, q3, hlt]) rfl ?_
    exact HFIN.out w1 O1.out H1.out _ (((((Only.refl _ w1).setCell 0 _).setCell 1 _).setCell 2 _).setCell 3 _)
  · have hd : (12 : Int) < (d : Int) := by omega
    have hd2 : (d : Int) ≤ 1000 := by omega
    clear h2 h3
    have hor : r.isAt 4 [123] = true ∨ (r.isAt 4 [123] = false ∧ r.isName = true) := by
      cases hA : r.isAt 4 [123]
      · rw [hA, Bool.false_or] at h1; exact .inr ⟨rfl, h1⟩
      · exact .inl rfl
    clear h1
    rcases hor with hA | ⟨hA, hN⟩
    · rw [hA] at CA
      have HA := Lib.hid CA; have HN := Lib.hid CN; clear CA CN hA
      go_enter Tryz.func29, Tryz.ntmps29
      go_wp2_with (first
        | (go_at_call 44; (refine HA.out.mono ?_); rintro e w1 ⟨rfl, rfl⟩)
        | (go_at_call 45; (refine HN.out.mono ?_); rintro e w1 ⟨rfl, rfl⟩)
        | (go_at_call 43; (refine HF.out.mono ?_); rintro e w1 ⟨rfl, h1, o1⟩; have hs1 := o1.size; simp at hs1; obtain ⟨⟨q0, q1, q2, q3⟩, z0, z1, z2, z3⟩ := four_blk (o1.blk HB.out (by omega)); have H1 := Lib.hid h1; have O1 := Lib.hid o1; clear h1 o1))
      have hlt : w.heap.size < w1.heap.size := by omega
      refine bodyPost_ret (v := C4.zero.val) (by simp [results, Tryz.results29, go_sem, C4.val, C4.zero, q0, q1, q2, q3, hlt]) rfl ?_
      exact HFIN.out w1 O1.out H1.out _ (((((Only.refl _ w1).setCell 0 _).setCell 1 _).setCell 2 _).setCell 3 _)
    · rw [hA] at CA; rw [hN] at CN
      have HA := Lib.hid CA; have HN := Lib.hid CN; clear CA CN hA hN
      go_enter Tryz.func29, Tryz.ntmps29
      go_wp2_with (first
        | (go_at_call 44; (refine HA.out.mono ?_); rintro e w1 ⟨rfl, rfl⟩)
        | (go_at_call 45; (refine HN.out.mono ?_); rintro e w1 ⟨rfl, rfl⟩)
        | (go_at_call 43; (refine HF.out.mono ?_); rintro e w1 ⟨rfl, h1, o1⟩; have hs1 := o1.size; simp at hs1; obtain ⟨⟨q0, q1, q2, q3⟩, z0, z1, z2, z3⟩ := four_blk (o1.blk HB.out (by omega)); have H1 := Lib.hid h1; have O1 := Lib.hid o1; clear h1 o1))
      have hlt : w.heap.size < w1.heap.size := by omega
      refine bodyPost_ret (v := C4.zero.val) (by simp [results, Tryz.results29, go_sem, C4.val, C4.zero, q0, q1, q2, q3, hlt]) rfl ?_
      exact HFIN.out w1 O1.out H1.out _ (((((Only.refl _ w1).setCell 0 _).setCell 1 _).setCell 2 _).setCell 3 _)

/-- How a call goes on that has laid its result's block, and the type's: both in the world behind. -/
structure Lay2 (w w1 : World) (rb : Nat) (c : C4) : Prop where
  only : Only rb w w1
  res : w1.heap[w.heap.size]? = some (.cells z4 29 (0, 0))
  ty : w1.heap[w.heap.size + 1]? = some (.cells c.cells.toArray 29 (0, 0))

theorem Lay2.start (w : World) (rb : Nat) (c : C4) : Lay2 w ((w.alloc (.cells z4 29)).alloc (.cells c.cells.toArray 29)) rb c := by
  refine ⟨(Only.alloc rb w _).trans (Only.alloc rb _ _), ?_, ?_⟩
  · rw [Below.heap_alloc _ _ _ (by simp)]; exact heap_alloc_new w _
  · have := heap_alloc_new (w.alloc (.cells z4 29)) (.cells c.cells.toArray 29)
    rwa [show (w.alloc (.cells z4 29)).heap.size = w.heap.size + 1 by simp] at this
theorem Lay2.keep {w w1 w2 : World} {rb : Nat} {c : C4} (h : Lay2 w w1 rb c) (ho : Only rb w1 w2) (hrb : rb < w.heap.size) : Lay2 w w2 rb c :=
  ⟨h.only.trans ho, ho.blk h.res (by omega), ho.blk h.ty (by omega)⟩
/-- The type's block is written. -/
theorem Lay2.set {w w1 w2 : World} {rb : Nat} {c c' : C4} (h : Lay2 w w1 rb c) (ho : Only (w.heap.size + 1) w1 w2) (hb : w2.heap[w.heap.size + 1]? = some (.cells c'.cells.toArray 29 (0, 0))) (hrb : rb < w.heap.size) : Lay2 w w2 rb c' :=
  ⟨But.only (o := some (w.heap.size + 1)) (But.of_grown ho) h.only (fun k e => by cases e; omega), ho.blk h.res (by omega), hb⟩
theorem Lay2.cells {w w1 : World} {rb : Nat} {k : Int} {n : ByteArray} {an : Option Addr} {ln cn : Nat} {ak : Option Addr} {lk ck : Nat} (h : Lay2 w w1 rb ⟨k, n, an, ln, cn, ak, lk, ck⟩) :
    ((w1.cell? ⟨w.heap.size + 1, 0, none⟩ = some (.int .i64 k) ∧ w1.cell? ⟨w.heap.size + 1, 1, none⟩ = some (.string n) ∧ w1.cell? ⟨w.heap.size + 1, 2, none⟩ = some (.slice an ln cn) ∧ w1.cell? ⟨w.heap.size + 1, 3, none⟩ = some (.slice ak lk ck)) ∧
    (w1.frozen? ⟨w.heap.size + 1, 0, none⟩ = false ∧ w1.frozen? ⟨w.heap.size + 1, 1, none⟩ = false ∧ w1.frozen? ⟨w.heap.size + 1, 2, none⟩ = false ∧ w1.frozen? ⟨w.heap.size + 1, 3, none⟩ = false)) ∧
    ((w1.cell? ⟨w.heap.size, 0, none⟩ = some (.int .i64 0) ∧ w1.cell? ⟨w.heap.size, 1, none⟩ = some (.string ⟨#[]⟩) ∧ w1.cell? ⟨w.heap.size, 2, none⟩ = some (.slice none 0 0) ∧ w1.cell? ⟨w.heap.size, 3, none⟩ = some (.slice none 0 0)) ∧
    (w1.frozen? ⟨w.heap.size, 0, none⟩ = false ∧ w1.frozen? ⟨w.heap.size, 1, none⟩ = false ∧ w1.frozen? ⟨w.heap.size, 2, none⟩ = false ∧ w1.frozen? ⟨w.heap.size, 3, none⟩ = false)) ∧ w.heap.size + 1 < w1.heap.size :=
  ⟨four_blk h.ty, four_blk h.res, (Array.getElem?_eq_some_iff.1 h.ty).1⟩

theorem Lay2.fin {w w2 w3 w5 : World} {rb a : Nat} {c0 c : C4} {r : R} {t : Ty} (h : Lay2 w w2 rb c0) (hrb : rb < w.heap.size) (hR : RdE w2 rb r) (hv : TyV w2 (Span a w2.heap.size) t c) (ha : w.heap.size + 1 < a)
    (h3 : Only (w.heap.size + 1) w2 w3) (h5 : Only w.heap.size w3 w5) : TyP w rb (t, r) (.returned c.val) w5 := by
  refine ⟨c, rfl, (hR.row h3 (fun k e => by cases e; omega)).row h5 (fun k e => by cases e; omega), ?_, ?_⟩
  · exact But.only (o := some w.heap.size) (But.of_grown h5) (But.only (o := some (w.heap.size + 1)) (But.of_grown h3) h.only (fun k e => by cases e; omega)) (fun k e => by cases e; omega)
  · have s3 := h3.size
    refine hv.keep (Span.in (by omega) (Nat.le_trans h3.size h5.size)) fun g hg => ?_
    have h1 := hg.1; have h2 := hg.2
    exact (h5.block g (by omega) (fun e => by cases e; omega)).trans (h3.block g h2 (fun e => by cases e; omega))

set_option maxRecDepth 100000 in
set_option maxHeartbeats 2000000 in
/-- A record without a word. -/
theorem typ_bare (w : World) (rb d : Nat) (r : R) (h : RdE w rb r) (hL : LookTab w) (hd : d ≤ 12) (hA : r.isAt 4 [123] = true) (read : R → Ty × R)
    (hrec : ∀ w', LookTab w' → RdE w' rb r → Calls Tryz.prog 49 #[.pointer (some ⟨rb, 0, none⟩), .int .i64 ((d : Int) + 1)] w' (RecP w' rb (listR [123] [125] (fieldR read) r))) :
    Calls Tryz.prog 29 #[.pointer (some ⟨rb, 0, none⟩), .int .i64 d] w (TyP w rb (recordR 7 read r)) := by
  have hrb := h.lt
  have h0 := h.keep ((Below.refl _ _).alloc (Nat.le_refl _) (.cells z4 29))
  have hl0 := hL.below ((Below.refl _ _).alloc (Nat.le_refl _) (.cells z4 29))
  have HL1 := Lib.hid (hl0.below ((Below.refl _ _).alloc (Nat.le_refl _) (.cells (C4.cells ⟨7, ⟨#[]⟩, none, 0, 0, none, 0, 0⟩).toArray 29)))
  have HR1 := Lib.hid (h0.keep ((Below.refl _ _).alloc (Nat.le_refl _) (.cells (C4.cells ⟨7, ⟨#[]⟩, none, 0, 0, none, 0, 0⟩).toArray 29)))
  obtain ⟨a, c, h1⟩ := h0
  have CA := at_any _ rb r a c h1 4 [123]
  rw [hA] at CA
  have HA := Lib.hid CA; have HY := Lib.hid (Lay2.start w rb ⟨7, ⟨#[]⟩, none, 0, 0, none, 0, 0⟩); have HREC := Lib.hid hrec
  have hr : recordR 7 read r = (recOf 7 (listR [123] [125] (fieldR read) r).1, (listR [123] [125] (fieldR read) r).2.both (dup ((listR [123] [125] (fieldR read) r).1.map (·.1)))) := rfl
  rw [hr]
  clear CA h1 h hL hrec hA hr hl0
  unfold z4 C4.cells at *
  generalize listR [123] [125] (fieldR read) r = full at *
  have hd1 : (d : Int) ≤ 12 := by omega
  have hff := field_form
  go_enter Tryz.func29, Tryz.ntmps29
  go_wp2_with (first
    | (go_at_call 44; (refine HA.out.mono ?_); rintro e w1 ⟨rfl, rfl⟩)
    | (go_at_call 48; (refine (look_form _ HL1.out 7 2 (by decide) rfl).mono ?_); rintro e w1 ⟨rfl, b1⟩; have Y1 := Lib.hid (HY.out.keep (Only.of_below b1) hrb); have L1 := Lib.hid (HL1.out.below b1); have R1 := Lib.hid (HR1.out.keep b1); have C1 := Lib.hid (HREC.out w1 L1.out R1.out); clear b1)
    | (go_at_call 49; (refine C1.out.mono ?_); rintro e w2 ⟨an, ln, cn, ak, lk, ck, rfl, h2, o2, hv⟩; have Y2 := Lib.hid (Y1.out.keep o2 hrb); obtain ⟨⟨⟨q0, q1, q2, q3⟩, z0, z1, z2, z3⟩, ⟨⟨p0, p1, p2, p3⟩, y0, y1, y2, y3⟩, hlt⟩ := Y2.out.cells; have H2 := Lib.hid h2; have HV := Lib.hid (hv 7); clear h2 o2 hv))
  refine bodyPost_ret (v := C4.val ⟨7, ⟨#[]⟩, an, ln, cn, ak, lk, ck⟩) (by simp [results, Tryz.results29, go_sem, C4.val, p0, p1, p2, p3, hlt]) rfl ?_
  exact Lay2.fin Y2.out hrb H2.out HV.out Y1.out.cells.2.2 (((Only.refl _ w2).setCell 2 _).setCell 3 _) (((((Only.refl _ _).setCell 0 _).setCell 1 _).setCell 2 _).setCell 3 _)
end Sh
end Go.Proofs.YtnnnjonodnkccaaGreatDoor
