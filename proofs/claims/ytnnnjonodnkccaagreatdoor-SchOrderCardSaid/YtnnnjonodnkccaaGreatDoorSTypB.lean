/- oneType: a type that a word begins; every type, by induction on what depth is left. -/
import Derived.Test.YtnnnjonodnkccaaGreatDoorSTyp
namespace Go.Proofs.YtnnnjonodnkccaaGreatDoor
open Go.RowKit
namespace Sh
open Sc

theorem set4 {w : World} {b : Nat} {t : TypeId} {v0 v1 v2 v3 : Value} (h : w.heap[b]? = some (.cells #[v0, v1, v2, v3] t (0, 0))) (u0 u1 u2 u3 : Value) :
    ((((w.setCell ⟨b, 0, none⟩ u0).setCell ⟨b, 1, none⟩ u1).setCell ⟨b, 2, none⟩ u2).setCell ⟨b, 3, none⟩ u3).heap[b]? = some (.cells #[u0, u1, u2, u3] t (0, 0)) := by
  unfold World.setCell; simp [Array.getElem?_modify, h]
theorem set1 {w : World} {b : Nat} {t : TypeId} {v0 v1 v2 v3 : Value} (h : w.heap[b]? = some (.cells #[v0, v1, v2, v3] t (0, 0))) (u : Value) :
    (w.setCell ⟨b, 3, none⟩ u).heap[b]? = some (.cells #[v0, v1, v2, u] t (0, 0)) := by
  unfold World.setCell; simp [Array.getElem?_modify, h]

theorem name_yes {r : R} (h : r.isName = true) : r.name = (r.head, r.tail) := by unfold R.name; rw [h]; rfl

/-- What a word's type is, as far as the word says it. -/
def wordC (s : List UInt8) : C4 := ⟨kindOf s, if kindOf s = 9 then ⟨s.toArray⟩ else ⟨#[]⟩, none, 0, 0, none, 0, 0⟩

set_option maxRecDepth 100000 in
set_option maxHeartbeats 2000000 in
/-- A word that stands alone. -/
theorem typ_alone (w : World) (rb d : Nat) (r : R) (h : RdE w rb r) (hL : LookTab w) (hd : d ≤ 12) (hA : r.isAt 4 [123] = false) (hN : r.isName = true) (hg : 0 ≠ rb) (hk : lkf (kindOf r.head) = 0) :
    Calls Tryz.prog 29 #[.pointer (some ⟨rb, 0, none⟩), .int .i64 d] w (TyP w rb (.mk (kindOf r.head) (if kindOf r.head = 9 then r.head else []) [] [], r.tail)) := by
  have hrb := h.lt
  have hgl := hL.lt
  have h0 := h.keep ((Below.refl _ _).alloc (Nat.le_refl _) (.cells z4 29))
  have hl0 := hL.below ((Below.refl _ _).alloc (Nat.le_refl _) (.cells z4 29))
  have HL1 := Lib.hid (hl0.below ((Below.refl _ _).alloc (Nat.le_refl _) (.cells (C4.cells ⟨7, ⟨#[]⟩, none, 0, 0, none, 0, 0⟩).toArray 29)))
  have h1 := h0.keep ((Below.refl _ _).alloc (Nat.le_refl _) (.cells (C4.cells ⟨7, ⟨#[]⟩, none, 0, 0, none, 0, 0⟩).toArray 29))
  have CM := name_any _ rb r h1
  rw [name_yes hN] at CM
  obtain ⟨a, c, h2⟩ := h0
  have CA := at_any _ rb r a c h2 4 [123]
  have CN := atName_any _ rb r a c h2
  rw [hA] at CA; rw [hN] at CN
  have HA := Lib.hid CA; have HN := Lib.hid CN; have HM := Lib.hid CM; have HY := Lib.hid (Lay2.start w rb ⟨7, ⟨#[]⟩, none, 0, 0, none, 0, 0⟩)
  have CW := wordType_any r.head
  unfold C4.val at CW
  have hkl := kindOf_le r.head
  have hnm : (if kindOf r.head = 9 then (⟨r.head.toArray⟩ : ByteArray) else ⟨#[]⟩) = ⟨(if kindOf r.head = 9 then r.head else []).toArray⟩ := by split <;> rfl
  rw [hnm] at CW
  clear hnm
  generalize (if kindOf r.head = 9 then r.head else []) = nm at *
  generalize kindOf r.head = k at *
  have hkf : (lkf k : Int) = 0 := by rw [hk]; rfl
  have HK := Lib.hid hkf; clear hkf hk
  have HW := Lib.hid CW
  have h1l := tail_le r
  clear CA CN CM CW h h1 h2 hL hA hN hl0
  unfold z4 C4.cells at *
  generalize r.head = s at *
  generalize r.tail = r1 at *
  have hd1 : (d : Int) ≤ 12 := by omega
  have hff := field_form
  go_enter Tryz.func29, Tryz.ntmps29
  go_wp2_with (first
    | (go_at_call 44; (refine HA.out.mono ?_); rintro e w1 ⟨rfl, rfl⟩)
    | (go_at_call 45; (refine HN.out.mono ?_); rintro e w1 ⟨rfl, rfl⟩)
    | (go_at_call 47; (refine HM.out.mono ?_); rintro e w1 ⟨rfl, h1, o1⟩; have Y1 := Lib.hid (HY.out.keep o1 hrb); have R1 := Lib.hid h1; have L1 := Lib.hid (HL1.out.only o1 hg); clear h1 o1)
    | (go_at_call 46; (refine (HW.out w1 L1.out).mono ?_); rintro e w2 ⟨rfl, b2⟩; have Y2 := Lib.hid (Y1.out.keep (Only.of_below b2) hrb); have R2 := Lib.hid (R1.out.keep b2); have L2 := Lib.hid (L1.out.below b2); obtain ⟨⟨⟨q0, q1, q2, q3⟩, z0, z1, z2, z3⟩, ⟨⟨p0, p1, p2, p3⟩, y0, y1, y2, y3⟩, hlt⟩ := Y2.out.cells; clear b2)
    | (go_at_call 48; (refine (look_form _ (L2.out.only (((((Only.refl (w.heap.size + 1) w2).setCell 0 _).setCell 1 _).setCell 2 _).setCell 3 _) (by omega)) k 0 (by omega) HK.out).mono ?_); rintro e w4 ⟨rfl, b4⟩; have Y4 := Lib.hid ((Y2.out.set (c' := ⟨k, ⟨nm.toArray⟩, none, 0, 0, none, 0, 0⟩) (((((Only.refl (w.heap.size + 1) w2).setCell 0 _).setCell 1 _).setCell 2 _).setCell 3 _) (set4 Y2.out.ty _ _ _ _) hrb).keep (Only.of_below b4) hrb); have R4 := Lib.hid ((R2.out.row (((((Only.refl (w.heap.size + 1) w2).setCell 0 _).setCell 1 _).setCell 2 _).setCell 3 _) (fun k e => by cases e; omega)).keep b4); have L4 := Lib.hid ((L2.out.only (((((Only.refl (w.heap.size + 1) w2).setCell 0 _).setCell 1 _).setCell 2 _).setCell 3 _) (by omega)).below b4); clear b4 q0 q1 q2 q3 z0 z1 z2 z3 p0 p1 p2 p3 y0 y1 y2 y3 hlt; obtain ⟨⟨⟨q0, q1, q2, q3⟩, z0, z1, z2, z3⟩, ⟨⟨p0, p1, p2, p3⟩, y0, y1, y2, y3⟩, hlt⟩ := Y4.out.cells))
  refine bodyPost_ret (v := C4.val ⟨k, ⟨nm.toArray⟩, none, 0, 0, none, 0, 0⟩) (by simp [results, Tryz.results29, go_sem, C4.val, p0, p1, p2, p3, hlt]) rfl ?_
  exact Lay2.fin (a := w4.heap.size) (t := .mk k nm [] []) Y4.out hrb R4.out (TyV.mk k nm [] [] none 0 none 0 [] rfl (.inl rfl) (.inl rfl) (fun i h => absurd h (Nat.not_lt_zero _))) hlt (Only.refl _ _) (((((Only.refl _ _).setCell 0 _).setCell 1 _).setCell 2 _).setCell 3 _)


set_option maxRecDepth 100000 in
set_option maxHeartbeats 2000000 in
/-- A union. -/
theorem typ_union (w : World) (rb d : Nat) (r : R) (h : RdE w rb r) (hL : LookTab w) (hd : d ≤ 12) (hA : r.isAt 4 [123] = false) (hN : r.isName = true) (hg : 0 ≠ rb) (hk : kindOf r.head = 8) (read : R → Ty × R)
    (hrec : ∀ w', LookTab w' → RdE w' rb r.tail → Calls Tryz.prog 49 #[.pointer (some ⟨rb, 0, none⟩), .int .i64 ((d : Int) + 1)] w' (RecP w' rb (listR [123] [125] (fieldR read) r.tail))) :
    Calls Tryz.prog 29 #[.pointer (some ⟨rb, 0, none⟩), .int .i64 d] w (TyP w rb (recordR 8 read r.tail)) := by
  have hrb := h.lt
  have hgl := hL.lt
  have h0 := h.keep ((Below.refl _ _).alloc (Nat.le_refl _) (.cells z4 29))
  have hl0 := hL.below ((Below.refl _ _).alloc (Nat.le_refl _) (.cells z4 29))
  have HL1 := Lib.hid (hl0.below ((Below.refl _ _).alloc (Nat.le_refl _) (.cells (C4.cells ⟨7, ⟨#[]⟩, none, 0, 0, none, 0, 0⟩).toArray 29)))
  have h1 := h0.keep ((Below.refl _ _).alloc (Nat.le_refl _) (.cells (C4.cells ⟨7, ⟨#[]⟩, none, 0, 0, none, 0, 0⟩).toArray 29))
  have CM := name_any _ rb r h1
  rw [name_yes hN] at CM
  obtain ⟨a, c, h2⟩ := h0
  have CA := at_any _ rb r a c h2 4 [123]
  have CN := atName_any _ rb r a c h2
  rw [hA] at CA; rw [hN] at CN
  have HA := Lib.hid CA; have HN := Lib.hid CN; have HM := Lib.hid CM; have HY := Lib.hid (Lay2.start w rb ⟨7, ⟨#[]⟩, none, 0, 0, none, 0, 0⟩)
  have CW := wordType_any r.head
  unfold C4.val at CW
  rw [hk, if_neg (by decide)] at CW
  have hr : recordR 8 read r.tail = (recOf 8 (listR [123] [125] (fieldR read) r.tail).1, (listR [123] [125] (fieldR read) r.tail).2.both (dup ((listR [123] [125] (fieldR read) r.tail).1.map (·.1)))) := rfl
  rw [hr]
  clear hr hk
  generalize listR [123] [125] (fieldR read) r.tail = full at *
  have HREC := Lib.hid hrec; clear hrec
  have HW := Lib.hid CW
  have h1l := tail_le r
  clear CA CN CM CW h h1 h2 hL hA hN hl0
  unfold z4 C4.cells at *
  generalize r.head = s at *
  generalize r.tail = r1 at *
  have hd1 : (d : Int) ≤ 12 := by omega
  have hff := field_form
  go_enter Tryz.func29, Tryz.ntmps29
  go_wp2_with (first
    | (go_at_call 44; (refine HA.out.mono ?_); rintro e w1 ⟨rfl, rfl⟩)
    | (go_at_call 45; (refine HN.out.mono ?_); rintro e w1 ⟨rfl, rfl⟩)
    | (go_at_call 47; (refine HM.out.mono ?_); rintro e w1 ⟨rfl, h1, o1⟩; have Y1 := Lib.hid (HY.out.keep o1 hrb); have R1 := Lib.hid h1; have L1 := Lib.hid (HL1.out.only o1 hg); clear h1 o1)
    | (go_at_call 46; (refine (HW.out w1 L1.out).mono ?_); rintro e w2 ⟨rfl, b2⟩; have Y2 := Lib.hid (Y1.out.keep (Only.of_below b2) hrb); have R2 := Lib.hid (R1.out.keep b2); have L2 := Lib.hid (L1.out.below b2); obtain ⟨⟨⟨q0, q1, q2, q3⟩, z0, z1, z2, z3⟩, ⟨⟨p0, p1, p2, p3⟩, y0, y1, y2, y3⟩, hlt⟩ := Y2.out.cells; clear b2)
    | (go_at_call 48; (refine (look_form _ (L2.out.only (((((Only.refl (w.heap.size + 1) w2).setCell 0 _).setCell 1 _).setCell 2 _).setCell 3 _) (by omega)) 8 3 (by decide) rfl).mono ?_); rintro e w4 ⟨rfl, b4⟩; have Y4 := Lib.hid ((Y2.out.set (c' := ⟨8, ⟨#[]⟩, none, 0, 0, none, 0, 0⟩) (((((Only.refl (w.heap.size + 1) w2).setCell 0 _).setCell 1 _).setCell 2 _).setCell 3 _) (set4 Y2.out.ty _ _ _ _) hrb).keep (Only.of_below b4) hrb); have R4 := Lib.hid ((R2.out.row (((((Only.refl (w.heap.size + 1) w2).setCell 0 _).setCell 1 _).setCell 2 _).setCell 3 _) (fun k e => by cases e; omega)).keep b4); have L4 := Lib.hid ((L2.out.only (((((Only.refl (w.heap.size + 1) w2).setCell 0 _).setCell 1 _).setCell 2 _).setCell 3 _) (by omega)).below b4); clear b4 q0 q1 q2 q3 z0 z1 z2 z3 p0 p1 p2 p3 y0 y1 y2 y3 hlt; obtain ⟨⟨⟨q0, q1, q2, q3⟩, z0, z1, z2, z3⟩, ⟨⟨p0, p1, p2, p3⟩, y0, y1, y2, y3⟩, hlt⟩ := Y4.out.cells; have C1 := Lib.hid (HREC.out w4 L4.out R4.out))
    | (go_at_call 49; (refine C1.out.mono ?_); rintro e w5 ⟨an, ln, cn, ak, lk, ck, rfl, h2, o2, hv⟩; have Y5 := Lib.hid (Y4.out.keep o2 hrb); clear q0 q1 q2 q3 z0 z1 z2 z3 p0 p1 p2 p3 y0 y1 y2 y3 hlt; obtain ⟨⟨⟨q0, q1, q2, q3⟩, z0, z1, z2, z3⟩, ⟨⟨p0, p1, p2, p3⟩, y0, y1, y2, y3⟩, hlt⟩ := Y5.out.cells; have H2 := Lib.hid h2; have HV := Lib.hid (hv 8); clear h2 o2 hv))
  refine bodyPost_ret (v := C4.val ⟨8, ⟨#[]⟩, an, ln, cn, ak, lk, ck⟩) (by simp [results, Tryz.results29, go_sem, C4.val, p0, p1, p2, p3, hlt]) rfl ?_
  exact Lay2.fin Y5.out hrb H2.out HV.out Y4.out.cells.2.2 (((Only.refl _ w5).setCell 2 _).setCell 3 _) (((((Only.refl _ _).setCell 0 _).setCell 1 _).setCell 2 _).setCell 3 _)


/-- The closing sign, behind a row that was just laid and a store. -/
theorem hold_need (w6 : World) (rb : Nat) (W : World) (r : R) (h : RdE w6 rb r) (tb : Nat) (ht : rb < tb) (htb : tb < w6.heap.size) (o : Obj) (v : Value) (hW : W = (w6.setCell ⟨tb, 3, none⟩ v).alloc o) :
    Calls Tryz.prog 30 #[.pointer (some ⟨rb, 0, none⟩), .int .i64 4, .string ⟨#[62]⟩] W (Post W rb (r.need 4 [62]) (.tuple #[])) := by
  subst hW
  rw [← World.setCell_alloc_past _ _ _ _ htb]
  exact need_any _ rb r ((h.keep ((Below.refl _ _).alloc (Nat.le_refl _) _)).row ((Only.refl tb _).setCell 3 _) (fun k e => by cases e; exact ht)) 4 [62]

/-- A type whose one kid lies in a row of one that was just laid. -/
theorem hold_ty {w5 w6 w8 w9 : World} {rb tb : Nat} {x : Ty} {c : C4} (h6 : Only rb w5 w6) (hv : TyV w6 (Span w5.heap.size w6.heap.size) x c) (h8 : Only tb (w6.alloc (.cells c.cells.toArray 29)) w8) (h9 : Only rb w8 w9) (htb : tb < w5.heap.size) (hrb : rb < w5.heap.size) (k : Nat) :
    TyV w9 (Span w5.heap.size w9.heap.size) (.mk k [] [] [x]) ⟨k, ⟨#[]⟩, none, 0, 0, some ⟨w6.heap.size, 0, none⟩, 1, 1⟩ := by
  have s6 := h6.size
  have s8 := h8.size
  have s9 := h9.size
  simp at s8
  have hb : w9.heap[w6.heap.size]? = some (.cells c.cells.toArray 29 (0, 0)) := h9.blk (h8.blk (heap_alloc_new w6 _) (by omega)) (by omega)
  refine TyV.mk k [] [] [x] none 0 (some ⟨w6.heap.size, 0, none⟩) 1 [c] rfl (.inl rfl) (.inr ⟨w6.heap.size, rfl, ⟨by omega, by omega⟩, fun j u hu => ?_⟩) (fun i hi hi' => ?_)
  · rw [show [c].flatMap C4.cells = c.cells by simp] at hu
    unfold World.cell?
    simp only [hb]
    simpa using hu
  · match i, hi with
    | 0, _ =>
      refine hv.keep (Span.in (Nat.le_refl _) (by omega)) fun g hg => ?_
      have h1 := hg.1; have h2 := hg.2
      rw [h9.block g (by omega) (fun e => by cases e; omega), h8.block g (by simp; omega) (fun e => by cases e; omega), Below.heap_alloc _ _ _ h2]

set_option maxRecDepth 100000 in
set_option maxHeartbeats 2000000 in
/-- A type in angle brackets. -/
theorem typ_hold (w : World) (rb d : Nat) (r : R) (h : RdE w rb r) (hL : LookTab w) (hd : d ≤ 12) (hA : r.isAt 4 [123] = false) (hN : r.isName = true) (hg : 0 ≠ rb) (hk : lkf (kindOf r.head) = 1) (hw : r.words.length ≤ 1000) (read : R → Ty × R)
    (hread : ∀ w' r', LookTab w' → RdE w' rb r' → r'.words.length ≤ 1000 → Calls Tryz.prog 29 #[.pointer (some ⟨rb, 0, none⟩), .int .i64 ((d : Int) + 1)] w' (TyP w' rb (read r'))) :
    Calls Tryz.prog 29 #[.pointer (some ⟨rb, 0, none⟩), .int .i64 d] w (TyP w rb (.mk (kindOf r.head) [] [] [(read (r.tail.need 4 [60])).1], (read (r.tail.need 4 [60])).2.need 4 [62])) := by
  have hrb := h.lt
  have hgl := hL.lt
  have h0 := h.keep ((Below.refl _ _).alloc (Nat.le_refl _) (.cells z4 29))
  have hl0 := hL.below ((Below.refl _ _).alloc (Nat.le_refl _) (.cells z4 29))
  have HL1 := Lib.hid (hl0.below ((Below.refl _ _).alloc (Nat.le_refl _) (.cells (C4.cells ⟨7, ⟨#[]⟩, none, 0, 0, none, 0, 0⟩).toArray 29)))
  have h1 := h0.keep ((Below.refl _ _).alloc (Nat.le_refl _) (.cells (C4.cells ⟨7, ⟨#[]⟩, none, 0, 0, none, 0, 0⟩).toArray 29))
  have CM := name_any _ rb r h1
  rw [name_yes hN] at CM
  obtain ⟨a, c, h2⟩ := h0
  have CA := at_any _ rb r a c h2 4 [123]
  have CN := atName_any _ rb r a c h2
  rw [hA] at CA; rw [hN] at CN
  have HA := Lib.hid CA; have HN := Lib.hid CN; have HM := Lib.hid CM; have HY := Lib.hid (Lay2.start w rb ⟨7, ⟨#[]⟩, none, 0, 0, none, 0, 0⟩)
  have CW := wordType_any r.head
  unfold C4.val at CW
  have hkl := kindOf_le r.head
  have hn9 : kindOf r.head ≠ 9 := fun e => by rw [e] at hk; cases hk
  rw [if_neg hn9] at CW
  clear hn9
  generalize kindOf r.head = k at *
  have hkf : (lkf k : Int) = 1 := by rw [hk]; rfl
  have HK := Lib.hid hkf; have HRE := Lib.hid hread; clear hkf hk hread
  have HW := Lib.hid CW
  have h1l := tail_le r
  clear CA CN CM CW h h1 h2 hL hA hN hl0
  unfold z4 C4.cells at *
  generalize r.head = s at *
  generalize r.tail = r1 at *
  have hd1 : (d : Int) ≤ 12 := by omega
  have hff := field_form
  go_enter Tryz.func29, Tryz.ntmps29
  go_wp2_with (first
    | (go_at_call 44; (refine HA.out.mono ?_); rintro e w1 ⟨rfl, rfl⟩)
    | (go_at_call 45; (refine HN.out.mono ?_); rintro e w1 ⟨rfl, rfl⟩)
    | (go_at_call 47; (refine HM.out.mono ?_); rintro e w1 ⟨rfl, h1, o1⟩; have Y1 := Lib.hid (HY.out.keep o1 hrb); have R1 := Lib.hid h1; have L1 := Lib.hid (HL1.out.only o1 hg); clear h1 o1)
    | (go_at_call 46; (refine (HW.out w1 L1.out).mono ?_); rintro e w2 ⟨rfl, b2⟩; have Y2 := Lib.hid (Y1.out.keep (Only.of_below b2) hrb); have R2 := Lib.hid (R1.out.keep b2); have L2 := Lib.hid (L1.out.below b2); obtain ⟨⟨⟨q0, q1, q2, q3⟩, z0, z1, z2, z3⟩, ⟨⟨p0, p1, p2, p3⟩, y0, y1, y2, y3⟩, hlt⟩ := Y2.out.cells; clear b2)
    | (go_at_call 48; (refine (look_form _ (L2.out.only (((((Only.refl (w.heap.size + 1) w2).setCell 0 _).setCell 1 _).setCell 2 _).setCell 3 _) (by omega)) k 1 (by omega) HK.out).mono ?_); rintro e w4 ⟨rfl, b4⟩; have Y4 := Lib.hid ((Y2.out.set (c' := ⟨k, ⟨#[]⟩, none, 0, 0, none, 0, 0⟩) (((((Only.refl (w.heap.size + 1) w2).setCell 0 _).setCell 1 _).setCell 2 _).setCell 3 _) (set4 Y2.out.ty _ _ _ _) hrb).keep (Only.of_below b4) hrb); have R4 := Lib.hid ((R2.out.row (((((Only.refl (w.heap.size + 1) w2).setCell 0 _).setCell 1 _).setCell 2 _).setCell 3 _) (fun k e => by cases e; omega)).keep b4); have L4 := Lib.hid ((L2.out.only (((((Only.refl (w.heap.size + 1) w2).setCell 0 _).setCell 1 _).setCell 2 _).setCell 3 _) (by omega)).below b4); clear b4 q0 q1 q2 q3 z0 z1 z2 z3 p0 p1 p2 p3 y0 y1 y2 y3 hlt; obtain ⟨⟨⟨q0, q1, q2, q3⟩, z0, z1, z2, z3⟩, ⟨⟨p0, p1, p2, p3⟩, y0, y1, y2, y3⟩, hlt⟩ := Y4.out.cells; have N4 : Hid (Calls Tryz.prog 30 #[.pointer (some ⟨rb, 0, none⟩), .int .i64 4, .string ⟨#[60]⟩] w4 (Post w4 rb (r1.need 4 [60]) (.tuple #[]))) := need_any w4 rb r1 R4.out 4 [60]; have hn4 := need_le r1 4 [60])
    | (go_at_call 30; (with_reducible refine N4.out.mono ?_); rintro e w5 ⟨rfl, h5, o5⟩; have Y5 := Lib.hid (Y4.out.keep o5 hrb); have L5 := Lib.hid (L4.out.only o5 hg); have C5 := Lib.hid (HRE.out w5 (r1.need 4 [60]) L5.out h5 (by omega)); have hs5 := Y5.out.cells.2.2; clear h5 o5)
    | (go_at_call 29; (refine C5.out.mono ?_); rintro e w6 ⟨c6, rfl, h6, o6, hv⟩; have Y6 := Lib.hid (Y5.out.keep o6 hrb); have H6 := Lib.hid h6; have O6 := Lib.hid o6; have HV := Lib.hid hv; clear h6 o6 hv; clear q0 q1 q2 q3 z0 z1 z2 z3 p0 p1 p2 p3 y0 y1 y2 y3 hlt; obtain ⟨⟨⟨q0, q1, q2, q3⟩, z0, z1, z2, z3⟩, ⟨⟨p0, p1, p2, p3⟩, y0, y1, y2, y3⟩, hlt⟩ := Y6.out.cells; obtain ⟨kd, nm2, an, ln, cn, ak, lk, ck⟩ := c6; have W8 := hold_need w6 rb _ (read (r1.need 4 [60])).2 H6.out (w.heap.size + 1) (by omega) hlt (.cells #[.int .i64 kd, .string nm2, .slice an ln cn, .slice ak lk ck] 29) (.slice (some ⟨w6.heap.size, 0, none⟩) 1 1) rfl; simp only [C4.val])
    | (go_at_call 30; (with_reducible refine W8.mono ?_); rintro e w9 ⟨rfl, h9, o9⟩; rw [← World.setCell_alloc_past _ _ _ _ hlt] at o9; have Y9 := Lib.hid (((Y6.out.keep (Only.alloc rb w6 _) hrb).set (c' := ⟨k, ⟨#[]⟩, none, 0, 0, some ⟨w6.heap.size, 0, none⟩, 1, 1⟩) ((Only.refl (w.heap.size + 1) _).setCell 3 _) (set1 (Y6.out.keep (Only.alloc rb w6 _) hrb).ty _) hrb).keep o9 hrb); have H9 := Lib.hid h9; have O9 := Lib.hid o9; clear h9 o9; clear q0 q1 q2 q3 z0 z1 z2 z3 p0 p1 p2 p3 y0 y1 y2 y3 hlt; obtain ⟨⟨⟨q0, q1, q2, q3⟩, z0, z1, z2, z3⟩, ⟨⟨p0, p1, p2, p3⟩, y0, y1, y2, y3⟩, hlt⟩ := Y9.out.cells))
  refine bodyPost_ret (v := C4.val ⟨k, ⟨#[]⟩, none, 0, 0, some ⟨w6.heap.size, 0, none⟩, 1, 1⟩) (by simp [results, Tryz.results29, go_sem, C4.val, p0, p1, p2, p3, hlt]) rfl ?_
  exact Lay2.fin Y9.out hrb H9.out (hold_ty O6.out HV.out ((Only.refl (w.heap.size + 1) _).setCell 3 _) O9.out (by omega) (by omega) k) hs5 (Only.refl _ _) (((((Only.refl _ _).setCell 0 _).setCell 1 _).setCell 2 _).setCell 3 _)


theorem kind_form (s : List UInt8) : (lkf (kindOf s) = 1 ↔ (kindOf s = 4 ∨ kindOf s = 5 ∨ kindOf s = 6)) ∧ (kindOf s ≠ 8 → ¬ lkf (kindOf s) = 1 → lkf (kindOf s) = 0) := by
  have h7 : kindOf s ≠ 7 := by unfold kindOf; repeat' split
                               all_goals omega
  have h9 := kindOf_le s
  generalize kindOf s = k at *
  match k, h7, h9 with
  | 0, _, _ => decide
  | 1, _, _ => decide
  | 2, _, _ => decide
  | 3, _, _ => decide
  | 4, _, _ => decide
  | 5, _, _ => decide
  | 6, _, _ => decide
  | 8, _, _ => decide
  | 9, _, _ => decide

/-- Every type: what oneType leaves. -/
theorem typ_any (f : Nat) : ∀ (w : World) (rb d : Nat) (r : R), d + f = 13 → RdE w rb r → LookTab w → 0 ≠ rb → r.words.length ≤ 1000 →
    Calls Tryz.prog 29 #[.pointer (some ⟨rb, 0, none⟩), .int .i64 d] w (TyP w rb (typ f r)) := by
  induction f with
  | zero =>
    intro w rb d r hd hR hL hg hw
    unfold typ
    cases hb : (r.isAt 4 [123] || r.isName)
    · rw [if_neg (by decide)]
      rw [Bool.or_eq_false_iff] at hb
      exact typ_fail w rb d 12 r hR (.inl ⟨hb.1, hb.2, rfl⟩)
    · rw [if_pos rfl]
      exact typ_fail w rb d 13 r hR (.inr ⟨hb, by omega, by omega, rfl⟩)
  | succ f ih =>
    intro w rb d r hd hR hL hg hw
    have e : ((d + 1 : Nat) : Int) = (d : Int) + 1 := by omega
    have hread : ∀ w' r', LookTab w' → RdE w' rb r' → r'.words.length ≤ 1000 → Calls Tryz.prog 29 #[.pointer (some ⟨rb, 0, none⟩), .int .i64 ((d + 1 : Nat) : Int)] w' (TyP w' rb (typ f r')) :=
      fun w' r' hL' hR' hw' => ih w' rb (d + 1) r' (by omega) hR' hL' hg hw'
    unfold typ
    cases hA : r.isAt 4 [123]
    · rw [if_neg (by decide)]
      cases hN : r.isName
      · rw [if_neg (by decide)]
        exact typ_fail w rb d 12 r hR (.inl ⟨hA, hN, rfl⟩)
      · rw [if_pos rfl]
        obtain ⟨k1, k2⟩ := kind_form r.head
        by_cases h1 : kindOf r.head = 4 ∨ kindOf r.head = 5 ∨ kindOf r.head = 6
        · rw [if_pos h1]
          exact typ_hold w rb d r hR hL (by omega) hA hN hg (k1.2 h1) hw (typ f) (by rw [← e]; exact hread)
        · rw [if_neg h1]
          by_cases h8 : kindOf r.head = 8
          · rw [if_pos h8]
            exact typ_union w rb d r hR hL (by omega) hA hN hg h8 (typ f) (fun w' hL' hR' => by
              rw [← e]; exact record_any w' rb (d + 1) r.tail hR' hL' hg (Nat.le_trans (tail_le r) hw) (typ f) (typ_le f) hread)
          · rw [if_neg h8]
            have h := typ_alone w rb d r hR hL (by omega) hA hN hg (k2 h8 (fun h => h1 (k1.1 h)))
            by_cases h9 : kindOf r.head = 9
            · rw [if_pos h9]; rw [if_pos h9, h9] at h; exact h
            · rw [if_neg h9]; rw [if_neg h9] at h; exact h
    · rw [if_pos rfl]
      exact typ_bare w rb d r hR hL (by omega) hA (typ f) (fun w' hL' hR' => by
        rw [← e]; exact record_any w' rb (d + 1) r hR' hL' hg hw (typ f) (typ_le f) hread)
end Sh
end Go.Proofs.YtnnnjonodnkccaaGreatDoor
