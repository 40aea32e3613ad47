/- function: a function of a schema, read. -/
import Derived.Test.YtnnnjonodnkccaaGreatDoorSNamed
import Derived.Test.YtnnnjonodnkccaaGreatDoorSListT
import Derived.Test.YtnnnjonodnkccaaGreatDoorSNamesS
namespace Go.Proofs.YtnnnjonodnkccaaGreatDoor
open Go.RowKit
namespace Sh
open Sc

/-- A function's parameters in memory. -/
def ParV (w : World) (S : Nat → Prop) (ps : List Ty) (ap : Option Addr) (lp : Nat) : Prop :=
  lp = ps.length ∧ ∃ us : List C4, us.length = ps.length ∧ Cells w S ap (us.flatMap C4.cells) ∧ ∀ i (h : i < ps.length) (h' : i < us.length), TyV w S ps[i] us[i]
theorem ParV.keep {w w' : World} {S S' : Nat → Prop} {ps : List Ty} {ap : Option Addr} {lp : Nat} (h : ParV w S ps ap lp) (hS : ∀ g, S g → S' g) (hk : ∀ g, S g → w'.heap[g]? = w.heap[g]?) : ParV w' S' ps ap lp := by
  obtain ⟨h1, us, h2, h3, h4⟩ := h
  exact ⟨h1, us, h2, h3.keep hS hk, fun i a b => (h4 i a b).keep hS hk⟩
def SigV (w : World) (S : Nat → Prop) (s : Sig) (g : G5) : Prop := ParV w S s.params g.ap g.lp ∧ TyV w S s.result g.c
theorem SigV.keep {w w' : World} {S S' : Nat → Prop} {s : Sig} {g : G5} (h : SigV w S s g) (hS : ∀ g, S g → S' g) (hk : ∀ g, S g → w'.heap[g]? = w.heap[g]?) : SigV w' S' s g := ⟨h.1.keep hS hk, h.2.keep hS hk⟩

/-- What reading a function leaves. -/
def ElS (w : World) (rb : Nat) (x : (List UInt8 × Sig) × R) (e : Ending) (w' : World) : Prop :=
  ∃ y : List UInt8 × (G5 × Sig), e = .returned (.agg (encS y).toArray) ∧ RdE w' rb x.2 ∧ Only rb w w' ∧ (y.1, y.2.2) = x.1 ∧ SigV w' (Span w.heap.size w'.heap.size) y.2.2 y.2.1

/-- What list leaves of types, as parameters. -/
theorem par_of_list {w w' : World} {rb : Nat} {a : Option Addr} {c : Nat} {l : List (C4 × Ty)} (h : LMemT w w' rb (.slice a l.length c) l) : ParV w' (Span w.heap.size w'.heap.size) (l.map (·.2)) a l.length := by
  obtain ⟨S, s1, s2, s3⟩ := h.far
  refine ⟨by simp, l.map (·.1), by simp, ?_, fun i hi hi' => ?_⟩
  · have := own_cells h.own (S := Span w.heap.size w'.heap.size) (fun g h1 h2 => ⟨h1, h2⟩)
    rw [List.flatMap_map]
    exact this
  · rw [List.getElem_map, List.getElem_map]
    exact (s3 _ (List.getElem_mem _)).keep (fun g hg => s1 g hg) (fun _ _ => rfl)

theorem six_blk {w : World} {b : Nat} {t : TypeId} {v0 v1 v2 v3 v4 v5 : Value} (h : w.heap[b]? = some (.cells #[v0, v1, v2, v3, v4, v5] t (0, 0))) :
    (w.cell? ⟨b, 0, none⟩ = some v0 ∧ w.cell? ⟨b, 1, none⟩ = some v1 ∧ w.cell? ⟨b, 2, none⟩ = some v2 ∧ w.cell? ⟨b, 3, none⟩ = some v3 ∧ w.cell? ⟨b, 4, none⟩ = some v4 ∧ w.cell? ⟨b, 5, none⟩ = some v5) ∧
    (w.frozen? ⟨b, 0, none⟩ = false ∧ w.frozen? ⟨b, 1, none⟩ = false ∧ w.frozen? ⟨b, 2, none⟩ = false ∧ w.frozen? ⟨b, 3, none⟩ = false ∧ w.frozen? ⟨b, 4, none⟩ = false ∧ w.frozen? ⟨b, 5, none⟩ = false) ∧ b < w.heap.size := by
  refine ⟨⟨?_, ?_, ?_, ?_, ?_, ?_⟩, ⟨?_, ?_, ?_, ?_, ?_, ?_⟩, (Array.getElem?_eq_some_iff.1 h).1⟩ <;> simp [World.cell?, World.frozen?, h]
theorem six_set0 {w : World} {b : Nat} {t : TypeId} {v0 v1 v2 v3 v4 v5 : Value} (h : w.heap[b]? = some (.cells #[v0, v1, v2, v3, v4, v5] t (0, 0))) (v : Value) : (w.setCell ⟨b, 0, none⟩ v).heap[b]? = some (.cells #[v, v1, v2, v3, v4, v5] t (0, 0)) := by
  unfold World.setCell; simp [Array.getElem?_modify, h]
theorem six_set1 {w : World} {b : Nat} {t : TypeId} {v0 v1 v2 v3 v4 v5 : Value} (h : w.heap[b]? = some (.cells #[v0, v1, v2, v3, v4, v5] t (0, 0))) (v : Value) : (w.setCell ⟨b, 1, none⟩ v).heap[b]? = some (.cells #[v0, v, v2, v3, v4, v5] t (0, 0)) := by
  unfold World.setCell; simp [Array.getElem?_modify, h]

theorem listT_outer (w : World) (rb : Nat) (r : R) (h : RdE w rb r) (hL : LookTab w) (hg : 0 ≠ rb) (hw : r.words.length ≤ 1000) :
    Calls Tryz.prog 50 #[.pointer (some ⟨rb, 0, none⟩), .string ⟨#[40]⟩, .string ⟨#[41]⟩, .func (.func 19) #[.pointer (some ⟨rb, 0, none⟩)] #[]] w (ListT w rb (listR [40] [41] outer r)) :=
  listT_any w rb r h hw [40] [41] outer outer_le LookTab hL (fun w w' hi ho => hi.only ho hg) (fun w' r' hi hr hwd => (outer_any w' rb r' hr hi hg hwd).mono (by
    rintro e w2 ⟨c, rfl, h2, o2, hv⟩
    exact ⟨(c, (outer r').1), rfl, h2, o2, rfl, hv⟩))

set_option maxRecDepth 100000 in
set_option maxHeartbeats 4000000 in
theorem function_any (w : World) (rb : Nat) (r : R) (h : RdE w rb r) (hL : LookTab w) (hg : 0 ≠ rb) (hw : r.words.length ≤ 1000) :
    Calls Tryz.prog 33 #[.pointer (some ⟨rb, 0, none⟩)] w (ElS w rb (sigR r)) := by
  have hrb := h.lt
  have hgl := hL.lt
  have hb0 : Below w.heap.size w ((w.alloc (.cells #[.string ⟨#[]⟩, .slice none 0 0, .int .i64 0, .string ⟨#[]⟩, .slice none 0 0, .slice none 0 0] 61)).alloc (.cells #[.string ⟨#[]⟩, .slice none 0 0, .int .i64 0, .string ⟨#[]⟩, .slice none 0 0, .slice none 0 0] 61)) := ((Below.refl _ _).alloc (Nat.le_refl _) _).alloc (by simp) _
  obtain ⟨r0, r1⟩ := two_new w (.cells #[.string ⟨#[]⟩, .slice none 0 0, .int .i64 0, .string ⟨#[]⟩, .slice none 0 0, .slice none 0 0] 61) (.cells #[.string ⟨#[]⟩, .slice none 0 0, .int .i64 0, .string ⟨#[]⟩, .slice none 0 0, .slice none 0 0] 61)
  have CN : Calls Tryz.prog 30 #[.pointer (some ⟨rb, 0, none⟩), .int .i64 1, .string ⟨#[102, 110]⟩] _ _ := need_any _ rb r (h.keep hb0) 1 [102, 110]
  have hl1 := need_le r 1 [102, 110]
  have hf : sigR r = ((((r.need 1 [102, 110]).name).1, ⟨(listR [40] [41] outer (r.need 1 [102, 110]).name.2).1, (outer ((listR [40] [41] outer (r.need 1 [102, 110]).name.2).2.need 4 [45, 62])).1⟩), (outer ((listR [40] [41] outer (r.need 1 [102, 110]).name.2).2.need 4 [45, 62])).2) := rfl
  have HN := Lib.hid CN; have HL := Lib.hid (hL.below hb0); have HO := Lib.hid (Only.of_below hb0 : Only rb w _); have R0 := Lib.hid r0; have R1 := Lib.hid r1; have HF := Lib.hid hf
  clear CN hb0 r0 r1 hf h hL
  generalize r.need 1 [102, 110] = ra at *
  have hl2 := name_le ra
  obtain ⟨nm, rb1, hna⟩ : ∃ nm r', ra.name = (nm, r') := ⟨_, _, rfl⟩
  rw [hna] at hl2
  have hl3 := listR_le [40] [41] outer outer_le rb1
  have HNA := Lib.hid hna; clear hna
  obtain ⟨ps, rc, hli⟩ : ∃ ps r', listR [40] [41] outer rb1 = (ps, r') := ⟨_, _, rfl⟩
  rw [hli] at hl3
  have HLI := Lib.hid hli; clear hli
  have hl4 := need_le rc 4 [45, 62]
  simp only at hl2 hl3
  go_enter Tryz.func33, Tryz.ntmps33
  go_wp2_with (first
    | (go_at_call 30; (with_reducible refine HN.out.mono ?_); rintro e w1 ⟨rfl, h1, o1⟩; have O1 := Lib.hid (HO.out.trans o1); have B0 := Lib.hid (o1.blk R0.out (by omega)); have B1 := Lib.hid (o1.blk R1.out (by omega)); have L1 := Lib.hid (HL.out.only o1 hg); have N1 := Lib.hid (name_any w1 rb ra h1); rw [HNA.out] at N1; clear o1 h1)
    | (go_at_call 47; (refine N1.out.mono ?_); rintro e w2 ⟨rfl, h2, o2⟩; have O2 := Lib.hid (O1.out.trans o2); have C0 := Lib.hid (o2.blk B0.out (by omega)); have C1 := Lib.hid (o2.blk B1.out (by omega)); obtain ⟨⟨q0, q1, q2, q3, q4, q5⟩, ⟨z0, z1, z2, z3, z4, z5⟩, hlt⟩ := six_blk C1.out; have L2 := Lib.hid (L1.out.only o2 hg); have S2 := Lib.hid ((Only.refl (w.heap.size + 1) w2).setCell 0 (.string ⟨nm.toArray⟩)); have T2 := Lib.hid (listT_outer _ rb rb1 (h2.row S2.out (fun k e => by cases e; omega)) (L2.out.only S2.out (by omega)) hg (by omega)); rw [HLI.out] at T2; clear o2 h2)
    | (go_at_call 50; (refine T2.out.mono ?_); rintro e w3 ⟨v, l, rfl, hl, h3, m3, hln⟩; obtain ⟨ap, cp, rfl⟩ := own_slice m3.own; have O3 := Lib.hid ((O2.out.own S2.out (by omega)).trans m3.only); have D0 := Lib.hid (m3.only.blk (S2.out.blk C0.out (by omega)) (by omega)); have D1 := Lib.hid (m3.only.blk (six_set0 C1.out (.string ⟨nm.toArray⟩)) (by omega)); clear q0 q1 q2 q3 q4 q5 z0 z1 z2 z3 z4 z5; have hlt2 := hlt; clear hlt; obtain ⟨⟨q0, q1, q2, q3, q4, q5⟩, ⟨z0, z1, z2, z3, z4, z5⟩, hlt⟩ := six_blk D1.out; have L3 := Lib.hid ((L2.out.only S2.out (by omega)).only m3.only hg); have P3 := Lib.hid (par_of_list m3); have HLL := Lib.hid hl; have S3 := Lib.hid ((Only.refl (w.heap.size + 1) w3).setCell 1 (.slice ap l.length cp)); have N3 : Hid (Calls Tryz.prog 30 #[.pointer (some ⟨rb, 0, none⟩), .int .i64 4, .string ⟨#[45, 62]⟩] _ _) := need_any (w3.setCell ⟨w.heap.size + 1, 1, none⟩ (.slice ap l.length cp)) rb rc (h3.row S3.out (fun k e => by cases e; omega)) 4 [45, 62]; clear h3 m3 hl)
    | (go_at_call 30; (with_reducible refine N3.out.mono ?_); rintro e w4 ⟨rfl, h4, o4⟩; have O4 := Lib.hid ((O3.out.own S3.out (by omega)).trans o4); have E0 := Lib.hid (o4.blk (S3.out.blk D0.out (by omega)) (by omega)); have E1 := Lib.hid (o4.blk (six_set1 D1.out (.slice ap l.length cp)) (by omega)); have L4 := Lib.hid ((L3.out.only S3.out (by omega)).only o4 hg); have X4 := Lib.hid o4; have T4 := Lib.hid (outer_any w4 rb (rc.need 4 [45, 62]) h4 L4.out hg (by omega)); clear o4 h4)
    | (go_at_call 19; (refine T4.out.mono ?_); rintro e w5 ⟨c, rfl, h5, o5, hv⟩; obtain ⟨kd, nm2, an, ln, cn, ak, lk, ck⟩ := c; have O5 := Lib.hid (O4.out.trans o5); have H5 := Lib.hid h5; have HV := Lib.hid hv; have F0 := Lib.hid (o5.blk E0.out (by omega)); have F1 := Lib.hid (o5.blk E1.out (by omega)); have X5 := Lib.hid o5; clear q0 q1 q2 q3 q4 q5 z0 z1 z2 z3 z4 z5; obtain ⟨⟨q0, q1, q2, q3, q4, q5⟩, ⟨z0, z1, z2, z3, z4, z5⟩, hlt5⟩ := six_blk F1.out; obtain ⟨⟨p0, p1, p2, p3, p4, p5⟩, ⟨y0, y1, y2, y3, y4, y5⟩, hlt0⟩ := six_blk F0.out; clear o5 h5 hv; simp only [C4.val]))
  refine bodyPost_ret (v := .agg #[.string ⟨nm.toArray⟩, .slice ap l.length cp, .int .i64 kd, .string nm2, .slice an ln cn, .slice ak lk ck]) (by simp [results, Tryz.results33, go_sem, p0, p1, p2, p3, p4, p5, hlt0]) rfl ?_
  have o6 : Only (w.heap.size + 1) w5 ((((w5.setCell ⟨w.heap.size + 1, 2, none⟩ (.int .i64 kd)).setCell ⟨w.heap.size + 1, 3, none⟩ (.string nm2)).setCell ⟨w.heap.size + 1, 4, none⟩ (.slice an ln cn)).setCell ⟨w.heap.size + 1, 5, none⟩ (.slice ak lk ck)) := ((((Only.refl _ w5).setCell 2 _).setCell 3 _).setCell 4 _).setCell 5 _
  have o7 := (((((((Only.refl w.heap.size ((((w5.setCell ⟨w.heap.size + 1, 2, none⟩ (.int .i64 kd)).setCell ⟨w.heap.size + 1, 3, none⟩ (.string nm2)).setCell ⟨w.heap.size + 1, 4, none⟩ (.slice an ln cn)).setCell ⟨w.heap.size + 1, 5, none⟩ (.slice ak lk ck))).setCell 0 (.string ⟨nm.toArray⟩)).setCell 1 (.slice ap l.length cp)).setCell 2 (.int .i64 kd)).setCell 3 (.string nm2)).setCell 4 (.slice an ln cn)).setCell 5 (.slice ak lk ck))
  have s3 := S3.out.size; have s4 := X4.out.size; have s5 := X5.out.size; have s6 := o6.size; have s7 := o7.size
  have hps : l.map (·.2) = ps := HLL.out
  have p3 := P3.out
  rw [hps] at p3
  refine ⟨(nm, ⟨ap, l.length, cp, ⟨kd, nm2, an, ln, cn, ak, lk, ck⟩⟩, ⟨ps, (outer (rc.need 4 [45, 62])).1⟩), rfl, ?_, (O5.out.own o6 (by omega)).own o7 (Nat.le_refl _), ?_, ?_, ?_⟩
  · rw [HF.out, HNA.out]
    simp only
    rw [HLI.out]
    exact (H5.out.row o6 (fun k e => by cases e; omega)).row o7 (fun k e => by cases e; omega)
  · rw [HF.out, HNA.out]
    simp only
    rw [HLI.out]
  · refine p3.keep (Span.in (by simp; omega) (by omega)) fun g hg2 => ?_
    have h1 := hg2.1; have h2 := hg2.2
    simp at h1
    exact (o7.block g (by omega) (fun e => by cases e; omega)).trans ((o6.block g (by omega) (fun e => by cases e; omega)).trans ((X5.out.block g (by omega) (fun e => by cases e; omega)).trans ((X4.out.block g (by omega) (fun e => by cases e; omega)).trans (S3.out.block g h2 (fun e => by cases e; omega)))))
  · refine HV.out.keep (Span.in (by omega) (by omega)) fun g hg2 => ?_
    have h1 := hg2.1; have h2 := hg2.2
    exact (o7.block g (by omega) (fun e => by cases e; omega)).trans (o6.block g h2 (fun e => by cases e; omega))
end Sh
end Go.Proofs.YtnnnjonodnkccaaGreatDoor
