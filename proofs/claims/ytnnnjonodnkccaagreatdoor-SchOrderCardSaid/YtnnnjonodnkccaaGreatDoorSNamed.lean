/- named: a named type behind its first word. -/
import Derived.Test.YtnnnjonodnkccaaGreatDoorSWhole
import Derived.Test.YtnnnjonodnkccaaGreatDoorSRec
namespace Go.Proofs.YtnnnjonodnkccaaGreatDoor
open Go.RowKit
namespace Sh
open Sc

theorem five_set0 {w : World} {b : Nat} {t : TypeId} {v0 v1 v2 v3 v4 : Value} (h : w.heap[b]? = some (.cells #[v0, v1, v2, v3, v4] t (0, 0))) (v : Value) : (w.setCell ⟨b, 0, none⟩ v).heap[b]? = some (.cells #[v, v1, v2, v3, v4] t (0, 0)) := by
  unfold World.setCell; simp [Array.getElem?_modify, h]
/-- Two blocks of the call's own, as they are laid. -/
theorem two_new (w : World) (o1 o2 : Obj) : ((w.alloc o1).alloc o2).heap[w.heap.size]? = some o1 ∧ ((w.alloc o1).alloc o2).heap[w.heap.size + 1]? = some o2 := by
  refine ⟨?_, ?_⟩
  · rw [Below.heap_alloc _ _ _ (by simp)]; exact heap_alloc_new w o1
  · have := heap_alloc_new (w.alloc o1) o2
    rwa [show (w.alloc o1).heap.size = w.heap.size + 1 by simp] at this
theorem Only.own {rb b : Nat} {w w1 w2 : World} (h : Only rb w w1) (k : Only b w1 w2) (hb : w.heap.size ≤ b) : Only rb w w2 := But.only (o := some b) (But.of_grown k) h (fun i e => by cases e; exact hb)

set_option maxRecDepth 100000 in
set_option maxHeartbeats 2000000 in
theorem named_any (w : World) (rb : Nat) (r : R) (h : RdE w rb r) (hL : LookTab w) (hg : 0 ≠ rb) (hw : r.words.length ≤ 1000) :
    Calls Tryz.prog 32 #[.pointer (some ⟨rb, 0, none⟩)] w (ElN w rb (namedR r)) := by
  have hrb := h.lt
  have hgl := hL.lt
  have hb0 : Below w.heap.size w ((w.alloc (.cells #[.string ⟨#[]⟩, .int .i64 0, .string ⟨#[]⟩, .slice none 0 0, .slice none 0 0] 59)).alloc (.cells #[.string ⟨#[]⟩, .int .i64 0, .string ⟨#[]⟩, .slice none 0 0, .slice none 0 0] 59)) := ((Below.refl _ _).alloc (Nat.le_refl _) _).alloc (by simp) _
  obtain ⟨r0, r1⟩ := two_new w (.cells #[.string ⟨#[]⟩, .int .i64 0, .string ⟨#[]⟩, .slice none 0 0, .slice none 0 0] 59) (.cells #[.string ⟨#[]⟩, .int .i64 0, .string ⟨#[]⟩, .slice none 0 0, .slice none 0 0] 59)
  have CN := name_any _ rb r (h.keep hb0)
  have hnl := name_le r
  have hnl2 := need_le r.name.2 4 [61]
  have hf : namedR r = ((r.name.1, (outer (r.name.2.need 4 [61])).1), (outer (r.name.2.need 4 [61])).2) := rfl
  have HN := Lib.hid CN; have HL := Lib.hid (hL.below hb0); have HO := Lib.hid (Only.of_below hb0 : Only rb w _); have R0 := Lib.hid r0; have R1 := Lib.hid r1; have HF := Lib.hid hf
  clear CN hb0 r0 r1 hf h hL
  generalize r.name = q at *
  obtain ⟨nm, q1⟩ := q
  go_enter Tryz.func32, Tryz.ntmps32
  go_wp2_with (first
    | (go_at_call 47; (refine HN.out.mono ?_); rintro e w1 ⟨rfl, h1, o1⟩; have O1 := Lib.hid (HO.out.trans o1); have B0 := Lib.hid (o1.blk R0.out (by omega)); have B1 := Lib.hid (o1.blk R1.out (by omega)); obtain ⟨⟨q0, q1', q2, q3, q4⟩, ⟨z0, z1, z2, z3, z4⟩, hlt⟩ := five_blk B1.out; have L1 := Lib.hid (HL.out.only o1 hg); have N1 := Lib.hid (need_any _ rb q1 (h1.row ((Only.refl (w.heap.size + 1) w1).setCell 0 (.string ⟨nm.toArray⟩)) (fun k e => by cases e; omega)) 4 [61]); clear o1 h1)
    | (go_at_call 30; (refine N1.out.mono ?_); rintro e w2 ⟨rfl, h2, o2⟩; have O2 := Lib.hid (((O1.out.own ((Only.refl (w.heap.size + 1) w1).setCell 0 (.string ⟨nm.toArray⟩)) (by omega))).trans o2); have C0 := Lib.hid (o2.blk (((Only.refl (w.heap.size + 1) w1).setCell 0 (.string ⟨nm.toArray⟩)).blk B0.out (by omega)) (by omega)); have C1 := Lib.hid (o2.blk (five_set0 B1.out (.string ⟨nm.toArray⟩)) (by omega)); have T2 := Lib.hid (outer_any w2 rb (q1.need 4 [61]) h2 ((L1.out.only ((Only.refl (w.heap.size + 1) w1).setCell 0 (.string ⟨nm.toArray⟩)) (by omega)).only o2 hg) hg (Nat.le_trans hnl2 (Nat.le_trans hnl hw))); have hs2 := (Array.getElem?_eq_some_iff.1 C1.out).1; clear o2 h2)
    | (go_at_call 19; (refine T2.out.mono ?_); rintro e w3 ⟨c, rfl, h3, o3, hv⟩; obtain ⟨kd, nm2, an, ln, cn, ak, lk, ck⟩ := c; have O3 := Lib.hid (O2.out.trans o3); have H3 := Lib.hid h3; have HV := Lib.hid hv; have D0 := Lib.hid (o3.blk C0.out (by omega)); have D1 := Lib.hid (o3.blk C1.out (by omega)); clear q0 q1' q2 q3 q4 z0 z1 z2 z3 z4 hlt; obtain ⟨⟨q0, q1', q2, q3, q4⟩, ⟨z0, z1, z2, z3, z4⟩, hlt⟩ := five_blk D1.out; obtain ⟨⟨p0, p1, p2, p3, p4⟩, ⟨y0, y1, y2, y3, y4⟩, hlt0⟩ := five_blk D0.out; clear o3 h3 hv; simp only [C4.val]))
  refine bodyPost_ret (v := .agg #[.string ⟨nm.toArray⟩, .int .i64 kd, .string nm2, .slice an ln cn, .slice ak lk ck]) (by simp [results, Tryz.results32, go_sem, p0, p1, p2, p3, p4, hlt0]) rfl ?_
  have o4 : Only (w.heap.size + 1) w3 ((((w3.setCell ⟨w.heap.size + 1, 1, none⟩ (.int .i64 kd)).setCell ⟨w.heap.size + 1, 2, none⟩ (.string nm2)).setCell ⟨w.heap.size + 1, 3, none⟩ (.slice an ln cn)).setCell ⟨w.heap.size + 1, 4, none⟩ (.slice ak lk ck)) := ((((Only.refl _ w3).setCell 1 _).setCell 2 _).setCell 3 _).setCell 4 _
  have o5 := ((((((Only.refl w.heap.size ((((w3.setCell ⟨w.heap.size + 1, 1, none⟩ (.int .i64 kd)).setCell ⟨w.heap.size + 1, 2, none⟩ (.string nm2)).setCell ⟨w.heap.size + 1, 3, none⟩ (.slice an ln cn)).setCell ⟨w.heap.size + 1, 4, none⟩ (.slice ak lk ck))).setCell 0 (.string ⟨nm.toArray⟩)).setCell 1 (.int .i64 kd)).setCell 2 (.string nm2)).setCell 3 (.slice an ln cn)).setCell 4 (.slice ak lk ck))
  rw [HF.out]
  refine ⟨(nm, ⟨kd, nm2, an, ln, cn, ak, lk, ck⟩, (outer (q1.need 4 [61])).1), rfl, (H3.out.row o4 (fun k e => by cases e; omega)).row o5 (fun k e => by cases e; omega), (O3.out.own o4 (by omega)).own o5 (Nat.le_refl _), rfl, ?_⟩
  refine HV.out.keep (Span.in (by omega) (Nat.le_trans o4.size o5.size)) fun g hg2 => ?_
  have h1 := hg2.1; have h2 := hg2.2
  exact (o5.block g (Nat.lt_of_lt_of_le h2 o4.size) (fun e => by cases e; omega)).trans (o4.block g h2 (fun e => by cases e; omega))
end Sh
end Go.Proofs.YtnnnjonodnkccaaGreatDoor
