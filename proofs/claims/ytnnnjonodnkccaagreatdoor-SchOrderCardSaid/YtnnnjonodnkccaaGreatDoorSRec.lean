/- One field of a record: the function that record hands to list. -/
import Derived.Test.YtnnnjonodnkccaaGreatDoorSListN
namespace Go.Proofs.YtnnnjonodnkccaaGreatDoor
open Go.RowKit
namespace Sh
open Sc

/-- What reading a type leaves. -/
def TyP (w : World) (rb : Nat) (x : Ty × R) (e : Ending) (w' : World) : Prop :=
  ∃ c : C4, e = .returned c.val ∧ RdE w' rb x.2 ∧ Only rb w w' ∧ TyV w' (Span w.heap.size w'.heap.size) x.1 c

/-- Five cells of a block. -/
theorem five_blk {w : World} {b : Nat} {t : TypeId} {v0 v1 v2 v3 v4 : Value} (h : w.heap[b]? = some (.cells #[v0, v1, v2, v3, v4] t (0, 0))) :
    (w.cell? ⟨b, 0, none⟩ = some v0 ∧ w.cell? ⟨b, 1, none⟩ = some v1 ∧ w.cell? ⟨b, 2, none⟩ = some v2 ∧ w.cell? ⟨b, 3, none⟩ = some v3 ∧ w.cell? ⟨b, 4, none⟩ = some v4) ∧
    (w.frozen? ⟨b, 0, none⟩ = false ∧ w.frozen? ⟨b, 1, none⟩ = false ∧ w.frozen? ⟨b, 2, none⟩ = false ∧ w.frozen? ⟨b, 3, none⟩ = false ∧ w.frozen? ⟨b, 4, none⟩ = false) ∧ b < w.heap.size := by
  refine ⟨⟨?_, ?_, ?_, ?_, ?_⟩, ⟨?_, ?_, ?_, ?_, ?_⟩, (Array.getElem?_eq_some_iff.1 h).1⟩ <;> simp [World.cell?, World.frozen?, h]

theorem one_blk {w : World} {b : Nat} {t : TypeId} {v : Value} (h : w.heap[b]? = some (.cells #[v] t (0, 0))) : w.cell? ⟨b, 0, none⟩ = some v := by simp [World.cell?, h]

/-- The end of a call whose result lies in a block of its own, b: the stores there turn nothing else. -/
theorem TyV.fin {w w4 w5 : World} {rb b a : Nat} {r : R} {t : Ty} {c : C4} (hO : Only rb w w4) (hR : RdE w4 rb r) (hv : TyV w4 (Span a w4.heap.size) t c) (ha : b < a) (hb : w.heap.size ≤ b) (hrb : rb < w.heap.size) (h5 : Only b w4 w5) :
    RdE w5 rb r ∧ Only rb w w5 ∧ TyV w5 (Span w.heap.size w5.heap.size) t c := by
  refine ⟨hR.row h5 (fun k e => by cases e; omega), ?_, ?_⟩
  · exact But.only (o := some b) (But.of_grown h5) hO (fun k e => by cases e; omega)
  · refine hv.keep (Span.in (by omega) h5.size) fun g hg => h5.block g hg.2 (fun e => ?_)
    cases e; have := hg.1; omega

set_option maxRecDepth 100000 in
set_option maxHeartbeats 2000000 in
theorem field_any (w : World) (rb br bd d : Nat) (r : R) (h : RdE w rb r) (hL : LookTab w) (hg : 0 ≠ rb) (hw : r.words.length ≤ 1000) (tr td : TypeId) (hbr : w.heap[br]? = some (.cells #[.pointer (some ⟨rb, 0, none⟩)] tr (0, 0))) (hbd : w.heap[bd]? = some (.cells #[.int .i64 d] td (0, 0))) (hne : br ≠ rb ∧ bd ≠ rb)
    (read : R → Ty × R) (hread : ∀ w' r', LookTab w' → RdE w' rb r' → r'.words.length ≤ 1000 → Calls Tryz.prog 29 #[.pointer (some ⟨rb, 0, none⟩), .int .i64 d] w' (TyP w' rb (read r'))) :
    Calls Tryz.prog 68 #[.pointer (some ⟨br, 0, none⟩), .pointer (some ⟨bd, 0, none⟩)] w (ElN w rb (fieldR read r)) := by
  have hrb := h.lt
  have w0b : (w.alloc (.cells #[.string ⟨#[]⟩, .int .i64 0, .string ⟨#[]⟩, .slice none 0 0, .slice none 0 0] 59)).heap[w.heap.size]? = some (.cells #[.string ⟨#[]⟩, .int .i64 0, .string ⟨#[]⟩, .slice none 0 0, .slice none 0 0] 59 (0, 0)) := heap_alloc_new w _
  have o0 : Only rb w (w.alloc (.cells #[.string ⟨#[]⟩, .int .i64 0, .string ⟨#[]⟩, .slice none 0 0, .slice none 0 0] 59)) := Only.alloc _ _ _
  have h0 := h.keep ((Below.refl _ _).alloc (Nat.le_refl _) (.cells #[.string ⟨#[]⟩, .int .i64 0, .string ⟨#[]⟩, .slice none 0 0, .slice none 0 0] 59))
  have CN := name_any _ rb r h0
  have c0 := one_blk (o0.blk hbr hne.1)
  have hnl := name_le r
  have hnl2 := need_le r.name.2 4 [58]
  have HR := Lib.hid hread; have HN := Lib.hid CN; have HO := Lib.hid o0; have HBR := Lib.hid hbr; have HBD := Lib.hid hbd; have HW := Lib.hid w0b; have HL := Lib.hid hL; have HNE := Lib.hid hne; have HG := Lib.hid hg
  clear hread CN o0 hbr hbd w0b hL hne h h0 hg
  have hf : fieldR read r = ((r.name.1, (read (r.name.2.need 4 [58])).1), (read (r.name.2.need 4 [58])).2) := rfl
  have HF := Lib.hid hf; clear hf
  generalize r.name = q at *
  obtain ⟨nm, r1⟩ := q
  go_enter Tryz.func68, Tryz.ntmps68
  go_wp2_with (first
    | (go_at_call 47; (refine HN.out.mono ?_); rintro e w1 ⟨rfl, h1, o1⟩; have O1 := Lib.hid (HO.out.trans o1); have c1 := one_blk (O1.out.blk HBR.out HNE.out.1); have B1 := Lib.hid (o1.blk HW.out (by omega)); have hs1 := o1.size; simp at hs1; have H1 := Lib.hid (need_any w1 rb r1 h1 4 [58]); clear o1 h1)
    | (go_at_call 30; (refine H1.out.mono ?_); rintro e w2 ⟨rfl, h2, o2⟩; have O2 := Lib.hid (O1.out.trans o2); have c2 := one_blk (O2.out.blk HBR.out HNE.out.1); have d2 := one_blk (O2.out.blk HBD.out HNE.out.2); have B2 := Lib.hid (o2.blk B1.out (by omega)); have hs2 := o2.size; have H2 := Lib.hid (HR.out w2 (r1.need 4 [58]) (HL.out.only O2.out HG.out) h2 (Nat.le_trans hnl2 (Nat.le_trans hnl hw))); clear o2 h2)
    | (go_at_call 29; (refine H2.out.mono ?_); rintro e w3 ⟨c, rfl, h3, o3, hv⟩; obtain ⟨kd, nm2, an, ln, cn, ak, lk, ck⟩ := c; simp only [C4.val]; obtain ⟨⟨q0, q1, q2, q3, q4⟩, ⟨z0, z1, z2, z3, z4⟩, hlt⟩ := five_blk (o3.blk B2.out (by omega)); have hs3 := o3.size; have O3 := Lib.hid (O2.out.trans o3); have H3 := Lib.hid h3; have HV := Lib.hid hv; clear o3 h3 hv))
  refine bodyPost_ret (v := .agg #[.string ⟨nm.toArray⟩, .int .i64 kd, .string nm2, .slice an ln cn, .slice ak lk ck]) (by simp [results, Tryz.results68, go_sem, q0, q1, q2, q3, q4, hlt]) rfl ?_
  have hfin := TyV.fin O3.out H3.out HV.out (by omega) (Nat.le_refl w.heap.size) hrb ((((((Only.refl w.heap.size w3).setCell 0 (.string ⟨nm.toArray⟩)).setCell 1 (.int .i64 kd)).setCell 2 (.string nm2)).setCell 3 (.slice an ln cn)).setCell 4 (.slice ak lk ck))
  rw [HF.out]
  exact ⟨(nm, ⟨kd, nm2, an, ln, cn, ak, lk, ck⟩, (read (r1.need 4 [58])).1), rfl, hfin.1, hfin.2.1, rfl, hfin.2.2⟩
end Sh
end Go.Proofs.YtnnnjonodnkccaaGreatDoor
