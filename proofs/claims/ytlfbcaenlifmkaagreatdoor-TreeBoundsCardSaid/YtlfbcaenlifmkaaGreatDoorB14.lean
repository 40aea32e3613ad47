/- An operand, over what reads brackets. Written by gen_qopr.py. -/
import Derived.Test.YtlfbcaenlifmkaaGreatDoorB13
namespace Go.Proofs.YtlfbcaenlifmkaaGreatDoor
open Go.RowKit
namespace Tr
open Sc Sh Sp
/-- What the reader leans on besides its words. -/
structure Env (w : World) (rb : Nat) : Prop where
  tab : VerbTab w
  lt : 1 < rb
theorem Env.only {w w' : World} {rb : Nat} (h : Env w rb) (ho : Only rb w w') : Env w' rb := ⟨h.tab.only ho (by have := h.lt; omega), h.lt⟩
theorem Env.below {w w' : World} {rb : Nat} (h : Env w rb) (ho : Below w.heap.size w w') : Env w' rb := ⟨h.tab.below ho, h.lt⟩
/-- What operand leaves. -/
def OpP (w : World) (rb br : Nat) (x : Op × R) (e : Ending) (w' : World) : Prop :=
  ∃ c : C7, e = .returned c.val ∧ RdE w' rb x.2 br ∧ Only rb w w' ∧ OpV w' (Span w.heap.size w'.heap.size) x.1 c
/-- What bracketed, pipe leave. -/
def PipP (w : World) (rb br : Nat) (x : List (List Op) × R) (e : Ending) (w' : World) : Prop :=
  ∃ a us c, e = .returned (.slice a x.1.length c) ∧ RdE w' rb x.2 br ∧ Only rb w w' ∧ PipeV w' (Span w.heap.size w'.heap.size) x.1 a us
theorem seven_blk {w : World} {b : Nat} {t : TypeId} {v0 v1 v2 v3 v4 v5 v6 : Value} (h : w.heap[b]? = some (.cells #[v0, v1, v2, v3, v4, v5, v6] t (0, 0))) :
    (w.cell? ⟨b, 0, none⟩ = some v0 ∧ w.cell? ⟨b, 1, none⟩ = some v1 ∧ w.cell? ⟨b, 2, none⟩ = some v2 ∧ w.cell? ⟨b, 3, none⟩ = some v3 ∧ w.cell? ⟨b, 4, none⟩ = some v4 ∧ w.cell? ⟨b, 5, none⟩ = some v5 ∧ w.cell? ⟨b, 6, none⟩ = some v6) ∧
    (w.frozen? ⟨b, 0, none⟩ = false ∧ w.frozen? ⟨b, 1, none⟩ = false ∧ w.frozen? ⟨b, 2, none⟩ = false ∧ w.frozen? ⟨b, 3, none⟩ = false ∧ w.frozen? ⟨b, 4, none⟩ = false ∧ w.frozen? ⟨b, 5, none⟩ = false ∧ w.frozen? ⟨b, 6, none⟩ = false) := by
  refine ⟨⟨?_, ?_, ?_, ?_, ?_, ?_, ?_⟩, ⟨?_, ?_, ?_, ?_, ?_, ?_, ?_⟩⟩ <;> simp [World.cell?, World.frozen?, h]
def z7 : Array Value := #[.int .i64 0, .string ⟨#[]⟩, .slice none 0 0, .string ⟨#[]⟩, .int .i64 0, .bool false, .slice none 0 0]
def put7 (w : World) (b : Nat) (c : C7) : World :=
  ((((((w.setCell ⟨b, 0, none⟩ (.int .i64 c.k)).setCell ⟨b, 1, none⟩ (.string c.v)).setCell ⟨b, 2, none⟩ (.slice c.pa c.pl c.pc)).setCell ⟨b, 3, none⟩ (.string c.s)).setCell ⟨b, 4, none⟩ (.int .i64 c.n)).setCell ⟨b, 5, none⟩ (.bool c.b)).setCell ⟨b, 6, none⟩ (.slice c.ca c.cl c.cc)
theorem put7_only (w : World) (b : Nat) (c : C7) : Only b w (put7 w b c) := (((((((Only.refl b w).setCell 0 _).setCell 1 _).setCell 2 _).setCell 3 _).setCell 4 _).setCell 5 _).setCell 6 _
theorem put7_at {w : World} {b : Nat} {ty : TypeId} {fr : Nat × Nat} (h : w.heap[b]? = some (.cells z7 ty fr)) (c : C7) :
    (put7 w b c).heap[b]? = some (.cells #[.int .i64 c.k, .string c.v, .slice c.pa c.pl c.pc, .string c.s, .int .i64 c.n, .bool c.b, .slice c.ca c.cl c.cc] ty fr) := by
  unfold z7 at h
  simp [put7, World.setCell, Array.getElem?_modify, h]
/-- A call that has laid its result's block, and the operand's. -/
structure LayO (w w1 : World) (rb b : Nat) (c : C7) : Prop where
  only : Only rb w w1
  res : w1.heap[w.heap.size]? = some (.cells z7 65 (0, 0))
  op : w1.heap[b]? = some (.cells c.cells.toArray 65 (0, 0))
  lt : w.heap.size < b
theorem LayO.start {w W0 w2 : World} {rb k : Nat} (h0 : W0 = w.alloc (.cells z7 65)) (hb : Below W0.heap.size W0 w2) : LayO w (w2.alloc (.cells (C7.zero k).cells.toArray 65)) rb w2.heap.size (C7.zero k) := by
  have hz : W0.heap.size = w.heap.size + 1 := by rw [h0]; simp
  have hs := hb.size
  have hr : W0.heap[w.heap.size]? = some (.cells z7 65 (0, 0)) := by rw [h0]; exact heap_alloc_new w _
  exact ⟨((h0 ▸ Only.alloc rb w _ : Only rb w W0).trans (Only.of_below hb)).trans (Only.alloc rb _ _), by rw [Below.heap_alloc _ _ _ (by omega), hb.block _ (by omega)]; exact hr, heap_alloc_new w2 _, by omega⟩
theorem LayO.keep {w w1 w2 : World} {rb b : Nat} {c : C7} (h : LayO w w1 rb b c) (ho : Only rb w1 w2) (hrb : rb < w.heap.size) : LayO w w2 rb b c :=
  ⟨h.only.trans ho, ho.blk h.res (by omega), ho.blk h.op (by have := h.lt; omega), h.lt⟩
/-- The operand's block is written. -/
theorem LayO.set {w w1 w2 : World} {rb b : Nat} {c c' : C7} (h : LayO w w1 rb b c) (ho : Only b w1 w2) (hb : w2.heap[b]? = some (.cells c'.cells.toArray 65 (0, 0))) : LayO w w2 rb b c' :=
  ⟨h.only.own ho (by have := h.lt; omega), ho.blk h.res (by have := h.lt; omega), hb, h.lt⟩
theorem LayO.fin {w w2 w5 : World} {rb br b : Nat} {c : C7} {r : R} {t : Op} (h : LayO w w2 rb b c) (hrb : rb < w.heap.size) (hR : RdE w2 rb r br) (hv : OpV w2 (Span (w.heap.size + 1) w2.heap.size) t c) (h5 : Only w.heap.size w2 w5) : OpP w rb br (t, r) (.returned c.val) w5 := by
  refine ⟨c, rfl, hR.row h5 (fun k e => by cases e; omega), h.only.own h5 (Nat.le_refl _), hv.keep (Span.in (by omega) h5.size) fun g hg => ?_⟩
  have h1 := hg.1; have h2 := hg.2
  exact h5.block g h2 (fun e => by cases e; omega)
set_option maxRecDepth 100000 in
set_option maxHeartbeats 4000000 in
theorem oper_int (brk : R → List (List Op) × R) (w : World) (rb : Nat) (r : R) (br : Nat) (h : RdE w rb r br) (hE : Env w rb) (h0 : 1 ≤ r.ws.length) (_hlen : r.ws.length ≤ 1000) (hk : begins (r.at_ 0) = 3) :
    Calls Tryz.prog 86 #[.pointer (some ⟨rb, 0, none⟩)] w (OpP w rb br (operandR brk r)) := by
  have hop : operandR brk r = (.mk 3 [] [] [] (r.at_ 0).n false [], r.step) := by unfold operandR; simp [hk]
  rw [hop]
  clear hop
  have hrb := h.lt
  obtain ⟨W0, hW0⟩ : ∃ W0, W0 = w.alloc (.cells z7 65) := ⟨_, rfl⟩
  have hb0 : Below w.heap.size w W0 := by rw [hW0]; exact (Below.refl _ _).alloc (Nat.le_refl _) _
  have CA := at0_any W0 rb r br (h.keep hb0)
  have CB := fun w' (hw : Below w.heap.size w w') => begins_any (r.at_ 0) w' (hE.tab.below hw)
  rw [hk] at CB
  have HW0 := Lib.hid hW0; have HB0 := Lib.hid hb0; have HH := Lib.hid h; have HE := Lib.hid hE
  clear hW0 hb0 h hE hk
  have CS := fun w' (hw : Below w.heap.size w w') => step_any w' rb r br h0 (HH.out.keep hw)
  unfold tokV z7 at *
  generalize r.step = r1 at *
  generalize r.at_ 0 = t at *
  have t1 := tok_f1 t
  have t2 := tok_f2 t
  have HS := Lib.hid CS; clear CS

  have HA := Lib.hid CA; have HCB := Lib.hid CB
  clear CA CB
  go_enter Tryz.func86, Tryz.ntmps86
  go_upto_region 1 with fail
  rw [← HW0.out]
  go_upto_region 2 with (first
    | (go_at_call 85; (refine HA.out.mono ?_); rintro e w1 ⟨rfl, b1⟩; have B1 := Lib.hid (HB0.out.trans (b1.mono HB0.out.size)); have C1 := Lib.hid b1; clear b1)
    | (go_at_call 84; (refine (HCB.out w1 B1.out).mono ?_); rintro e w2 ⟨rfl, b2⟩; have B2 := Lib.hid (B1.out.trans (b2.mono B1.out.size)); have C2 := Lib.hid (C1.out.trans (b2.mono C1.out.size)); clear b2))
  obtain ⟨W2, hW2⟩ : ∃ W2, W2 = w2.alloc (.cells #[.int .i64 3, .string ⟨#[]⟩, .slice none 0 0, .string ⟨#[]⟩, .int .i64 0, .bool false, .slice none 0 0] 65) := ⟨_, rfl⟩
  have hY2 : LayO w W2 rb w2.heap.size (C7.zero 3) := by rw [hW2]; exact LayO.start HW0.out C2.out
  have hb2 : Below w.heap.size w W2 := by rw [hW2]; exact B2.out.alloc B2.out.size _
  rw [← hW2]
  clear hW2
  generalize w2.heap.size = bb at *
  have hop2 : W2.heap[bb]? = some (.cells #[.int .i64 3, .string ⟨#[]⟩, .slice none 0 0, .string ⟨#[]⟩, .int .i64 0, .bool false, .slice none 0 0] 65 (0, 0)) := hY2.op
  obtain ⟨⟨q0, q1, q2, q3, q4, q5, q6⟩, -⟩ := seven_blk hop2
  have HY2 := Lib.hid hY2; have HB2 := Lib.hid hb2; have HO2 := Lib.hid hop2; have hbl2 := Nat.lt_of_lt_of_le (Nat.lt_succ_self _) (Array.getElem?_eq_some_iff.1 hop2).1
  have hbn : w.heap.size < bb := hY2.lt
  clear hY2 hb2 hop2
  go_upto_region 15 with (first
    | (go_at_call 89; (refine (HS.out W2 HB2.out).mono ?_); rintro e w3 ⟨rfl, h3, o3⟩; have Y3 := Lib.hid (HY2.out.keep o3 hrb); have H3 := Lib.hid h3; have hop3 := o3.blk HO2.out (by omega); obtain ⟨⟨x0, x1, x2, x3, x4, x5, x6⟩, ⟨g0, g1, g2, g3, g4, g5, g6⟩⟩ := seven_blk hop3; have hbl3 := (Array.getElem?_eq_some_iff.1 hop3).1; have HO3 := Lib.hid hop3; clear h3 o3 hop3))
  obtain ⟨W4, hW4⟩ : ∃ W4, W4 = (w3.setCell ⟨bb, 4, none⟩ (.int .i64 t.n)) := ⟨_, rfl⟩
  have hop4 : W4.heap[bb]? = some (.cells (⟨3, ⟨#[]⟩, none, 0, 0, ⟨#[]⟩, t.n, false, none, 0, 0⟩ : C7).cells.toArray 65 (0, 0)) := by rw [hW4]; simp [World.setCell, Array.getElem?_modify, HO3.out]; rfl
  have hY4 : LayO w W4 rb bb (⟨3, ⟨#[]⟩, none, 0, 0, ⟨#[]⟩, t.n, false, none, 0, 0⟩ : C7) := by rw [hW4] at hop4 ⊢; exact Y3.out.set ((Only.refl bb w3).setCell _ _) hop4
  have HR4 := Lib.hid (show RdE W4 rb r1 br from by rw [hW4]; exact H3.out.row ((Only.refl bb w3).setCell _ _) (fun k e => by cases e; omega))
  have HV4 := Lib.hid (OpV.plain (w := W4) (S := Span (w.heap.size + 1) W4.heap.size) 3 [] [] [] t.n false none 0 (.inl rfl))
  rw [← hW4]
  clear hW4 q0 q1 q2 q3 q4 q5 q6
  have HY4 := Lib.hid hY4
  obtain ⟨⟨y0, y1, y2, y3, y4, y5, y6⟩, -⟩ := seven_blk (show W4.heap[bb]? = some (.cells #[.int .i64 3, .string ⟨#[]⟩, .slice none 0 0, .string ⟨#[]⟩, .int .i64 t.n, .bool false, .slice none 0 0] 65 (0, 0)) from hop4)
  obtain ⟨⟨p0, p1, p2, p3, p4, p5, p6⟩, ⟨f0, f1, f2, f3, f4, f5, f6⟩⟩ := seven_blk (show W4.heap[w.heap.size]? = some (.cells #[.int .i64 0, .string ⟨#[]⟩, .slice none 0 0, .string ⟨#[]⟩, .int .i64 0, .bool false, .slice none 0 0] 65 (0, 0)) from hY4.res)
  clear hY4 hop4
  go_wp2
  exact bodyPost_ret (results_cell_row rfl _ _ w.heap.size 65 _ (0, 0) _ rfl (put7_at HY4.out.res (⟨3, ⟨#[]⟩, none, 0, 0, ⟨#[]⟩, t.n, false, none, 0, 0⟩ : C7)) Tryz.underlying65 rfl (by kernel_rfl)) rfl (HY4.out.fin hrb HR4.out HV4.out (put7_only W4 w.heap.size (⟨3, ⟨#[]⟩, none, 0, 0, ⟨#[]⟩, t.n, false, none, 0, 0⟩ : C7)))
set_option maxRecDepth 100000 in
set_option maxHeartbeats 4000000 in
theorem oper_bool (brk : R → List (List Op) × R) (w : World) (rb : Nat) (r : R) (br : Nat) (h : RdE w rb r br) (hE : Env w rb) (h0 : 1 ≤ r.ws.length) (_hlen : r.ws.length ≤ 1000) (hk : begins (r.at_ 0) = 4) :
    Calls Tryz.prog 86 #[.pointer (some ⟨rb, 0, none⟩)] w (OpP w rb br (operandR brk r)) := by
  have hop : operandR brk r = (.mk 4 [] [] [] 0 (decide ((r.at_ 0).text = [116, 114, 117, 101])) [], r.step) := by unfold operandR; simp [hk]
  rw [hop]
  clear hop
  have hrb := h.lt
  obtain ⟨W0, hW0⟩ : ∃ W0, W0 = w.alloc (.cells z7 65) := ⟨_, rfl⟩
  have hb0 : Below w.heap.size w W0 := by rw [hW0]; exact (Below.refl _ _).alloc (Nat.le_refl _) _
  have CA := at0_any W0 rb r br (h.keep hb0)
  have CB := fun w' (hw : Below w.heap.size w w') => begins_any (r.at_ 0) w' (hE.tab.below hw)
  rw [hk] at CB
  have HW0 := Lib.hid hW0; have HB0 := Lib.hid hb0; have HH := Lib.hid h; have HE := Lib.hid hE
  clear hW0 hb0 h hE hk
  have CS := fun w' (hw : Below w.heap.size w w') => step_any w' rb r br h0 (HH.out.keep hw)
  unfold tokV z7 at *
  generalize r.step = r1 at *
  generalize r.at_ 0 = t at *
  have t1 := tok_f1 t
  have t2 := tok_f2 t
  have HS := Lib.hid CS; clear CS

  have HA := Lib.hid CA; have HCB := Lib.hid CB
  clear CA CB
  go_enter Tryz.func86, Tryz.ntmps86
  go_upto_region 1 with fail
  rw [← HW0.out]
  go_upto_region 2 with (first
    | (go_at_call 85; (refine HA.out.mono ?_); rintro e w1 ⟨rfl, b1⟩; have B1 := Lib.hid (HB0.out.trans (b1.mono HB0.out.size)); have C1 := Lib.hid b1; clear b1)
    | (go_at_call 84; (refine (HCB.out w1 B1.out).mono ?_); rintro e w2 ⟨rfl, b2⟩; have B2 := Lib.hid (B1.out.trans (b2.mono B1.out.size)); have C2 := Lib.hid (C1.out.trans (b2.mono C1.out.size)); clear b2))
  obtain ⟨W2, hW2⟩ : ∃ W2, W2 = w2.alloc (.cells #[.int .i64 4, .string ⟨#[]⟩, .slice none 0 0, .string ⟨#[]⟩, .int .i64 0, .bool false, .slice none 0 0] 65) := ⟨_, rfl⟩
  have hY2 : LayO w W2 rb w2.heap.size (C7.zero 4) := by rw [hW2]; exact LayO.start HW0.out C2.out
  have hb2 : Below w.heap.size w W2 := by rw [hW2]; exact B2.out.alloc B2.out.size _
  rw [← hW2]
  clear hW2
  generalize w2.heap.size = bb at *
  have hop2 : W2.heap[bb]? = some (.cells #[.int .i64 4, .string ⟨#[]⟩, .slice none 0 0, .string ⟨#[]⟩, .int .i64 0, .bool false, .slice none 0 0] 65 (0, 0)) := hY2.op
  obtain ⟨⟨q0, q1, q2, q3, q4, q5, q6⟩, -⟩ := seven_blk hop2
  have HY2 := Lib.hid hY2; have HB2 := Lib.hid hb2; have HO2 := Lib.hid hop2; have hbl2 := Nat.lt_of_lt_of_le (Nat.lt_succ_self _) (Array.getElem?_eq_some_iff.1 hop2).1
  have hbn : w.heap.size < bb := hY2.lt
  clear hY2 hb2 hop2
  go_upto_region 15 with (first
    | (go_at_call 89; (refine (HS.out W2 HB2.out).mono ?_); rintro e w3 ⟨rfl, h3, o3⟩; have Y3 := Lib.hid (HY2.out.keep o3 hrb); have H3 := Lib.hid h3; have hop3 := o3.blk HO2.out (by omega); obtain ⟨⟨x0, x1, x2, x3, x4, x5, x6⟩, ⟨g0, g1, g2, g3, g4, g5, g6⟩⟩ := seven_blk hop3; have hbl3 := (Array.getElem?_eq_some_iff.1 hop3).1; have HO3 := Lib.hid hop3; clear h3 o3 hop3))
  obtain ⟨W4, hW4⟩ : ∃ W4, W4 = (w3.setCell ⟨bb, 5, none⟩ (.bool (t.text == [116, 114, 117, 101]))) := ⟨_, rfl⟩
  have hop4 : W4.heap[bb]? = some (.cells (⟨4, ⟨#[]⟩, none, 0, 0, ⟨#[]⟩, 0, (t.text == [116, 114, 117, 101]), none, 0, 0⟩ : C7).cells.toArray 65 (0, 0)) := by rw [hW4]; simp [World.setCell, Array.getElem?_modify, HO3.out]; rfl
  have hY4 : LayO w W4 rb bb (⟨4, ⟨#[]⟩, none, 0, 0, ⟨#[]⟩, 0, (t.text == [116, 114, 117, 101]), none, 0, 0⟩ : C7) := by rw [hW4] at hop4 ⊢; exact Y3.out.set ((Only.refl bb w3).setCell _ _) hop4
  have HR4 := Lib.hid (show RdE W4 rb r1 br from by rw [hW4]; exact H3.out.row ((Only.refl bb w3).setCell _ _) (fun k e => by cases e; omega))
  have HV4 := Lib.hid (show OpV W4 (Span (w.heap.size + 1) W4.heap.size) (.mk 4 [] [] [] 0 (decide (t.text = [116, 114, 117, 101])) []) (⟨4, ⟨#[]⟩, none, 0, 0, ⟨#[]⟩, 0, (t.text == [116, 114, 117, 101]), none, 0, 0⟩ : C7) from by rw [← beq_dec]; exact OpV.plain 4 [] [] [] 0 (t.text == [116, 114, 117, 101]) none 0 (.inl rfl))
  rw [← hW4]
  clear hW4 q0 q1 q2 q3 q4 q5 q6
  have HY4 := Lib.hid hY4
  obtain ⟨⟨y0, y1, y2, y3, y4, y5, y6⟩, -⟩ := seven_blk (show W4.heap[bb]? = some (.cells #[.int .i64 4, .string ⟨#[]⟩, .slice none 0 0, .string ⟨#[]⟩, .int .i64 0, .bool (t.text == [116, 114, 117, 101]), .slice none 0 0] 65 (0, 0)) from hop4)
  obtain ⟨⟨p0, p1, p2, p3, p4, p5, p6⟩, ⟨f0, f1, f2, f3, f4, f5, f6⟩⟩ := seven_blk (show W4.heap[w.heap.size]? = some (.cells #[.int .i64 0, .string ⟨#[]⟩, .slice none 0 0, .string ⟨#[]⟩, .int .i64 0, .bool false, .slice none 0 0] 65 (0, 0)) from hY4.res)
  clear hY4 hop4
  go_wp2
  exact bodyPost_ret (results_cell_row rfl _ _ w.heap.size 65 _ (0, 0) _ rfl (put7_at HY4.out.res (⟨4, ⟨#[]⟩, none, 0, 0, ⟨#[]⟩, 0, (t.text == [116, 114, 117, 101]), none, 0, 0⟩ : C7)) Tryz.underlying65 rfl (by kernel_rfl)) rfl (HY4.out.fin hrb HR4.out HV4.out (put7_only W4 w.heap.size (⟨4, ⟨#[]⟩, none, 0, 0, ⟨#[]⟩, 0, (t.text == [116, 114, 117, 101]), none, 0, 0⟩ : C7)))
set_option maxRecDepth 100000 in
set_option maxHeartbeats 4000000 in
theorem oper_text (brk : R → List (List Op) × R) (w : World) (rb : Nat) (r : R) (br : Nat) (h : RdE w rb r br) (hE : Env w rb) (h0 : 1 ≤ r.ws.length) (_hlen : r.ws.length ≤ 1000) (hk : begins (r.at_ 0) = 2) :
    Calls Tryz.prog 86 #[.pointer (some ⟨rb, 0, none⟩)] w (OpP w rb br (operandR brk r)) := by
  have hop : operandR brk r = (.mk 2 [] [] (r.at_ 0).text 0 false [], r.step) := by unfold operandR; simp [hk]
  rw [hop]
  clear hop
  have hrb := h.lt
  obtain ⟨W0, hW0⟩ : ∃ W0, W0 = w.alloc (.cells z7 65) := ⟨_, rfl⟩
  have hb0 : Below w.heap.size w W0 := by rw [hW0]; exact (Below.refl _ _).alloc (Nat.le_refl _) _
  have CA := at0_any W0 rb r br (h.keep hb0)
  have CB := fun w' (hw : Below w.heap.size w w') => begins_any (r.at_ 0) w' (hE.tab.below hw)
  rw [hk] at CB
  have HW0 := Lib.hid hW0; have HB0 := Lib.hid hb0; have HH := Lib.hid h; have HE := Lib.hid hE
  clear hW0 hb0 h hE hk
  have CS := fun w' (hw : Below w.heap.size w w') => step_any w' rb r br h0 (HH.out.keep hw)
  unfold tokV z7 at *
  generalize r.step = r1 at *
  generalize r.at_ 0 = t at *
  have t1 := tok_f1 t
  have t2 := tok_f2 t
  have HS := Lib.hid CS; clear CS

  have HA := Lib.hid CA; have HCB := Lib.hid CB
  clear CA CB
  go_enter Tryz.func86, Tryz.ntmps86
  go_upto_region 1 with fail
  rw [← HW0.out]
  go_upto_region 2 with (first
    | (go_at_call 85; (refine HA.out.mono ?_); rintro e w1 ⟨rfl, b1⟩; have B1 := Lib.hid (HB0.out.trans (b1.mono HB0.out.size)); have C1 := Lib.hid b1; clear b1)
    | (go_at_call 84; (refine (HCB.out w1 B1.out).mono ?_); rintro e w2 ⟨rfl, b2⟩; have B2 := Lib.hid (B1.out.trans (b2.mono B1.out.size)); have C2 := Lib.hid (C1.out.trans (b2.mono C1.out.size)); clear b2))
  obtain ⟨W2, hW2⟩ : ∃ W2, W2 = w2.alloc (.cells #[.int .i64 2, .string ⟨#[]⟩, .slice none 0 0, .string ⟨#[]⟩, .int .i64 0, .bool false, .slice none 0 0] 65) := ⟨_, rfl⟩
  have hY2 : LayO w W2 rb w2.heap.size (C7.zero 2) := by rw [hW2]; exact LayO.start HW0.out C2.out
  have hb2 : Below w.heap.size w W2 := by rw [hW2]; exact B2.out.alloc B2.out.size _
  rw [← hW2]
  clear hW2
  generalize w2.heap.size = bb at *
  have hop2 : W2.heap[bb]? = some (.cells #[.int .i64 2, .string ⟨#[]⟩, .slice none 0 0, .string ⟨#[]⟩, .int .i64 0, .bool false, .slice none 0 0] 65 (0, 0)) := hY2.op
  obtain ⟨⟨q0, q1, q2, q3, q4, q5, q6⟩, -⟩ := seven_blk hop2
  have HY2 := Lib.hid hY2; have HB2 := Lib.hid hb2; have HO2 := Lib.hid hop2; have hbl2 := Nat.lt_of_lt_of_le (Nat.lt_succ_self _) (Array.getElem?_eq_some_iff.1 hop2).1
  have hbn : w.heap.size < bb := hY2.lt
  clear hY2 hb2 hop2
  go_upto_region 15 with (first
    | (go_at_call 89; (refine (HS.out W2 HB2.out).mono ?_); rintro e w3 ⟨rfl, h3, o3⟩; have Y3 := Lib.hid (HY2.out.keep o3 hrb); have H3 := Lib.hid h3; have hop3 := o3.blk HO2.out (by omega); obtain ⟨⟨x0, x1, x2, x3, x4, x5, x6⟩, ⟨g0, g1, g2, g3, g4, g5, g6⟩⟩ := seven_blk hop3; have hbl3 := (Array.getElem?_eq_some_iff.1 hop3).1; have HO3 := Lib.hid hop3; clear h3 o3 hop3))
  obtain ⟨W4, hW4⟩ : ∃ W4, W4 = (w3.setCell ⟨bb, 3, none⟩ (.string ⟨t.text.toArray⟩)) := ⟨_, rfl⟩
  have hop4 : W4.heap[bb]? = some (.cells (⟨2, ⟨#[]⟩, none, 0, 0, ⟨t.text.toArray⟩, 0, false, none, 0, 0⟩ : C7).cells.toArray 65 (0, 0)) := by rw [hW4]; simp [World.setCell, Array.getElem?_modify, HO3.out]; rfl
  have hY4 : LayO w W4 rb bb (⟨2, ⟨#[]⟩, none, 0, 0, ⟨t.text.toArray⟩, 0, false, none, 0, 0⟩ : C7) := by rw [hW4] at hop4 ⊢; exact Y3.out.set ((Only.refl bb w3).setCell _ _) hop4
  have HR4 := Lib.hid (show RdE W4 rb r1 br from by rw [hW4]; exact H3.out.row ((Only.refl bb w3).setCell _ _) (fun k e => by cases e; omega))
  have HV4 := Lib.hid (OpV.plain (w := W4) (S := Span (w.heap.size + 1) W4.heap.size) 2 [] [] t.text 0 false none 0 (.inl rfl))
  rw [← hW4]
  clear hW4 q0 q1 q2 q3 q4 q5 q6
  have HY4 := Lib.hid hY4
  obtain ⟨⟨y0, y1, y2, y3, y4, y5, y6⟩, -⟩ := seven_blk (show W4.heap[bb]? = some (.cells #[.int .i64 2, .string ⟨#[]⟩, .slice none 0 0, .string ⟨t.text.toArray⟩, .int .i64 0, .bool false, .slice none 0 0] 65 (0, 0)) from hop4)
  obtain ⟨⟨p0, p1, p2, p3, p4, p5, p6⟩, ⟨f0, f1, f2, f3, f4, f5, f6⟩⟩ := seven_blk (show W4.heap[w.heap.size]? = some (.cells #[.int .i64 0, .string ⟨#[]⟩, .slice none 0 0, .string ⟨#[]⟩, .int .i64 0, .bool false, .slice none 0 0] 65 (0, 0)) from hY4.res)
  clear hY4 hop4
  go_wp2
  exact bodyPost_ret (results_cell_row rfl _ _ w.heap.size 65 _ (0, 0) _ rfl (put7_at HY4.out.res (⟨2, ⟨#[]⟩, none, 0, 0, ⟨t.text.toArray⟩, 0, false, none, 0, 0⟩ : C7)) Tryz.underlying65 rfl (by kernel_rfl)) rfl (HY4.out.fin hrb HR4.out HV4.out (put7_only W4 w.heap.size (⟨2, ⟨#[]⟩, none, 0, 0, ⟨t.text.toArray⟩, 0, false, none, 0, 0⟩ : C7)))
set_option maxRecDepth 100000 in
set_option maxHeartbeats 4000000 in
theorem oper_name (brk : R → List (List Op) × R) (w : World) (rb : Nat) (r : R) (br : Nat) (h : RdE w rb r br) (hE : Env w rb) (h0 : 1 ≤ r.ws.length) (_hlen : r.ws.length ≤ 1000) (hk : begins (r.at_ 0) = 6) :
    Calls Tryz.prog 86 #[.pointer (some ⟨rb, 0, none⟩)] w (OpP w rb br (operandR brk r)) := by
  have hop : operandR brk r = (.mk 6 [] [] (r.at_ 0).text 0 false [], r.step) := by unfold operandR; simp [hk]
  rw [hop]
  clear hop
  have hrb := h.lt
  obtain ⟨W0, hW0⟩ : ∃ W0, W0 = w.alloc (.cells z7 65) := ⟨_, rfl⟩
  have hb0 : Below w.heap.size w W0 := by rw [hW0]; exact (Below.refl _ _).alloc (Nat.le_refl _) _
  have CA := at0_any W0 rb r br (h.keep hb0)
  have CB := fun w' (hw : Below w.heap.size w w') => begins_any (r.at_ 0) w' (hE.tab.below hw)
  rw [hk] at CB
  have HW0 := Lib.hid hW0; have HB0 := Lib.hid hb0; have HH := Lib.hid h; have HE := Lib.hid hE
  clear hW0 hb0 h hE hk
  have CS := fun w' (hw : Below w.heap.size w w') => step_any w' rb r br h0 (HH.out.keep hw)
  unfold tokV z7 at *
  generalize r.step = r1 at *
  generalize r.at_ 0 = t at *
  have t1 := tok_f1 t
  have t2 := tok_f2 t
  have HS := Lib.hid CS; clear CS

  have HA := Lib.hid CA; have HCB := Lib.hid CB
  clear CA CB
  go_enter Tryz.func86, Tryz.ntmps86
  go_upto_region 1 with fail
  rw [← HW0.out]
  go_upto_region 2 with (first
    | (go_at_call 85; (refine HA.out.mono ?_); rintro e w1 ⟨rfl, b1⟩; have B1 := Lib.hid (HB0.out.trans (b1.mono HB0.out.size)); have C1 := Lib.hid b1; clear b1)
    | (go_at_call 84; (refine (HCB.out w1 B1.out).mono ?_); rintro e w2 ⟨rfl, b2⟩; have B2 := Lib.hid (B1.out.trans (b2.mono B1.out.size)); have C2 := Lib.hid (C1.out.trans (b2.mono C1.out.size)); clear b2))
  obtain ⟨W2, hW2⟩ : ∃ W2, W2 = w2.alloc (.cells #[.int .i64 6, .string ⟨#[]⟩, .slice none 0 0, .string ⟨#[]⟩, .int .i64 0, .bool false, .slice none 0 0] 65) := ⟨_, rfl⟩
  have hY2 : LayO w W2 rb w2.heap.size (C7.zero 6) := by rw [hW2]; exact LayO.start HW0.out C2.out
  have hb2 : Below w.heap.size w W2 := by rw [hW2]; exact B2.out.alloc B2.out.size _
  rw [← hW2]
  clear hW2
  generalize w2.heap.size = bb at *
  have hop2 : W2.heap[bb]? = some (.cells #[.int .i64 6, .string ⟨#[]⟩, .slice none 0 0, .string ⟨#[]⟩, .int .i64 0, .bool false, .slice none 0 0] 65 (0, 0)) := hY2.op
  obtain ⟨⟨q0, q1, q2, q3, q4, q5, q6⟩, -⟩ := seven_blk hop2
  have HY2 := Lib.hid hY2; have HB2 := Lib.hid hb2; have HO2 := Lib.hid hop2; have hbl2 := Nat.lt_of_lt_of_le (Nat.lt_succ_self _) (Array.getElem?_eq_some_iff.1 hop2).1
  have hbn : w.heap.size < bb := hY2.lt
  clear hY2 hb2 hop2
  go_upto_region 15 with (first
    | (go_at_call 89; (refine (HS.out W2 HB2.out).mono ?_); rintro e w3 ⟨rfl, h3, o3⟩; have Y3 := Lib.hid (HY2.out.keep o3 hrb); have H3 := Lib.hid h3; have hop3 := o3.blk HO2.out (by omega); obtain ⟨⟨x0, x1, x2, x3, x4, x5, x6⟩, ⟨g0, g1, g2, g3, g4, g5, g6⟩⟩ := seven_blk hop3; have hbl3 := (Array.getElem?_eq_some_iff.1 hop3).1; have HO3 := Lib.hid hop3; clear h3 o3 hop3))
  obtain ⟨W4, hW4⟩ : ∃ W4, W4 = (w3.setCell ⟨bb, 3, none⟩ (.string ⟨t.text.toArray⟩)) := ⟨_, rfl⟩
  have hop4 : W4.heap[bb]? = some (.cells (⟨6, ⟨#[]⟩, none, 0, 0, ⟨t.text.toArray⟩, 0, false, none, 0, 0⟩ : C7).cells.toArray 65 (0, 0)) := by rw [hW4]; simp [World.setCell, Array.getElem?_modify, HO3.out]; rfl
  have hY4 : LayO w W4 rb bb (⟨6, ⟨#[]⟩, none, 0, 0, ⟨t.text.toArray⟩, 0, false, none, 0, 0⟩ : C7) := by rw [hW4] at hop4 ⊢; exact Y3.out.set ((Only.refl bb w3).setCell _ _) hop4
  have HR4 := Lib.hid (show RdE W4 rb r1 br from by rw [hW4]; exact H3.out.row ((Only.refl bb w3).setCell _ _) (fun k e => by cases e; omega))
  have HV4 := Lib.hid (OpV.plain (w := W4) (S := Span (w.heap.size + 1) W4.heap.size) 6 [] [] t.text 0 false none 0 (.inl rfl))
  rw [← hW4]
  clear hW4 q0 q1 q2 q3 q4 q5 q6
  have HY4 := Lib.hid hY4
  obtain ⟨⟨y0, y1, y2, y3, y4, y5, y6⟩, -⟩ := seven_blk (show W4.heap[bb]? = some (.cells #[.int .i64 6, .string ⟨#[]⟩, .slice none 0 0, .string ⟨t.text.toArray⟩, .int .i64 0, .bool false, .slice none 0 0] 65 (0, 0)) from hop4)
  obtain ⟨⟨p0, p1, p2, p3, p4, p5, p6⟩, ⟨f0, f1, f2, f3, f4, f5, f6⟩⟩ := seven_blk (show W4.heap[w.heap.size]? = some (.cells #[.int .i64 0, .string ⟨#[]⟩, .slice none 0 0, .string ⟨#[]⟩, .int .i64 0, .bool false, .slice none 0 0] 65 (0, 0)) from hY4.res)
  clear hY4 hop4
  go_wp2
  exact bodyPost_ret (results_cell_row rfl _ _ w.heap.size 65 _ (0, 0) _ rfl (put7_at HY4.out.res (⟨6, ⟨#[]⟩, none, 0, 0, ⟨t.text.toArray⟩, 0, false, none, 0, 0⟩ : C7)) Tryz.underlying65 rfl (by kernel_rfl)) rfl (HY4.out.fin hrb HR4.out HV4.out (put7_only W4 w.heap.size (⟨6, ⟨#[]⟩, none, 0, 0, ⟨t.text.toArray⟩, 0, false, none, 0, 0⟩ : C7)))
set_option maxRecDepth 100000 in
set_option maxHeartbeats 4000000 in
theorem oper_path (brk : R → List (List Op) × R) (w : World) (rb : Nat) (r : R) (br : Nat) (h : RdE w rb r br) (hE : Env w rb) (h0 : 1 ≤ r.ws.length) (hlen : r.ws.length ≤ 1000) (hk : begins (r.at_ 0) = 1) :
    Calls Tryz.prog 86 #[.pointer (some ⟨rb, 0, none⟩)] w (OpP w rb br (operandR brk r)) := by
  have hop : operandR brk r = (.mk 1 (pathR r).1.1 (pathR r).1.2 [] 0 false [], (pathR r).2) := by unfold operandR; simp [hk]
  rw [hop]
  clear hop
  have hrb := h.lt
  obtain ⟨W0, hW0⟩ : ∃ W0, W0 = w.alloc (.cells z7 65) := ⟨_, rfl⟩
  have hb0 : Below w.heap.size w W0 := by rw [hW0]; exact (Below.refl _ _).alloc (Nat.le_refl _) _
  have CA := at0_any W0 rb r br (h.keep hb0)
  have CB := fun w' (hw : Below w.heap.size w w') => begins_any (r.at_ 0) w' (hE.tab.below hw)
  rw [hk] at CB
  have HW0 := Lib.hid hW0; have HB0 := Lib.hid hb0; have HH := Lib.hid h; have HE := Lib.hid hE
  clear hW0 hb0 h hE hk
  have CS := fun w' (hw : Below w.heap.size w w') => path_any w' rb r br (HH.out.keep hw) h0 hlen
  unfold tokV z7 at *
  generalize pathR r = x at *
  obtain ⟨⟨v, path⟩, r1⟩ := x
  have HS := Lib.hid CS; clear CS

  have HA := Lib.hid CA; have HCB := Lib.hid CB
  clear CA CB
  go_enter Tryz.func86, Tryz.ntmps86
  go_upto_region 1 with fail
  rw [← HW0.out]
  go_upto_region 2 with (first
    | (go_at_call 85; (refine HA.out.mono ?_); rintro e w1 ⟨rfl, b1⟩; have B1 := Lib.hid (HB0.out.trans (b1.mono HB0.out.size)); have C1 := Lib.hid b1; clear b1)
    | (go_at_call 84; (refine (HCB.out w1 B1.out).mono ?_); rintro e w2 ⟨rfl, b2⟩; have B2 := Lib.hid (B1.out.trans (b2.mono B1.out.size)); have C2 := Lib.hid (C1.out.trans (b2.mono C1.out.size)); clear b2))
  obtain ⟨W2, hW2⟩ : ∃ W2, W2 = w2.alloc (.cells #[.int .i64 1, .string ⟨#[]⟩, .slice none 0 0, .string ⟨#[]⟩, .int .i64 0, .bool false, .slice none 0 0] 65) := ⟨_, rfl⟩
  have hY2 : LayO w W2 rb w2.heap.size (C7.zero 1) := by rw [hW2]; exact LayO.start HW0.out C2.out
  have hb2 : Below w.heap.size w W2 := by rw [hW2]; exact B2.out.alloc B2.out.size _
  rw [← hW2]
  clear hW2
  generalize w2.heap.size = bb at *
  have hop2 : W2.heap[bb]? = some (.cells #[.int .i64 1, .string ⟨#[]⟩, .slice none 0 0, .string ⟨#[]⟩, .int .i64 0, .bool false, .slice none 0 0] 65 (0, 0)) := hY2.op
  obtain ⟨⟨q0, q1, q2, q3, q4, q5, q6⟩, -⟩ := seven_blk hop2
  have HY2 := Lib.hid hY2; have HB2 := Lib.hid hb2; have HO2 := Lib.hid hop2; have hbl2 := Nat.lt_of_lt_of_le (Nat.lt_succ_self _) (Array.getElem?_eq_some_iff.1 hop2).1
  have hbn : w.heap.size < bb := hY2.lt
  clear hY2 hb2 hop2
  go_upto_region 15 with (first
    | (go_at_call 131; (refine (HS.out W2 HB2.out).mono ?_); rintro e w3 ⟨pa, pc, rfl, h3, o3, hv⟩; unfold str; have HV3 := Lib.hid hv; have Y3 := Lib.hid (HY2.out.keep o3 hrb); have H3 := Lib.hid h3; have O3 := Lib.hid o3; have hop3 := o3.blk HO2.out (by omega); obtain ⟨⟨x0, x1, x2, x3, x4, x5, x6⟩, ⟨g0, g1, g2, g3, g4, g5, g6⟩⟩ := seven_blk hop3; have hbl3 := (Array.getElem?_eq_some_iff.1 hop3).1; have HO3 := Lib.hid hop3; clear h3 o3 hop3; clear hv))
  obtain ⟨W4, hW4⟩ : ∃ W4, W4 = ((w3.setCell ⟨bb, 1, none⟩ (.string ⟨v.toArray⟩)).setCell ⟨bb, 2, none⟩ (.slice pa path.length pc)) := ⟨_, rfl⟩
  have hop4 : W4.heap[bb]? = some (.cells (⟨1, ⟨v.toArray⟩, pa, path.length, pc, ⟨#[]⟩, 0, false, none, 0, 0⟩ : C7).cells.toArray 65 (0, 0)) := by rw [hW4]; simp [World.setCell, Array.getElem?_modify, HO3.out]; rfl
  have hY4 : LayO w W4 rb bb (⟨1, ⟨v.toArray⟩, pa, path.length, pc, ⟨#[]⟩, 0, false, none, 0, 0⟩ : C7) := by rw [hW4] at hop4 ⊢; exact Y3.out.set (((Only.refl bb w3).setCell _ _).setCell _ _) hop4
  have ho4 : Only bb w3 W4 := by rw [hW4]; exact ((Only.refl bb w3).setCell _ _).setCell _ _
  have HR4 := Lib.hid (show RdE W4 rb r1 br from H3.out.row ho4 (fun k e => by cases e; omega))
  have hs3 := O3.out.size
  have HV4 := Lib.hid (OpV.plain (w := W4) (S := Span (w.heap.size + 1) W4.heap.size) 1 v path [] 0 false pa pc (HV3.out.keep (Span.in (by omega) ho4.size) (fun g hg => ho4.block g hg.2 (fun e => by have h1 := hg.1; cases e; omega))))
  rw [← hW4]
  clear hW4 q0 q1 q2 q3 q4 q5 q6
  have HY4 := Lib.hid hY4
  obtain ⟨⟨y0, y1, y2, y3, y4, y5, y6⟩, -⟩ := seven_blk (show W4.heap[bb]? = some (.cells #[.int .i64 1, .string ⟨v.toArray⟩, .slice pa path.length pc, .string ⟨#[]⟩, .int .i64 0, .bool false, .slice none 0 0] 65 (0, 0)) from hop4)
  obtain ⟨⟨p0, p1, p2, p3, p4, p5, p6⟩, ⟨f0, f1, f2, f3, f4, f5, f6⟩⟩ := seven_blk (show W4.heap[w.heap.size]? = some (.cells #[.int .i64 0, .string ⟨#[]⟩, .slice none 0 0, .string ⟨#[]⟩, .int .i64 0, .bool false, .slice none 0 0] 65 (0, 0)) from hY4.res)
  clear hY4 hop4
  go_wp2
  exact bodyPost_ret (results_cell_row rfl _ _ w.heap.size 65 _ (0, 0) _ rfl (put7_at HY4.out.res (⟨1, ⟨v.toArray⟩, pa, path.length, pc, ⟨#[]⟩, 0, false, none, 0, 0⟩ : C7)) Tryz.underlying65 rfl (by kernel_rfl)) rfl (HY4.out.fin hrb HR4.out HV4.out (put7_only W4 w.heap.size (⟨1, ⟨v.toArray⟩, pa, path.length, pc, ⟨#[]⟩, 0, false, none, 0, 0⟩ : C7)))
set_option maxRecDepth 100000 in
set_option maxHeartbeats 4000000 in
theorem oper_brk (brk : R → List (List Op) × R) (w : World) (rb : Nat) (r : R) (br : Nat) (h : RdE w rb r br) (hE : Env w rb) (_h0 : 1 ≤ r.ws.length) (_hlen : r.ws.length ≤ 1000) (hk : begins (r.at_ 0) = 5) (hbrk : ∀ w', Below w.heap.size w w' → Calls Tryz.prog 132 #[.pointer (some ⟨rb, 0, none⟩)] w' (PipP w' rb br (brk r))) :
    Calls Tryz.prog 86 #[.pointer (some ⟨rb, 0, none⟩)] w (OpP w rb br (operandR brk r)) := by
  have hop : operandR brk r = (.mk 5 [] [] [] 0 false (brk r).1, (brk r).2) := by unfold operandR; simp [hk]
  rw [hop]
  clear hop
  have hrb := h.lt
  obtain ⟨W0, hW0⟩ : ∃ W0, W0 = w.alloc (.cells z7 65) := ⟨_, rfl⟩
  have hb0 : Below w.heap.size w W0 := by rw [hW0]; exact (Below.refl _ _).alloc (Nat.le_refl _) _
  have CA := at0_any W0 rb r br (h.keep hb0)
  have CB := fun w' (hw : Below w.heap.size w w') => begins_any (r.at_ 0) w' (hE.tab.below hw)
  rw [hk] at CB
  have HW0 := Lib.hid hW0; have HB0 := Lib.hid hb0; have HH := Lib.hid h; have HE := Lib.hid hE
  clear hW0 hb0 h hE hk
  have CS := hbrk
  unfold tokV z7 at *
  clear hbrk
  generalize brk r = x at *
  obtain ⟨pp, r1⟩ := x
  have HS := Lib.hid CS; clear CS

  have HA := Lib.hid CA; have HCB := Lib.hid CB
  clear CA CB
  go_enter Tryz.func86, Tryz.ntmps86
  go_upto_region 1 with fail
  rw [← HW0.out]
  go_upto_region 2 with (first
    | (go_at_call 85; (refine HA.out.mono ?_); rintro e w1 ⟨rfl, b1⟩; have B1 := Lib.hid (HB0.out.trans (b1.mono HB0.out.size)); have C1 := Lib.hid b1; clear b1)
    | (go_at_call 84; (refine (HCB.out w1 B1.out).mono ?_); rintro e w2 ⟨rfl, b2⟩; have B2 := Lib.hid (B1.out.trans (b2.mono B1.out.size)); have C2 := Lib.hid (C1.out.trans (b2.mono C1.out.size)); clear b2))
  obtain ⟨W2, hW2⟩ : ∃ W2, W2 = w2.alloc (.cells #[.int .i64 5, .string ⟨#[]⟩, .slice none 0 0, .string ⟨#[]⟩, .int .i64 0, .bool false, .slice none 0 0] 65) := ⟨_, rfl⟩
  have hY2 : LayO w W2 rb w2.heap.size (C7.zero 5) := by rw [hW2]; exact LayO.start HW0.out C2.out
  have hb2 : Below w.heap.size w W2 := by rw [hW2]; exact B2.out.alloc B2.out.size _
  rw [← hW2]
  clear hW2
  generalize w2.heap.size = bb at *
  have hop2 : W2.heap[bb]? = some (.cells #[.int .i64 5, .string ⟨#[]⟩, .slice none 0 0, .string ⟨#[]⟩, .int .i64 0, .bool false, .slice none 0 0] 65 (0, 0)) := hY2.op
  obtain ⟨⟨q0, q1, q2, q3, q4, q5, q6⟩, -⟩ := seven_blk hop2
  have HY2 := Lib.hid hY2; have HB2 := Lib.hid hb2; have HO2 := Lib.hid hop2; have hbl2 := Nat.lt_of_lt_of_le (Nat.lt_succ_self _) (Array.getElem?_eq_some_iff.1 hop2).1
  have hbn : w.heap.size < bb := hY2.lt
  clear hY2 hb2 hop2
  go_upto_region 15 with (first
    | (go_at_call 132; (refine (HS.out W2 HB2.out).mono ?_); rintro e w3 ⟨ca, us, cc, rfl, h3, o3, hv⟩; have HV3 := Lib.hid hv; have Y3 := Lib.hid (HY2.out.keep o3 hrb); have H3 := Lib.hid h3; have O3 := Lib.hid o3; have hop3 := o3.blk HO2.out (by omega); obtain ⟨⟨x0, x1, x2, x3, x4, x5, x6⟩, ⟨g0, g1, g2, g3, g4, g5, g6⟩⟩ := seven_blk hop3; have hbl3 := (Array.getElem?_eq_some_iff.1 hop3).1; have HO3 := Lib.hid hop3; clear h3 o3 hop3; clear hv))
  obtain ⟨W4, hW4⟩ : ∃ W4, W4 = (w3.setCell ⟨bb, 6, none⟩ (.slice ca pp.length cc)) := ⟨_, rfl⟩
  have hop4 : W4.heap[bb]? = some (.cells (⟨5, ⟨#[]⟩, none, 0, 0, ⟨#[]⟩, 0, false, ca, pp.length, cc⟩ : C7).cells.toArray 65 (0, 0)) := by rw [hW4]; simp [World.setCell, Array.getElem?_modify, HO3.out]; rfl
  have hY4 : LayO w W4 rb bb (⟨5, ⟨#[]⟩, none, 0, 0, ⟨#[]⟩, 0, false, ca, pp.length, cc⟩ : C7) := by rw [hW4] at hop4 ⊢; exact Y3.out.set ((Only.refl bb w3).setCell _ _) hop4
  have ho4 : Only bb w3 W4 := by rw [hW4]; exact (Only.refl bb w3).setCell _ _
  have HR4 := Lib.hid (show RdE W4 rb r1 br from H3.out.row ho4 (fun k e => by cases e; omega))
  have hs3 := O3.out.size
  have HV4 := Lib.hid (OpV.of_pipe (w := W4) (S := Span (w.heap.size + 1) W4.heap.size) 5 [] [] [] 0 false pp none 0 ca cc us (.inl rfl) (HV3.out.keep (Span.in (by omega) ho4.size) (fun g hg => ho4.block g hg.2 (fun e => by have h1 := hg.1; cases e; omega))))
  rw [← hW4]
  clear hW4 q0 q1 q2 q3 q4 q5 q6
  have HY4 := Lib.hid hY4
  obtain ⟨⟨y0, y1, y2, y3, y4, y5, y6⟩, -⟩ := seven_blk (show W4.heap[bb]? = some (.cells #[.int .i64 5, .string ⟨#[]⟩, .slice none 0 0, .string ⟨#[]⟩, .int .i64 0, .bool false, .slice ca pp.length cc] 65 (0, 0)) from hop4)
  obtain ⟨⟨p0, p1, p2, p3, p4, p5, p6⟩, ⟨f0, f1, f2, f3, f4, f5, f6⟩⟩ := seven_blk (show W4.heap[w.heap.size]? = some (.cells #[.int .i64 0, .string ⟨#[]⟩, .slice none 0 0, .string ⟨#[]⟩, .int .i64 0, .bool false, .slice none 0 0] 65 (0, 0)) from hY4.res)
  clear hY4 hop4
  go_wp2
  exact bodyPost_ret (results_cell_row rfl _ _ w.heap.size 65 _ (0, 0) _ rfl (put7_at HY4.out.res (⟨5, ⟨#[]⟩, none, 0, 0, ⟨#[]⟩, 0, false, ca, pp.length, cc⟩ : C7)) Tryz.underlying65 rfl (by kernel_rfl)) rfl (HY4.out.fin hrb HR4.out HV4.out (put7_only W4 w.heap.size (⟨5, ⟨#[]⟩, none, 0, 0, ⟨#[]⟩, 0, false, ca, pp.length, cc⟩ : C7)))
set_option maxRecDepth 100000 in
set_option maxHeartbeats 4000000 in
theorem oper_fail (brk : R → List (List Op) × R) (w : World) (rb : Nat) (r : R) (br : Nat) (h : RdE w rb r br) (hE : Env w rb) (_hlen : r.ws.length ≤ 1000) (hk : begins (r.at_ 0) = 0) :
    Calls Tryz.prog 86 #[.pointer (some ⟨rb, 0, none⟩)] w (OpP w rb br (operandR brk r)) := by
  have hop : operandR brk r = (.zero 0, r.fail 12) := by unfold operandR; simp [hk]
  rw [hop]
  clear hop
  have hrb := h.lt
  obtain ⟨W0, hW0⟩ : ∃ W0, W0 = w.alloc (.cells z7 65) := ⟨_, rfl⟩
  have hb0 : Below w.heap.size w W0 := by rw [hW0]; exact (Below.refl _ _).alloc (Nat.le_refl _) _
  have CA := at0_any W0 rb r br (h.keep hb0)
  have CB := fun w' (hw : Below w.heap.size w w') => begins_any (r.at_ 0) w' (hE.tab.below hw)
  rw [hk] at CB
  have HW0 := Lib.hid hW0; have HB0 := Lib.hid hb0; have HH := Lib.hid h; have HE := Lib.hid hE
  clear hW0 hb0 h hE hk
  have CS := fun w' (hw : Below w.heap.size w w') => fail_any w' rb r br (HH.out.keep hw) 12
  unfold tokV z7 at *
  generalize r.fail 12 = r1 at *
  have HS := Lib.hid CS; clear CS

  have HA := Lib.hid CA; have HCB := Lib.hid CB
  clear CA CB
  go_enter Tryz.func86, Tryz.ntmps86
  go_upto_region 1 with fail
  rw [← HW0.out]
  go_upto_region 2 with (first
    | (go_at_call 85; (refine HA.out.mono ?_); rintro e w1 ⟨rfl, b1⟩; have B1 := Lib.hid (HB0.out.trans (b1.mono HB0.out.size)); have C1 := Lib.hid b1; clear b1)
    | (go_at_call 84; (refine (HCB.out w1 B1.out).mono ?_); rintro e w2 ⟨rfl, b2⟩; have B2 := Lib.hid (B1.out.trans (b2.mono B1.out.size)); have C2 := Lib.hid (C1.out.trans (b2.mono C1.out.size)); clear b2))
  obtain ⟨W2, hW2⟩ : ∃ W2, W2 = w2.alloc (.cells #[.int .i64 0, .string ⟨#[]⟩, .slice none 0 0, .string ⟨#[]⟩, .int .i64 0, .bool false, .slice none 0 0] 65) := ⟨_, rfl⟩
  have hY2 : LayO w W2 rb w2.heap.size (C7.zero 0) := by rw [hW2]; exact LayO.start HW0.out C2.out
  have hb2 : Below w.heap.size w W2 := by rw [hW2]; exact B2.out.alloc B2.out.size _
  rw [← hW2]
  clear hW2
  generalize w2.heap.size = bb at *
  have hop2 : W2.heap[bb]? = some (.cells #[.int .i64 0, .string ⟨#[]⟩, .slice none 0 0, .string ⟨#[]⟩, .int .i64 0, .bool false, .slice none 0 0] 65 (0, 0)) := hY2.op
  obtain ⟨⟨q0, q1, q2, q3, q4, q5, q6⟩, -⟩ := seven_blk hop2
  have HY2 := Lib.hid hY2; have HB2 := Lib.hid hb2; have HO2 := Lib.hid hop2; have hbl2 := Nat.lt_of_lt_of_le (Nat.lt_succ_self _) (Array.getElem?_eq_some_iff.1 hop2).1
  have hbn : w.heap.size < bb := hY2.lt
  clear hY2 hb2 hop2
  go_upto_region 15 with (first
    | (go_at_call 53; (refine (HS.out W2 HB2.out).mono ?_); rintro e w3 ⟨rfl, h3, o3⟩; have Y3 := Lib.hid (HY2.out.keep o3 hrb); have H3 := Lib.hid h3; have O3 := Lib.hid o3; have hop3 := o3.blk HO2.out (by omega); obtain ⟨⟨x0, x1, x2, x3, x4, x5, x6⟩, ⟨g0, g1, g2, g3, g4, g5, g6⟩⟩ := seven_blk hop3; have hbl3 := (Array.getElem?_eq_some_iff.1 hop3).1; have HO3 := Lib.hid hop3; clear h3 o3 hop3))
  obtain ⟨W4, hW4⟩ : ∃ W4, W4 = w3 := ⟨_, rfl⟩
  have hop4 : W4.heap[bb]? = some (.cells (⟨0, ⟨#[]⟩, none, 0, 0, ⟨#[]⟩, 0, false, none, 0, 0⟩ : C7).cells.toArray 65 (0, 0)) := by rw [hW4]; exact HO3.out
  have hY4 : LayO w W4 rb bb (⟨0, ⟨#[]⟩, none, 0, 0, ⟨#[]⟩, 0, false, none, 0, 0⟩ : C7) := by rw [hW4]; exact Y3.out
  have HR4 := Lib.hid (show RdE W4 rb r1 br from by rw [hW4]; exact H3.out)
  have HV4 := Lib.hid (show OpV W4 (Span (w.heap.size + 1) W4.heap.size) (.zero 0) _ from OpV.plain 0 [] [] [] 0 false none 0 (.inl rfl))
  rw [← hW4]
  clear hW4 q0 q1 q2 q3 q4 q5 q6
  have HY4 := Lib.hid hY4
  obtain ⟨⟨y0, y1, y2, y3, y4, y5, y6⟩, -⟩ := seven_blk (show W4.heap[bb]? = some (.cells #[.int .i64 0, .string ⟨#[]⟩, .slice none 0 0, .string ⟨#[]⟩, .int .i64 0, .bool false, .slice none 0 0] 65 (0, 0)) from hop4)
  obtain ⟨⟨p0, p1, p2, p3, p4, p5, p6⟩, ⟨f0, f1, f2, f3, f4, f5, f6⟩⟩ := seven_blk (show W4.heap[w.heap.size]? = some (.cells #[.int .i64 0, .string ⟨#[]⟩, .slice none 0 0, .string ⟨#[]⟩, .int .i64 0, .bool false, .slice none 0 0] 65 (0, 0)) from hY4.res)
  clear hY4 hop4
  go_wp2
  exact bodyPost_ret (results_cell_row rfl _ _ w.heap.size 65 _ (0, 0) _ rfl (put7_at HY4.out.res (⟨0, ⟨#[]⟩, none, 0, 0, ⟨#[]⟩, 0, false, none, 0, 0⟩ : C7)) Tryz.underlying65 rfl (by kernel_rfl)) rfl (HY4.out.fin hrb HR4.out HV4.out (put7_only W4 w.heap.size (⟨0, ⟨#[]⟩, none, 0, 0, ⟨#[]⟩, 0, false, none, 0, 0⟩ : C7)))
theorem named_is (s : List UInt8) : named s = 0 ∨ named s = 4 ∨ named s = 6 := by unfold named; split; exact .inl rfl; split; exact .inr (.inl rfl); exact .inr (.inr rfl)
theorem signed_is (s : List UInt8) : signed s = 0 ∨ signed s = 1 ∨ signed s = 5 := by unfold signed; split; exact .inr (.inl rfl); split; exact .inr (.inr rfl); exact .inl rfl
theorem begins_is (t : T) : begins t = 0 ∨ begins t = 1 ∨ begins t = 2 ∨ begins t = 3 ∨ begins t = 4 ∨ begins t = 5 ∨ begins t = 6 := by
  have h1 := named_is t.text
  have h2 := signed_is t.text
  unfold begins
  split; omega
  split; omega
  split; omega
  split; omega
  omega
theorem begins_pos (r : R) (h : begins (r.at_ 0) ≠ 0) : 1 ≤ r.ws.length := by
  refine at_zero_pos r (fun h0 => h ?_)
  unfold begins
  rw [if_neg (by omega), if_neg (by omega), if_neg (by omega), if_neg (by omega)]
/-- An operand. -/
theorem oper_any (brk : R → List (List Op) × R) (w : World) (rb : Nat) (r : R) (br : Nat) (h : RdE w rb r br) (hE : Env w rb) (hlen : r.ws.length ≤ 1000)
    (hbrk : begins (r.at_ 0) = 5 → ∀ w', Below w.heap.size w w' → Calls Tryz.prog 132 #[.pointer (some ⟨rb, 0, none⟩)] w' (PipP w' rb br (brk r))) :
    Calls Tryz.prog 86 #[.pointer (some ⟨rb, 0, none⟩)] w (OpP w rb br (operandR brk r)) := by
  have hp := begins_pos r
  obtain hk | hk | hk | hk | hk | hk | hk := begins_is (r.at_ 0)
  · exact oper_fail brk w rb r br h hE hlen hk
  · exact oper_path brk w rb r br h hE (hp (by omega)) hlen hk
  · exact oper_text brk w rb r br h hE (hp (by omega)) hlen hk
  · exact oper_int brk w rb r br h hE (hp (by omega)) hlen hk
  · exact oper_bool brk w rb r br h hE (hp (by omega)) hlen hk
  · exact oper_brk brk w rb r br h hE (hp (by omega)) hlen hk (hbrk hk)
  · exact oper_name brk w rb r br h hE (hp (by omega)) hlen hk
end Tr
end Go.Proofs.YtlfbcaenlifmkaaGreatDoor
