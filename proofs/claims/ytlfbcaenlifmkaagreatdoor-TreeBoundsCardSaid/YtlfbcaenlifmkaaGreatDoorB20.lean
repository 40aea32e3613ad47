/- An action, without what stands behind it. Written by gen_qact.py. -/
import Derived.Test.YtlfbcaenlifmkaaGreatDoorB18
import Derived.Test.YtlfbcaenlifmkaaGreatDoorB19
namespace Go.Proofs.YtlfbcaenlifmkaaGreatDoor
open Go.RowKit
namespace Tr
open Sc Sh Sp
def z9 : Array Value := #[.int .i64 0, .int .i64 0, .string ⟨#[]⟩, .string ⟨#[]⟩, .slice none 0 0, .slice none 0 0, .slice none 0 0, .bool false, .slice none 0 0]
theorem nine_blk {w : World} {b : Nat} {t : TypeId} {v0 v1 v2 v3 v4 v5 v6 v7 v8 : Value} (h : w.heap[b]? = some (.cells #[v0, v1, v2, v3, v4, v5, v6, v7, v8] t (0, 0))) :
    (w.cell? ⟨b, 0, none⟩ = some v0 ∧ w.cell? ⟨b, 1, none⟩ = some v1 ∧ w.cell? ⟨b, 2, none⟩ = some v2 ∧ w.cell? ⟨b, 3, none⟩ = some v3 ∧ w.cell? ⟨b, 4, none⟩ = some v4 ∧ w.cell? ⟨b, 5, none⟩ = some v5 ∧ w.cell? ⟨b, 6, none⟩ = some v6 ∧ w.cell? ⟨b, 7, none⟩ = some v7 ∧ w.cell? ⟨b, 8, none⟩ = some v8) ∧
    (w.frozen? ⟨b, 0, none⟩ = false ∧ w.frozen? ⟨b, 1, none⟩ = false ∧ w.frozen? ⟨b, 2, none⟩ = false ∧ w.frozen? ⟨b, 3, none⟩ = false ∧ w.frozen? ⟨b, 4, none⟩ = false ∧ w.frozen? ⟨b, 5, none⟩ = false ∧ w.frozen? ⟨b, 6, none⟩ = false ∧ w.frozen? ⟨b, 7, none⟩ = false ∧ w.frozen? ⟨b, 8, none⟩ = false) := by
  refine ⟨⟨?_, ?_, ?_, ?_, ?_, ?_, ?_, ?_, ?_⟩, ⟨?_, ?_, ?_, ?_, ?_, ?_, ?_, ?_, ?_⟩⟩ <;> simp [World.cell?, World.frozen?, h]
def put9 (w : World) (b : Nat) (c : C9) : World :=
  ((((((((w.setCell ⟨b, 0, none⟩ (.int .i64 c.k)).setCell ⟨b, 1, none⟩ (.int .i64 c.at_)).setCell ⟨b, 2, none⟩ (.string c.s)).setCell ⟨b, 3, none⟩ (.string c.name)).setCell ⟨b, 4, none⟩ (.slice c.pa c.pl c.pc)).setCell ⟨b, 5, none⟩ (.slice c.ba c.bl c.bc)).setCell ⟨b, 6, none⟩ (.slice c.ea c.el c.ec)).setCell ⟨b, 7, none⟩ (.bool c.h)).setCell ⟨b, 8, none⟩ (.slice c.ca c.cl c.cc)
theorem put9_only (w : World) (b : Nat) (c : C9) : Only b w (put9 w b c) := (((((((((Only.refl b w).setCell 0 _).setCell 1 _).setCell 2 _).setCell 3 _).setCell 4 _).setCell 5 _).setCell 6 _).setCell 7 _).setCell 8 _
theorem put9_at {w : World} {b : Nat} {ty : TypeId} {fr : Nat × Nat} {v0 v1 v2 v3 v4 v5 v6 v7 v8 : Value} (h : w.heap[b]? = some (.cells #[v0, v1, v2, v3, v4, v5, v6, v7, v8] ty fr)) (c : C9) :
    (put9 w b c).heap[b]? = some (.cells #[.int .i64 c.k, .int .i64 c.at_, .string c.s, .string c.name, .slice c.pa c.pl c.pc, .slice c.ba c.bl c.bc, .slice c.ea c.el c.ec, .bool c.h, .slice c.ca c.cl c.cc] ty fr) := by
  simp [put9, World.setCell, Array.getElem?_modify, h]
/-- An action in memory. -/
def ActV (w : World) (S : Nat → Prop) (a : Act) (c : C9) : Prop := ∃ pa pc us, c = ⟨a.kind, 0, ⟨#[]⟩, ⟨a.name.toArray⟩, pa, a.pipe.length, pc, none, 0, 0, none, 0, 0, false, none, 0, 0⟩ ∧ PipeV w S a.pipe pa us
theorem ActV.keep {w w' : World} {S S' : Nat → Prop} {a : Act} {c : C9} (h : ActV w S a c) (hS : ∀ g, S g → S' g) (hk : ∀ g, S g → w'.heap[g]? = w.heap[g]?) : ActV w' S' a c := by
  obtain ⟨pa, pc, us, h1, h2⟩ := h; exact ⟨pa, pc, us, h1, h2.keep hS hk⟩
theorem PipeV.none {w : World} {S : Nat → Prop} : PipeV w S [] .none [] := ⟨rfl, .inl rfl, fun _i h => absurd h (Nat.not_lt_zero _)⟩
/-- What action leaves. -/
def ActP (w : World) (rb br : Nat) (x : Act × R) (e : Ending) (w' : World) : Prop :=
  ∃ c : C9, e = .returned c.val ∧ RdE w' rb x.2 br ∧ Only rb w w' ∧ ActV w' (Span w.heap.size w'.heap.size) x.1 c
/-- A call that has laid its result's block, and the node's. -/
structure LayN (w w1 : World) (rb b : Nat) (c : C9) : Prop where
  only : Only rb w w1
  res : w1.heap[w.heap.size]? = some (.cells z9 56 (0, 0))
  op : w1.heap[b]? = some (.cells c.cells.toArray 56 (0, 0))
  lt : w.heap.size < b
theorem LayN.start {w W0 w2 : World} {rb : Nat} {c : C9} (h0 : W0 = w.alloc (.cells z9 56)) (ho : Only rb W0 w2) (hrb : rb < w.heap.size) : LayN w (w2.alloc (.cells c.cells.toArray 56)) rb w2.heap.size c := by
  have hz : W0.heap.size = w.heap.size + 1 := by rw [h0]; simp
  have hs := ho.size
  have hr : W0.heap[w.heap.size]? = some (.cells z9 56 (0, 0)) := by rw [h0]; exact heap_alloc_new w _
  exact ⟨((h0 ▸ Only.alloc rb w _ : Only rb w W0).trans ho).trans (Only.alloc rb _ _), by rw [Below.heap_alloc _ _ _ (by omega)]; exact ho.blk hr (by omega), heap_alloc_new w2 _, by omega⟩
theorem LayN.keep {w w1 w2 : World} {rb b : Nat} {c : C9} (h : LayN w w1 rb b c) (ho : Only rb w1 w2) (hrb : rb < w.heap.size) : LayN w w2 rb b c :=
  ⟨h.only.trans ho, ho.blk h.res (by omega), ho.blk h.op (by have := h.lt; omega), h.lt⟩
theorem LayN.set {w w1 w2 : World} {rb b : Nat} {c c' : C9} (h : LayN w w1 rb b c) (ho : Only b w1 w2) (hb : w2.heap[b]? = some (.cells c'.cells.toArray 56 (0, 0))) : LayN w w2 rb b c' :=
  ⟨h.only.own ho (by have := h.lt; omega), ho.blk h.res (by have := h.lt; omega), hb, h.lt⟩
theorem LayN.fin {w w2 w5 : World} {rb br b : Nat} {c : C9} {r : R} {t : Act} (h : LayN w w2 rb b c) (hrb : rb < w.heap.size) (hR : RdE w2 rb r br) (hv : ActV w2 (Span (w.heap.size + 1) w2.heap.size) t c) (h5 : Only w.heap.size w2 w5) : ActP w rb br (t, r) (.returned c.val) w5 := by
  refine ⟨c, rfl, hR.row h5 (fun k e => by cases e; omega), h.only.own h5 (Nat.le_refl _), hv.keep (Span.in (by omega) h5.size) fun g hg => ?_⟩
  have h1 := hg.1; have h2 := hg.2
  exact h5.block g h2 (fun e => by cases e; omega)
set_option maxRecDepth 100000 in
set_option maxHeartbeats 4000000 in
theorem act_else (w : World) (rb : Nat) (r : R) (h : RdE w rb r 0) (hE : Env w rb) (_hlen : r.ws.length ≤ 1000) (hk : (kindR r).1 = -1) (hl1 : (kindR r).2.ws.length ≤ r.ws.length) :
    Calls Tryz.prog 107 #[.pointer (some ⟨rb, 0, none⟩)] w (ActP w rb 0 (actionR r)) := by
  have hrb := h.lt
  obtain ⟨W0, hW0⟩ : ∃ W0, W0 = w.alloc (.cells z9 56) := ⟨_, rfl⟩
  have hb0 : Below w.heap.size w W0 := by rw [hW0]; exact (Below.refl _ _).alloc (Nat.le_refl _) _
  have CK := kind_any W0 rb r 0 (h.keep hb0) (hE.below hb0)
  have hE0 := hE.below hb0
  generalize hkr : kindR r = kr at *
  obtain ⟨k, r1⟩ := kr
  simp only at hk hl1 
  subst hk
  have hact : actionR r = actGo (-1) r1 := by unfold actionR; rw [hkr]
  rw [hact, show actGo (-1) r1 = (⟨-1, [], []⟩, r1) from rfl]
  have HW0 := Lib.hid hW0; have HK := Lib.hid CK; have HE0 := Lib.hid hE0; have HEW := Lib.hid hE
  clear hW0 hb0 h hE CK hE0 hact hkr
  unfold z9 at HW0
  go_enter Tryz.func107, Tryz.ntmps107
  go_upto_region 1 with fail
  rw [← HW0.out]
  go_upto_region 2 with (go_at_call 151; (refine HK.out.mono ?_); rintro e w1 ⟨rfl, h1, o1⟩; have H1 := Lib.hid h1; have O1 := Lib.hid o1; clear h1 o1)
  obtain ⟨W2, hW2⟩ : ∃ W2, W2 = w1.alloc (.cells #[.int .i64 (-1), .int .i64 0, .string ⟨#[]⟩, .string ⟨#[]⟩, .slice none 0 0, .slice none 0 0, .slice none 0 0, .bool false, .slice none 0 0] 56) := ⟨_, rfl⟩
  have hY2 : LayN w W2 rb w1.heap.size (⟨-1, 0, ⟨#[]⟩, ⟨#[]⟩, none, 0, 0, none, 0, 0, none, 0, 0, false, none, 0, 0⟩ : C9) := by rw [hW2]; exact LayN.start (c := (⟨-1, 0, ⟨#[]⟩, ⟨#[]⟩, none, 0, 0, none, 0, 0, none, 0, 0, false, none, 0, 0⟩ : C9)) HW0.out O1.out hrb
  have hR2 : RdE W2 rb r1 0 := by rw [hW2]; exact H1.out.keep ((Below.refl _ _).alloc (Nat.le_refl _) _)
  have hE2 : Env W2 rb := by rw [hW2]; exact (HE0.out.only O1.out).only (Only.alloc rb _ _)
  rw [← hW2]
  clear hW2
  generalize w1.heap.size = bb at *
  have hop2 : W2.heap[bb]? = some (.cells #[.int .i64 (-1), .int .i64 0, .string ⟨#[]⟩, .string ⟨#[]⟩, .slice none 0 0, .slice none 0 0, .slice none 0 0, .bool false, .slice none 0 0] 56 (0, 0)) := hY2.op
  obtain ⟨⟨q0, q1, q2, q3, q4, q5, q6, q7, q8⟩, -⟩ := nine_blk hop2
  have HY2 := Lib.hid hY2; have HR2 := Lib.hid hR2; have HO2 := Lib.hid hop2; have HE2 := Lib.hid hE2
  have hbl2 := (Array.getElem?_eq_some_iff.1 hop2).1
  have hbn : w.heap.size < bb := hY2.lt
  clear hY2 hop2 hR2 hE2
  go_upto_region 22 with fail
  obtain ⟨W4, hW4⟩ : ∃ W4, W4 = W2 := ⟨_, rfl⟩
  rw [← hW4]
  have hY4 : LayN w W4 rb bb (⟨-1, 0, ⟨#[]⟩, ⟨#[]⟩, none, 0, 0, none, 0, 0, none, 0, 0, false, none, 0, 0⟩ : C9) := by rw [hW4]; exact HY2.out
  have HR4 := Lib.hid (show RdE W4 rb r1 0 by rw [hW4]; exact HR2.out)
  have HV4 := Lib.hid (show ActV W4 (Span (w.heap.size + 1) W4.heap.size) ⟨-1, [], []⟩ _ from ⟨none, 0, [], rfl, PipeV.none⟩)
  clear hW4 q0 q1 q2 q3 q4 q5 q6 q7 q8
  have HY4 := Lib.hid hY4
  obtain ⟨⟨y0, y1, y2, y3, y4, y5, y6, y7, y8⟩, -⟩ := nine_blk (show W4.heap[bb]? = some (.cells #[.int .i64 (-1), .int .i64 0, .string ⟨#[]⟩, .string ⟨#[]⟩, .slice none 0 0, .slice none 0 0, .slice none 0 0, .bool false, .slice none 0 0] 56 (0, 0)) from hY4.op)
  have hbl4 := (Array.getElem?_eq_some_iff.1 hY4.op).1
  obtain ⟨⟨p0, p1, p2, p3, p4, p5, p6, p7, p8⟩, ⟨f0, f1, f2, f3, f4, f5, f6, f7, f8⟩⟩ := nine_blk (show W4.heap[w.heap.size]? = some (.cells #[.int .i64 0, .int .i64 0, .string ⟨#[]⟩, .string ⟨#[]⟩, .slice none 0 0, .slice none 0 0, .slice none 0 0, .bool false, .slice none 0 0] 56 (0, 0)) from hY4.res)
  clear hY4
  go_wp2
  exact bodyPost_ret (results_cell_row rfl _ _ w.heap.size 56 _ (0, 0) _ rfl (put9_at (show W4.heap[w.heap.size]? = some (.cells #[.int .i64 0, .int .i64 0, .string ⟨#[]⟩, .string ⟨#[]⟩, .slice none 0 0, .slice none 0 0, .slice none 0 0, .bool false, .slice none 0 0] 56 (0, 0)) from HY4.out.res) (⟨-1, 0, ⟨#[]⟩, ⟨#[]⟩, none, 0, 0, none, 0, 0, none, 0, 0, false, none, 0, 0⟩ : C9)) Tryz.underlying56 rfl (by kernel_rfl)) rfl (HY4.out.fin hrb HR4.out HV4.out (put9_only W4 w.heap.size (⟨-1, 0, ⟨#[]⟩, ⟨#[]⟩, none, 0, 0, none, 0, 0, none, 0, 0, false, none, 0, 0⟩ : C9)))
set_option maxRecDepth 100000 in
set_option maxHeartbeats 4000000 in
theorem act_end (w : World) (rb : Nat) (r : R) (h : RdE w rb r 0) (hE : Env w rb) (_hlen : r.ws.length ≤ 1000) (hk : (kindR r).1 = -2) (hl1 : (kindR r).2.ws.length ≤ r.ws.length) :
    Calls Tryz.prog 107 #[.pointer (some ⟨rb, 0, none⟩)] w (ActP w rb 0 (actionR r)) := by
  have hrb := h.lt
  obtain ⟨W0, hW0⟩ : ∃ W0, W0 = w.alloc (.cells z9 56) := ⟨_, rfl⟩
  have hb0 : Below w.heap.size w W0 := by rw [hW0]; exact (Below.refl _ _).alloc (Nat.le_refl _) _
  have CK := kind_any W0 rb r 0 (h.keep hb0) (hE.below hb0)
  have hE0 := hE.below hb0
  generalize hkr : kindR r = kr at *
  obtain ⟨k, r1⟩ := kr
  simp only at hk hl1 
  subst hk
  have hact : actionR r = actGo (-2) r1 := by unfold actionR; rw [hkr]
  rw [hact, show actGo (-2) r1 = (⟨-2, [], []⟩, r1) from rfl]
  have HW0 := Lib.hid hW0; have HK := Lib.hid CK; have HE0 := Lib.hid hE0; have HEW := Lib.hid hE
  clear hW0 hb0 h hE CK hE0 hact hkr
  unfold z9 at HW0
  go_enter Tryz.func107, Tryz.ntmps107
  go_upto_region 1 with fail
  rw [← HW0.out]
  go_upto_region 2 with (go_at_call 151; (refine HK.out.mono ?_); rintro e w1 ⟨rfl, h1, o1⟩; have H1 := Lib.hid h1; have O1 := Lib.hid o1; clear h1 o1)
  obtain ⟨W2, hW2⟩ : ∃ W2, W2 = w1.alloc (.cells #[.int .i64 (-2), .int .i64 0, .string ⟨#[]⟩, .string ⟨#[]⟩, .slice none 0 0, .slice none 0 0, .slice none 0 0, .bool false, .slice none 0 0] 56) := ⟨_, rfl⟩
  have hY2 : LayN w W2 rb w1.heap.size (⟨-2, 0, ⟨#[]⟩, ⟨#[]⟩, none, 0, 0, none, 0, 0, none, 0, 0, false, none, 0, 0⟩ : C9) := by rw [hW2]; exact LayN.start (c := (⟨-2, 0, ⟨#[]⟩, ⟨#[]⟩, none, 0, 0, none, 0, 0, none, 0, 0, false, none, 0, 0⟩ : C9)) HW0.out O1.out hrb
  have hR2 : RdE W2 rb r1 0 := by rw [hW2]; exact H1.out.keep ((Below.refl _ _).alloc (Nat.le_refl _) _)
  have hE2 : Env W2 rb := by rw [hW2]; exact (HE0.out.only O1.out).only (Only.alloc rb _ _)
  rw [← hW2]
  clear hW2
  generalize w1.heap.size = bb at *
  have hop2 : W2.heap[bb]? = some (.cells #[.int .i64 (-2), .int .i64 0, .string ⟨#[]⟩, .string ⟨#[]⟩, .slice none 0 0, .slice none 0 0, .slice none 0 0, .bool false, .slice none 0 0] 56 (0, 0)) := hY2.op
  obtain ⟨⟨q0, q1, q2, q3, q4, q5, q6, q7, q8⟩, -⟩ := nine_blk hop2
  have HY2 := Lib.hid hY2; have HR2 := Lib.hid hR2; have HO2 := Lib.hid hop2; have HE2 := Lib.hid hE2
  have hbl2 := (Array.getElem?_eq_some_iff.1 hop2).1
  have hbn : w.heap.size < bb := hY2.lt
  clear hY2 hop2 hR2 hE2
  go_upto_region 22 with fail
  obtain ⟨W4, hW4⟩ : ∃ W4, W4 = W2 := ⟨_, rfl⟩
  rw [← hW4]
  have hY4 : LayN w W4 rb bb (⟨-2, 0, ⟨#[]⟩, ⟨#[]⟩, none, 0, 0, none, 0, 0, none, 0, 0, false, none, 0, 0⟩ : C9) := by rw [hW4]; exact HY2.out
  have HR4 := Lib.hid (show RdE W4 rb r1 0 by rw [hW4]; exact HR2.out)
  have HV4 := Lib.hid (show ActV W4 (Span (w.heap.size + 1) W4.heap.size) ⟨-2, [], []⟩ _ from ⟨none, 0, [], rfl, PipeV.none⟩)
  clear hW4 q0 q1 q2 q3 q4 q5 q6 q7 q8
  have HY4 := Lib.hid hY4
  obtain ⟨⟨y0, y1, y2, y3, y4, y5, y6, y7, y8⟩, -⟩ := nine_blk (show W4.heap[bb]? = some (.cells #[.int .i64 (-2), .int .i64 0, .string ⟨#[]⟩, .string ⟨#[]⟩, .slice none 0 0, .slice none 0 0, .slice none 0 0, .bool false, .slice none 0 0] 56 (0, 0)) from hY4.op)
  have hbl4 := (Array.getElem?_eq_some_iff.1 hY4.op).1
  obtain ⟨⟨p0, p1, p2, p3, p4, p5, p6, p7, p8⟩, ⟨f0, f1, f2, f3, f4, f5, f6, f7, f8⟩⟩ := nine_blk (show W4.heap[w.heap.size]? = some (.cells #[.int .i64 0, .int .i64 0, .string ⟨#[]⟩, .string ⟨#[]⟩, .slice none 0 0, .slice none 0 0, .slice none 0 0, .bool false, .slice none 0 0] 56 (0, 0)) from hY4.res)
  clear hY4
  go_wp2
  exact bodyPost_ret (results_cell_row rfl _ _ w.heap.size 56 _ (0, 0) _ rfl (put9_at (show W4.heap[w.heap.size]? = some (.cells #[.int .i64 0, .int .i64 0, .string ⟨#[]⟩, .string ⟨#[]⟩, .slice none 0 0, .slice none 0 0, .slice none 0 0, .bool false, .slice none 0 0] 56 (0, 0)) from HY4.out.res) (⟨-2, 0, ⟨#[]⟩, ⟨#[]⟩, none, 0, 0, none, 0, 0, none, 0, 0, false, none, 0, 0⟩ : C9)) Tryz.underlying56 rfl (by kernel_rfl)) rfl (HY4.out.fin hrb HR4.out HV4.out (put9_only W4 w.heap.size (⟨-2, 0, ⟨#[]⟩, ⟨#[]⟩, none, 0, 0, none, 0, 0, none, 0, 0, false, none, 0, 0⟩ : C9)))
set_option maxRecDepth 100000 in
set_option maxHeartbeats 4000000 in
theorem act_case (w : World) (rb : Nat) (r : R) (h : RdE w rb r 0) (hE : Env w rb) (_hlen : r.ws.length ≤ 1000) (hk : (kindR r).1 = -3) (hl1 : (kindR r).2.ws.length ≤ r.ws.length) :
    Calls Tryz.prog 107 #[.pointer (some ⟨rb, 0, none⟩)] w (ActP w rb 0 (actionR r)) := by
  have hrb := h.lt
  obtain ⟨W0, hW0⟩ : ∃ W0, W0 = w.alloc (.cells z9 56) := ⟨_, rfl⟩
  have hb0 : Below w.heap.size w W0 := by rw [hW0]; exact (Below.refl _ _).alloc (Nat.le_refl _) _
  have CK := kind_any W0 rb r 0 (h.keep hb0) (hE.below hb0)
  have hE0 := hE.below hb0
  generalize hkr : kindR r = kr at *
  obtain ⟨k, r1⟩ := kr
  simp only at hk hl1 
  subst hk
  have hact : actionR r = actGo (-3) r1 := by unfold actionR; rw [hkr]
  rw [hact, show actGo (-3) r1 = (⟨-3, (need 1 r1).1, []⟩, (need 1 r1).2) from rfl]
  have CN := fun w' (h' : RdE w' rb r1 0) => need_any w' rb r1 0 1 (by decide) h'
  generalize need 1 r1 = nn at *
  obtain ⟨nm, r2⟩ := nn
  have HN := Lib.hid CN; clear CN
  have HW0 := Lib.hid hW0; have HK := Lib.hid CK; have HE0 := Lib.hid hE0; have HEW := Lib.hid hE
  clear hW0 hb0 h hE CK hE0 hact hkr
  unfold z9 at HW0
  go_enter Tryz.func107, Tryz.ntmps107
  go_upto_region 1 with fail
  rw [← HW0.out]
  go_upto_region 2 with (go_at_call 151; (refine HK.out.mono ?_); rintro e w1 ⟨rfl, h1, o1⟩; have H1 := Lib.hid h1; have O1 := Lib.hid o1; clear h1 o1)
  obtain ⟨W2, hW2⟩ : ∃ W2, W2 = w1.alloc (.cells #[.int .i64 (-3), .int .i64 0, .string ⟨#[]⟩, .string ⟨#[]⟩, .slice none 0 0, .slice none 0 0, .slice none 0 0, .bool false, .slice none 0 0] 56) := ⟨_, rfl⟩
  have hY2 : LayN w W2 rb w1.heap.size (⟨-3, 0, ⟨#[]⟩, ⟨#[]⟩, none, 0, 0, none, 0, 0, none, 0, 0, false, none, 0, 0⟩ : C9) := by rw [hW2]; exact LayN.start (c := (⟨-3, 0, ⟨#[]⟩, ⟨#[]⟩, none, 0, 0, none, 0, 0, none, 0, 0, false, none, 0, 0⟩ : C9)) HW0.out O1.out hrb
  have hR2 : RdE W2 rb r1 0 := by rw [hW2]; exact H1.out.keep ((Below.refl _ _).alloc (Nat.le_refl _) _)
  have hE2 : Env W2 rb := by rw [hW2]; exact (HE0.out.only O1.out).only (Only.alloc rb _ _)
  rw [← hW2]
  clear hW2
  generalize w1.heap.size = bb at *
  have hop2 : W2.heap[bb]? = some (.cells #[.int .i64 (-3), .int .i64 0, .string ⟨#[]⟩, .string ⟨#[]⟩, .slice none 0 0, .slice none 0 0, .slice none 0 0, .bool false, .slice none 0 0] 56 (0, 0)) := hY2.op
  obtain ⟨⟨q0, q1, q2, q3, q4, q5, q6, q7, q8⟩, -⟩ := nine_blk hop2
  have HY2 := Lib.hid hY2; have HR2 := Lib.hid hR2; have HO2 := Lib.hid hop2; have HE2 := Lib.hid hE2
  have hbl2 := (Array.getElem?_eq_some_iff.1 hop2).1
  have hbn : w.heap.size < bb := hY2.lt
  clear hY2 hop2 hR2 hE2
  go_upto_region 22 with (go_at_call 152; (refine (HN.out W2 HR2.out).mono ?_); rintro e w3 ⟨rfl, h3, o3⟩; unfold str; have Y3 := Lib.hid (HY2.out.keep o3 hrb); have H3 := Lib.hid h3; have O3 := Lib.hid o3; have hop3 := o3.blk HO2.out (by omega); obtain ⟨⟨x0, x1, x2, x3, x4, x5, x6, x7, x8⟩, ⟨g0, g1, g2, g3, g4, g5, g6, g7, g8⟩⟩ := nine_blk hop3; have hbl3 := (Array.getElem?_eq_some_iff.1 hop3).1; have HO3 := Lib.hid hop3; clear h3 o3 hop3)
  obtain ⟨W4, hW4⟩ : ∃ W4, W4 = w3.setCell ⟨bb, 3, none⟩ (.string ⟨nm.toArray⟩) := ⟨_, rfl⟩
  have ho4 : Only bb w3 W4 := by rw [hW4]; exact (Only.refl bb w3).setCell _ _
  have hop4 : W4.heap[bb]? = some (.cells ((⟨-3, 0, ⟨#[]⟩, ⟨nm.toArray⟩, none, 0, 0, none, 0, 0, none, 0, 0, false, none, 0, 0⟩ : C9)).cells.toArray 56 (0, 0)) := by rw [hW4]; simp [World.setCell, Array.getElem?_modify, HO3.out]; rfl
  have hY4 : LayN w W4 rb bb (⟨-3, 0, ⟨#[]⟩, ⟨nm.toArray⟩, none, 0, 0, none, 0, 0, none, 0, 0, false, none, 0, 0⟩ : C9) := Y3.out.set ho4 hop4
  have HR4 := Lib.hid (show RdE W4 rb r2 0 from H3.out.row ho4 (fun k e => by cases e; omega))
  have HV4 := Lib.hid (show ActV W4 (Span (w.heap.size + 1) W4.heap.size) ⟨-3, nm, []⟩ _ from ⟨none, 0, [], rfl, PipeV.none⟩)
  rw [← hW4]
  clear hW4 hop4 ho4 q0 q1 q2 q3 q4 q5 q6 q7 q8
  have HY4 := Lib.hid hY4
  obtain ⟨⟨y0, y1, y2, y3, y4, y5, y6, y7, y8⟩, -⟩ := nine_blk (show W4.heap[bb]? = some (.cells #[.int .i64 (-3), .int .i64 0, .string ⟨#[]⟩, .string ⟨nm.toArray⟩, .slice none 0 0, .slice none 0 0, .slice none 0 0, .bool false, .slice none 0 0] 56 (0, 0)) from hY4.op)
  have hbl4 := (Array.getElem?_eq_some_iff.1 hY4.op).1
  obtain ⟨⟨p0, p1, p2, p3, p4, p5, p6, p7, p8⟩, ⟨f0, f1, f2, f3, f4, f5, f6, f7, f8⟩⟩ := nine_blk (show W4.heap[w.heap.size]? = some (.cells #[.int .i64 0, .int .i64 0, .string ⟨#[]⟩, .string ⟨#[]⟩, .slice none 0 0, .slice none 0 0, .slice none 0 0, .bool false, .slice none 0 0] 56 (0, 0)) from hY4.res)
  clear hY4
  go_wp2
  exact bodyPost_ret (results_cell_row rfl _ _ w.heap.size 56 _ (0, 0) _ rfl (put9_at (show W4.heap[w.heap.size]? = some (.cells #[.int .i64 0, .int .i64 0, .string ⟨#[]⟩, .string ⟨#[]⟩, .slice none 0 0, .slice none 0 0, .slice none 0 0, .bool false, .slice none 0 0] 56 (0, 0)) from HY4.out.res) (⟨-3, 0, ⟨#[]⟩, ⟨nm.toArray⟩, none, 0, 0, none, 0, 0, none, 0, 0, false, none, 0, 0⟩ : C9)) Tryz.underlying56 rfl (by kernel_rfl)) rfl (HY4.out.fin hrb HR4.out HV4.out (put9_only W4 w.heap.size (⟨-3, 0, ⟨#[]⟩, ⟨nm.toArray⟩, none, 0, 0, none, 0, 0, none, 0, 0, false, none, 0, 0⟩ : C9)))
set_option maxRecDepth 100000 in
set_option maxHeartbeats 4000000 in
theorem act_define (w : World) (rb : Nat) (r : R) (h : RdE w rb r 0) (hE : Env w rb) (_hlen : r.ws.length ≤ 1000) (hk : (kindR r).1 = -4) (hl1 : (kindR r).2.ws.length ≤ r.ws.length) :
    Calls Tryz.prog 107 #[.pointer (some ⟨rb, 0, none⟩)] w (ActP w rb 0 (actionR r)) := by
  have hrb := h.lt
  obtain ⟨W0, hW0⟩ : ∃ W0, W0 = w.alloc (.cells z9 56) := ⟨_, rfl⟩
  have hb0 : Below w.heap.size w W0 := by rw [hW0]; exact (Below.refl _ _).alloc (Nat.le_refl _) _
  have CK := kind_any W0 rb r 0 (h.keep hb0) (hE.below hb0)
  have hE0 := hE.below hb0
  generalize hkr : kindR r = kr at *
  obtain ⟨k, r1⟩ := kr
  simp only at hk hl1 
  subst hk
  have hact : actionR r = actGo (-4) r1 := by unfold actionR; rw [hkr]
  rw [hact, show actGo (-4) r1 = (⟨-4, (need 2 r1).1, []⟩, (need 2 r1).2) from rfl]
  have CN := fun w' (h' : RdE w' rb r1 0) => need_any w' rb r1 0 2 (by decide) h'
  generalize need 2 r1 = nn at *
  obtain ⟨nm, r2⟩ := nn
  have HN := Lib.hid CN; clear CN
  have HW0 := Lib.hid hW0; have HK := Lib.hid CK; have HE0 := Lib.hid hE0; have HEW := Lib.hid hE
  clear hW0 hb0 h hE CK hE0 hact hkr
  unfold z9 at HW0
  go_enter Tryz.func107, Tryz.ntmps107
  go_upto_region 1 with fail
  rw [← HW0.out]
  go_upto_region 2 with (go_at_call 151; (refine HK.out.mono ?_); rintro e w1 ⟨rfl, h1, o1⟩; have H1 := Lib.hid h1; have O1 := Lib.hid o1; clear h1 o1)
  obtain ⟨W2, hW2⟩ : ∃ W2, W2 = w1.alloc (.cells #[.int .i64 (-4), .int .i64 0, .string ⟨#[]⟩, .string ⟨#[]⟩, .slice none 0 0, .slice none 0 0, .slice none 0 0, .bool false, .slice none 0 0] 56) := ⟨_, rfl⟩
  have hY2 : LayN w W2 rb w1.heap.size (⟨-4, 0, ⟨#[]⟩, ⟨#[]⟩, none, 0, 0, none, 0, 0, none, 0, 0, false, none, 0, 0⟩ : C9) := by rw [hW2]; exact LayN.start (c := (⟨-4, 0, ⟨#[]⟩, ⟨#[]⟩, none, 0, 0, none, 0, 0, none, 0, 0, false, none, 0, 0⟩ : C9)) HW0.out O1.out hrb
  have hR2 : RdE W2 rb r1 0 := by rw [hW2]; exact H1.out.keep ((Below.refl _ _).alloc (Nat.le_refl _) _)
  have hE2 : Env W2 rb := by rw [hW2]; exact (HE0.out.only O1.out).only (Only.alloc rb _ _)
  rw [← hW2]
  clear hW2
  generalize w1.heap.size = bb at *
  have hop2 : W2.heap[bb]? = some (.cells #[.int .i64 (-4), .int .i64 0, .string ⟨#[]⟩, .string ⟨#[]⟩, .slice none 0 0, .slice none 0 0, .slice none 0 0, .bool false, .slice none 0 0] 56 (0, 0)) := hY2.op
  obtain ⟨⟨q0, q1, q2, q3, q4, q5, q6, q7, q8⟩, -⟩ := nine_blk hop2
  have HY2 := Lib.hid hY2; have HR2 := Lib.hid hR2; have HO2 := Lib.hid hop2; have HE2 := Lib.hid hE2
  have hbl2 := (Array.getElem?_eq_some_iff.1 hop2).1
  have hbn : w.heap.size < bb := hY2.lt
  clear hY2 hop2 hR2 hE2
  go_upto_region 22 with (go_at_call 152; (refine (HN.out W2 HR2.out).mono ?_); rintro e w3 ⟨rfl, h3, o3⟩; unfold str; have Y3 := Lib.hid (HY2.out.keep o3 hrb); have H3 := Lib.hid h3; have O3 := Lib.hid o3; have hop3 := o3.blk HO2.out (by omega); obtain ⟨⟨x0, x1, x2, x3, x4, x5, x6, x7, x8⟩, ⟨g0, g1, g2, g3, g4, g5, g6, g7, g8⟩⟩ := nine_blk hop3; have hbl3 := (Array.getElem?_eq_some_iff.1 hop3).1; have HO3 := Lib.hid hop3; clear h3 o3 hop3)
  obtain ⟨W4, hW4⟩ : ∃ W4, W4 = w3.setCell ⟨bb, 3, none⟩ (.string ⟨nm.toArray⟩) := ⟨_, rfl⟩
  have ho4 : Only bb w3 W4 := by rw [hW4]; exact (Only.refl bb w3).setCell _ _
  have hop4 : W4.heap[bb]? = some (.cells ((⟨-4, 0, ⟨#[]⟩, ⟨nm.toArray⟩, none, 0, 0, none, 0, 0, none, 0, 0, false, none, 0, 0⟩ : C9)).cells.toArray 56 (0, 0)) := by rw [hW4]; simp [World.setCell, Array.getElem?_modify, HO3.out]; rfl
  have hY4 : LayN w W4 rb bb (⟨-4, 0, ⟨#[]⟩, ⟨nm.toArray⟩, none, 0, 0, none, 0, 0, none, 0, 0, false, none, 0, 0⟩ : C9) := Y3.out.set ho4 hop4
  have HR4 := Lib.hid (show RdE W4 rb r2 0 from H3.out.row ho4 (fun k e => by cases e; omega))
  have HV4 := Lib.hid (show ActV W4 (Span (w.heap.size + 1) W4.heap.size) ⟨-4, nm, []⟩ _ from ⟨none, 0, [], rfl, PipeV.none⟩)
  rw [← hW4]
  clear hW4 hop4 ho4 q0 q1 q2 q3 q4 q5 q6 q7 q8
  have HY4 := Lib.hid hY4
  obtain ⟨⟨y0, y1, y2, y3, y4, y5, y6, y7, y8⟩, -⟩ := nine_blk (show W4.heap[bb]? = some (.cells #[.int .i64 (-4), .int .i64 0, .string ⟨#[]⟩, .string ⟨nm.toArray⟩, .slice none 0 0, .slice none 0 0, .slice none 0 0, .bool false, .slice none 0 0] 56 (0, 0)) from hY4.op)
  have hbl4 := (Array.getElem?_eq_some_iff.1 hY4.op).1
  obtain ⟨⟨p0, p1, p2, p3, p4, p5, p6, p7, p8⟩, ⟨f0, f1, f2, f3, f4, f5, f6, f7, f8⟩⟩ := nine_blk (show W4.heap[w.heap.size]? = some (.cells #[.int .i64 0, .int .i64 0, .string ⟨#[]⟩, .string ⟨#[]⟩, .slice none 0 0, .slice none 0 0, .slice none 0 0, .bool false, .slice none 0 0] 56 (0, 0)) from hY4.res)
  clear hY4
  go_wp2
  exact bodyPost_ret (results_cell_row rfl _ _ w.heap.size 56 _ (0, 0) _ rfl (put9_at (show W4.heap[w.heap.size]? = some (.cells #[.int .i64 0, .int .i64 0, .string ⟨#[]⟩, .string ⟨#[]⟩, .slice none 0 0, .slice none 0 0, .slice none 0 0, .bool false, .slice none 0 0] 56 (0, 0)) from HY4.out.res) (⟨-4, 0, ⟨#[]⟩, ⟨nm.toArray⟩, none, 0, 0, none, 0, 0, none, 0, 0, false, none, 0, 0⟩ : C9)) Tryz.underlying56 rfl (by kernel_rfl)) rfl (HY4.out.fin hrb HR4.out HV4.out (put9_only W4 w.heap.size (⟨-4, 0, ⟨#[]⟩, ⟨nm.toArray⟩, none, 0, 0, none, 0, 0, none, 0, 0, false, none, 0, 0⟩ : C9)))
set_option maxRecDepth 100000 in
set_option maxHeartbeats 4000000 in
theorem act_2 (w : World) (rb : Nat) (r : R) (h : RdE w rb r 0) (hE : Env w rb) (hlen : r.ws.length ≤ 1000) (hk : (kindR r).1 = 2) (hl1 : (kindR r).2.ws.length ≤ r.ws.length) :
    Calls Tryz.prog 107 #[.pointer (some ⟨rb, 0, none⟩)] w (ActP w rb 0 (actionR r)) := by
  have hrb := h.lt
  obtain ⟨W0, hW0⟩ : ∃ W0, W0 = w.alloc (.cells z9 56) := ⟨_, rfl⟩
  have hb0 : Below w.heap.size w W0 := by rw [hW0]; exact (Below.refl _ _).alloc (Nat.le_refl _) _
  have CK := kind_any W0 rb r 0 (h.keep hb0) (hE.below hb0)
  have hE0 := hE.below hb0
  generalize hkr : kindR r = kr at *
  obtain ⟨k, r1⟩ := kr
  simp only at hk hl1 
  subst hk
  have hact : actionR r = actGo (2) r1 := by unfold actionR; rw [hkr]
  rw [hact, show actGo 2 r1 = (⟨2, [], (pipeR r1).1⟩, (pipeR r1).2) from rfl]
  have CP := fun w' (h' : RdE w' rb r1 0) (hE' : Env w' rb) => reader_pipe w' rb r1 h' hE' (by omega)
  generalize pipeR r1 = pp at *
  obtain ⟨pp, r3⟩ := pp
  have HP := Lib.hid CP; clear CP
  have HW0 := Lib.hid hW0; have HK := Lib.hid CK; have HE0 := Lib.hid hE0; have HEW := Lib.hid hE
  clear hW0 hb0 h hE CK hE0 hact hkr
  unfold z9 at HW0
  go_enter Tryz.func107, Tryz.ntmps107
  go_upto_region 1 with fail
  rw [← HW0.out]
  go_upto_region 2 with (go_at_call 151; (refine HK.out.mono ?_); rintro e w1 ⟨rfl, h1, o1⟩; have H1 := Lib.hid h1; have O1 := Lib.hid o1; clear h1 o1)
  obtain ⟨W2, hW2⟩ : ∃ W2, W2 = w1.alloc (.cells #[.int .i64 (2), .int .i64 0, .string ⟨#[]⟩, .string ⟨#[]⟩, .slice none 0 0, .slice none 0 0, .slice none 0 0, .bool false, .slice none 0 0] 56) := ⟨_, rfl⟩
  have hY2 : LayN w W2 rb w1.heap.size (⟨2, 0, ⟨#[]⟩, ⟨#[]⟩, none, 0, 0, none, 0, 0, none, 0, 0, false, none, 0, 0⟩ : C9) := by rw [hW2]; exact LayN.start (c := (⟨2, 0, ⟨#[]⟩, ⟨#[]⟩, none, 0, 0, none, 0, 0, none, 0, 0, false, none, 0, 0⟩ : C9)) HW0.out O1.out hrb
  have hR2 : RdE W2 rb r1 0 := by rw [hW2]; exact H1.out.keep ((Below.refl _ _).alloc (Nat.le_refl _) _)
  have hE2 : Env W2 rb := by rw [hW2]; exact (HE0.out.only O1.out).only (Only.alloc rb _ _)
  rw [← hW2]
  clear hW2
  generalize w1.heap.size = bb at *
  have hop2 : W2.heap[bb]? = some (.cells #[.int .i64 (2), .int .i64 0, .string ⟨#[]⟩, .string ⟨#[]⟩, .slice none 0 0, .slice none 0 0, .slice none 0 0, .bool false, .slice none 0 0] 56 (0, 0)) := hY2.op
  obtain ⟨⟨q0, q1, q2, q3, q4, q5, q6, q7, q8⟩, -⟩ := nine_blk hop2
  have HY2 := Lib.hid hY2; have HR2 := Lib.hid hR2; have HO2 := Lib.hid hop2; have HE2 := Lib.hid hE2
  have hbl2 := (Array.getElem?_eq_some_iff.1 hop2).1
  have hbn : w.heap.size < bb := hY2.lt
  clear hY2 hop2 hR2 hE2
  go_upto_region 22 with (go_at_call 31; (refine (HP.out W2 HR2.out HE2.out).mono ?_); rintro e w3 ⟨pa, us, pc, rfl, h3, o3, hv⟩; have HV3 := Lib.hid hv; have Y3 := Lib.hid (HY2.out.keep o3 hrb); have H3 := Lib.hid h3; have O3 := Lib.hid o3; have hop3 := o3.blk HO2.out (by omega); obtain ⟨⟨x0, x1, x2, x3, x4, x5, x6, x7, x8⟩, ⟨g0, g1, g2, g3, g4, g5, g6, g7, g8⟩⟩ := nine_blk hop3; have hbl3 := (Array.getElem?_eq_some_iff.1 hop3).1; have HO3 := Lib.hid hop3; clear h3 o3 hop3; clear hv)
  obtain ⟨W4, hW4⟩ : ∃ W4, W4 = w3.setCell ⟨bb, 4, none⟩ (.slice pa pp.length pc) := ⟨_, rfl⟩
  have ho4 : Only bb w3 W4 := by rw [hW4]; exact (Only.refl bb w3).setCell _ _
  have hop4 : W4.heap[bb]? = some (.cells ((⟨2, 0, ⟨#[]⟩, ⟨#[]⟩, pa, pp.length, pc, none, 0, 0, none, 0, 0, false, none, 0, 0⟩ : C9)).cells.toArray 56 (0, 0)) := by rw [hW4]; simp [World.setCell, Array.getElem?_modify, HO3.out]; rfl
  have hY4 : LayN w W4 rb bb (⟨2, 0, ⟨#[]⟩, ⟨#[]⟩, pa, pp.length, pc, none, 0, 0, none, 0, 0, false, none, 0, 0⟩ : C9) := Y3.out.set ho4 hop4
  have HR4 := Lib.hid (show RdE W4 rb r3 0 from H3.out.row ho4 (fun k e => by cases e; omega))
  have HV4 := Lib.hid (show ActV W4 (Span (w.heap.size + 1) W4.heap.size) ⟨2, [], pp⟩ _ from ⟨pa, pc, us, rfl, HV3.out.keep (Span.in (by omega) ho4.size) (fun g hg => ho4.block g hg.2 (fun e => by have h1 := hg.1; cases e; omega))⟩)
  rw [← hW4]
  clear hW4 hop4 ho4 q0 q1 q2 q3 q4 q5 q6 q7 q8
  have HY4 := Lib.hid hY4
  obtain ⟨⟨y0, y1, y2, y3, y4, y5, y6, y7, y8⟩, -⟩ := nine_blk (show W4.heap[bb]? = some (.cells #[.int .i64 (2), .int .i64 0, .string ⟨#[]⟩, .string ⟨#[]⟩, .slice pa pp.length pc, .slice none 0 0, .slice none 0 0, .bool false, .slice none 0 0] 56 (0, 0)) from hY4.op)
  have hbl4 := (Array.getElem?_eq_some_iff.1 hY4.op).1
  obtain ⟨⟨p0, p1, p2, p3, p4, p5, p6, p7, p8⟩, ⟨f0, f1, f2, f3, f4, f5, f6, f7, f8⟩⟩ := nine_blk (show W4.heap[w.heap.size]? = some (.cells #[.int .i64 0, .int .i64 0, .string ⟨#[]⟩, .string ⟨#[]⟩, .slice none 0 0, .slice none 0 0, .slice none 0 0, .bool false, .slice none 0 0] 56 (0, 0)) from hY4.res)
  clear hY4
  go_wp2
  exact bodyPost_ret (results_cell_row rfl _ _ w.heap.size 56 _ (0, 0) _ rfl (put9_at (show W4.heap[w.heap.size]? = some (.cells #[.int .i64 0, .int .i64 0, .string ⟨#[]⟩, .string ⟨#[]⟩, .slice none 0 0, .slice none 0 0, .slice none 0 0, .bool false, .slice none 0 0] 56 (0, 0)) from HY4.out.res) (⟨2, 0, ⟨#[]⟩, ⟨#[]⟩, pa, pp.length, pc, none, 0, 0, none, 0, 0, false, none, 0, 0⟩ : C9)) Tryz.underlying56 rfl (by kernel_rfl)) rfl (HY4.out.fin hrb HR4.out HV4.out (put9_only W4 w.heap.size (⟨2, 0, ⟨#[]⟩, ⟨#[]⟩, pa, pp.length, pc, none, 0, 0, none, 0, 0, false, none, 0, 0⟩ : C9)))
set_option maxRecDepth 100000 in
set_option maxHeartbeats 4000000 in
theorem act_5 (w : World) (rb : Nat) (r : R) (h : RdE w rb r 0) (hE : Env w rb) (hlen : r.ws.length ≤ 1000) (hk : (kindR r).1 = 5) (hl1 : (kindR r).2.ws.length ≤ r.ws.length) :
    Calls Tryz.prog 107 #[.pointer (some ⟨rb, 0, none⟩)] w (ActP w rb 0 (actionR r)) := by
  have hrb := h.lt
  obtain ⟨W0, hW0⟩ : ∃ W0, W0 = w.alloc (.cells z9 56) := ⟨_, rfl⟩
  have hb0 : Below w.heap.size w W0 := by rw [hW0]; exact (Below.refl _ _).alloc (Nat.le_refl _) _
  have CK := kind_any W0 rb r 0 (h.keep hb0) (hE.below hb0)
  have hE0 := hE.below hb0
  generalize hkr : kindR r = kr at *
  obtain ⟨k, r1⟩ := kr
  simp only at hk hl1 
  subst hk
  have hact : actionR r = actGo (5) r1 := by unfold actionR; rw [hkr]
  rw [hact, show actGo 5 r1 = (⟨5, [], (pipeR r1).1⟩, (pipeR r1).2) from rfl]
  have CP := fun w' (h' : RdE w' rb r1 0) (hE' : Env w' rb) => reader_pipe w' rb r1 h' hE' (by omega)
  generalize pipeR r1 = pp at *
  obtain ⟨pp, r3⟩ := pp
  have HP := Lib.hid CP; clear CP
  have HW0 := Lib.hid hW0; have HK := Lib.hid CK; have HE0 := Lib.hid hE0; have HEW := Lib.hid hE
  clear hW0 hb0 h hE CK hE0 hact hkr
  unfold z9 at HW0
  go_enter Tryz.func107, Tryz.ntmps107
  go_upto_region 1 with fail
  rw [← HW0.out]
  go_upto_region 2 with (go_at_call 151; (refine HK.out.mono ?_); rintro e w1 ⟨rfl, h1, o1⟩; have H1 := Lib.hid h1; have O1 := Lib.hid o1; clear h1 o1)
  obtain ⟨W2, hW2⟩ : ∃ W2, W2 = w1.alloc (.cells #[.int .i64 (5), .int .i64 0, .string ⟨#[]⟩, .string ⟨#[]⟩, .slice none 0 0, .slice none 0 0, .slice none 0 0, .bool false, .slice none 0 0] 56) := ⟨_, rfl⟩
  have hY2 : LayN w W2 rb w1.heap.size (⟨5, 0, ⟨#[]⟩, ⟨#[]⟩, none, 0, 0, none, 0, 0, none, 0, 0, false, none, 0, 0⟩ : C9) := by rw [hW2]; exact LayN.start (c := (⟨5, 0, ⟨#[]⟩, ⟨#[]⟩, none, 0, 0, none, 0, 0, none, 0, 0, false, none, 0, 0⟩ : C9)) HW0.out O1.out hrb
  have hR2 : RdE W2 rb r1 0 := by rw [hW2]; exact H1.out.keep ((Below.refl _ _).alloc (Nat.le_refl _) _)
  have hE2 : Env W2 rb := by rw [hW2]; exact (HE0.out.only O1.out).only (Only.alloc rb _ _)
  rw [← hW2]
  clear hW2
  generalize w1.heap.size = bb at *
  have hop2 : W2.heap[bb]? = some (.cells #[.int .i64 (5), .int .i64 0, .string ⟨#[]⟩, .string ⟨#[]⟩, .slice none 0 0, .slice none 0 0, .slice none 0 0, .bool false, .slice none 0 0] 56 (0, 0)) := hY2.op
  obtain ⟨⟨q0, q1, q2, q3, q4, q5, q6, q7, q8⟩, -⟩ := nine_blk hop2
  have HY2 := Lib.hid hY2; have HR2 := Lib.hid hR2; have HO2 := Lib.hid hop2; have HE2 := Lib.hid hE2
  have hbl2 := (Array.getElem?_eq_some_iff.1 hop2).1
  have hbn : w.heap.size < bb := hY2.lt
  clear hY2 hop2 hR2 hE2
  go_upto_region 22 with (go_at_call 31; (refine (HP.out W2 HR2.out HE2.out).mono ?_); rintro e w3 ⟨pa, us, pc, rfl, h3, o3, hv⟩; have HV3 := Lib.hid hv; have Y3 := Lib.hid (HY2.out.keep o3 hrb); have H3 := Lib.hid h3; have O3 := Lib.hid o3; have hop3 := o3.blk HO2.out (by omega); obtain ⟨⟨x0, x1, x2, x3, x4, x5, x6, x7, x8⟩, ⟨g0, g1, g2, g3, g4, g5, g6, g7, g8⟩⟩ := nine_blk hop3; have hbl3 := (Array.getElem?_eq_some_iff.1 hop3).1; have HO3 := Lib.hid hop3; clear h3 o3 hop3; clear hv)
  obtain ⟨W4, hW4⟩ : ∃ W4, W4 = w3.setCell ⟨bb, 4, none⟩ (.slice pa pp.length pc) := ⟨_, rfl⟩
  have ho4 : Only bb w3 W4 := by rw [hW4]; exact (Only.refl bb w3).setCell _ _
  have hop4 : W4.heap[bb]? = some (.cells ((⟨5, 0, ⟨#[]⟩, ⟨#[]⟩, pa, pp.length, pc, none, 0, 0, none, 0, 0, false, none, 0, 0⟩ : C9)).cells.toArray 56 (0, 0)) := by rw [hW4]; simp [World.setCell, Array.getElem?_modify, HO3.out]; rfl
  have hY4 : LayN w W4 rb bb (⟨5, 0, ⟨#[]⟩, ⟨#[]⟩, pa, pp.length, pc, none, 0, 0, none, 0, 0, false, none, 0, 0⟩ : C9) := Y3.out.set ho4 hop4
  have HR4 := Lib.hid (show RdE W4 rb r3 0 from H3.out.row ho4 (fun k e => by cases e; omega))
  have HV4 := Lib.hid (show ActV W4 (Span (w.heap.size + 1) W4.heap.size) ⟨5, [], pp⟩ _ from ⟨pa, pc, us, rfl, HV3.out.keep (Span.in (by omega) ho4.size) (fun g hg => ho4.block g hg.2 (fun e => by have h1 := hg.1; cases e; omega))⟩)
  rw [← hW4]
  clear hW4 hop4 ho4 q0 q1 q2 q3 q4 q5 q6 q7 q8
  have HY4 := Lib.hid hY4
  obtain ⟨⟨y0, y1, y2, y3, y4, y5, y6, y7, y8⟩, -⟩ := nine_blk (show W4.heap[bb]? = some (.cells #[.int .i64 (5), .int .i64 0, .string ⟨#[]⟩, .string ⟨#[]⟩, .slice pa pp.length pc, .slice none 0 0, .slice none 0 0, .bool false, .slice none 0 0] 56 (0, 0)) from hY4.op)
  have hbl4 := (Array.getElem?_eq_some_iff.1 hY4.op).1
  obtain ⟨⟨p0, p1, p2, p3, p4, p5, p6, p7, p8⟩, ⟨f0, f1, f2, f3, f4, f5, f6, f7, f8⟩⟩ := nine_blk (show W4.heap[w.heap.size]? = some (.cells #[.int .i64 0, .int .i64 0, .string ⟨#[]⟩, .string ⟨#[]⟩, .slice none 0 0, .slice none 0 0, .slice none 0 0, .bool false, .slice none 0 0] 56 (0, 0)) from hY4.res)
  clear hY4
  go_wp2
  exact bodyPost_ret (results_cell_row rfl _ _ w.heap.size 56 _ (0, 0) _ rfl (put9_at (show W4.heap[w.heap.size]? = some (.cells #[.int .i64 0, .int .i64 0, .string ⟨#[]⟩, .string ⟨#[]⟩, .slice none 0 0, .slice none 0 0, .slice none 0 0, .bool false, .slice none 0 0] 56 (0, 0)) from HY4.out.res) (⟨5, 0, ⟨#[]⟩, ⟨#[]⟩, pa, pp.length, pc, none, 0, 0, none, 0, 0, false, none, 0, 0⟩ : C9)) Tryz.underlying56 rfl (by kernel_rfl)) rfl (HY4.out.fin hrb HR4.out HV4.out (put9_only W4 w.heap.size (⟨5, 0, ⟨#[]⟩, ⟨#[]⟩, pa, pp.length, pc, none, 0, 0, none, 0, 0, false, none, 0, 0⟩ : C9)))
set_option maxRecDepth 100000 in
set_option maxHeartbeats 4000000 in
theorem act_6 (w : World) (rb : Nat) (r : R) (h : RdE w rb r 0) (hE : Env w rb) (hlen : r.ws.length ≤ 1000) (hk : (kindR r).1 = 6) (hl1 : (kindR r).2.ws.length ≤ r.ws.length) :
    Calls Tryz.prog 107 #[.pointer (some ⟨rb, 0, none⟩)] w (ActP w rb 0 (actionR r)) := by
  have hrb := h.lt
  obtain ⟨W0, hW0⟩ : ∃ W0, W0 = w.alloc (.cells z9 56) := ⟨_, rfl⟩
  have hb0 : Below w.heap.size w W0 := by rw [hW0]; exact (Below.refl _ _).alloc (Nat.le_refl _) _
  have CK := kind_any W0 rb r 0 (h.keep hb0) (hE.below hb0)
  have hE0 := hE.below hb0
  generalize hkr : kindR r = kr at *
  obtain ⟨k, r1⟩ := kr
  simp only at hk hl1 
  subst hk
  have hact : actionR r = actGo (6) r1 := by unfold actionR; rw [hkr]
  rw [hact, show actGo 6 r1 = (⟨6, [], (pipeR r1).1⟩, (pipeR r1).2) from rfl]
  have CP := fun w' (h' : RdE w' rb r1 0) (hE' : Env w' rb) => reader_pipe w' rb r1 h' hE' (by omega)
  generalize pipeR r1 = pp at *
  obtain ⟨pp, r3⟩ := pp
  have HP := Lib.hid CP; clear CP
  have HW0 := Lib.hid hW0; have HK := Lib.hid CK; have HE0 := Lib.hid hE0; have HEW := Lib.hid hE
  clear hW0 hb0 h hE CK hE0 hact hkr
  unfold z9 at HW0
  go_enter Tryz.func107, Tryz.ntmps107
  go_upto_region 1 with fail
  rw [← HW0.out]
  go_upto_region 2 with (go_at_call 151; (refine HK.out.mono ?_); rintro e w1 ⟨rfl, h1, o1⟩; have H1 := Lib.hid h1; have O1 := Lib.hid o1; clear h1 o1)
  obtain ⟨W2, hW2⟩ : ∃ W2, W2 = w1.alloc (.cells #[.int .i64 (6), .int .i64 0, .string ⟨#[]⟩, .string ⟨#[]⟩, .slice none 0 0, .slice none 0 0, .slice none 0 0, .bool false, .slice none 0 0] 56) := ⟨_, rfl⟩
  have hY2 : LayN w W2 rb w1.heap.size (⟨6, 0, ⟨#[]⟩, ⟨#[]⟩, none, 0, 0, none, 0, 0, none, 0, 0, false, none, 0, 0⟩ : C9) := by rw [hW2]; exact LayN.start (c := (⟨6, 0, ⟨#[]⟩, ⟨#[]⟩, none, 0, 0, none, 0, 0, none, 0, 0, false, none, 0, 0⟩ : C9)) HW0.out O1.out hrb
  have hR2 : RdE W2 rb r1 0 := by rw [hW2]; exact H1.out.keep ((Below.refl _ _).alloc (Nat.le_refl _) _)
  have hE2 : Env W2 rb := by rw [hW2]; exact (HE0.out.only O1.out).only (Only.alloc rb _ _)
  rw [← hW2]
  clear hW2
  generalize w1.heap.size = bb at *
  have hop2 : W2.heap[bb]? = some (.cells #[.int .i64 (6), .int .i64 0, .string ⟨#[]⟩, .string ⟨#[]⟩, .slice none 0 0, .slice none 0 0, .slice none 0 0, .bool false, .slice none 0 0] 56 (0, 0)) := hY2.op
  obtain ⟨⟨q0, q1, q2, q3, q4, q5, q6, q7, q8⟩, -⟩ := nine_blk hop2
  have HY2 := Lib.hid hY2; have HR2 := Lib.hid hR2; have HO2 := Lib.hid hop2; have HE2 := Lib.hid hE2
  have hbl2 := (Array.getElem?_eq_some_iff.1 hop2).1
  have hbn : w.heap.size < bb := hY2.lt
  clear hY2 hop2 hR2 hE2
  go_upto_region 22 with (go_at_call 31; (refine (HP.out W2 HR2.out HE2.out).mono ?_); rintro e w3 ⟨pa, us, pc, rfl, h3, o3, hv⟩; have HV3 := Lib.hid hv; have Y3 := Lib.hid (HY2.out.keep o3 hrb); have H3 := Lib.hid h3; have O3 := Lib.hid o3; have hop3 := o3.blk HO2.out (by omega); obtain ⟨⟨x0, x1, x2, x3, x4, x5, x6, x7, x8⟩, ⟨g0, g1, g2, g3, g4, g5, g6, g7, g8⟩⟩ := nine_blk hop3; have hbl3 := (Array.getElem?_eq_some_iff.1 hop3).1; have HO3 := Lib.hid hop3; clear h3 o3 hop3; clear hv)
  obtain ⟨W4, hW4⟩ : ∃ W4, W4 = w3.setCell ⟨bb, 4, none⟩ (.slice pa pp.length pc) := ⟨_, rfl⟩
  have ho4 : Only bb w3 W4 := by rw [hW4]; exact (Only.refl bb w3).setCell _ _
  have hop4 : W4.heap[bb]? = some (.cells ((⟨6, 0, ⟨#[]⟩, ⟨#[]⟩, pa, pp.length, pc, none, 0, 0, none, 0, 0, false, none, 0, 0⟩ : C9)).cells.toArray 56 (0, 0)) := by rw [hW4]; simp [World.setCell, Array.getElem?_modify, HO3.out]; rfl
  have hY4 : LayN w W4 rb bb (⟨6, 0, ⟨#[]⟩, ⟨#[]⟩, pa, pp.length, pc, none, 0, 0, none, 0, 0, false, none, 0, 0⟩ : C9) := Y3.out.set ho4 hop4
  have HR4 := Lib.hid (show RdE W4 rb r3 0 from H3.out.row ho4 (fun k e => by cases e; omega))
  have HV4 := Lib.hid (show ActV W4 (Span (w.heap.size + 1) W4.heap.size) ⟨6, [], pp⟩ _ from ⟨pa, pc, us, rfl, HV3.out.keep (Span.in (by omega) ho4.size) (fun g hg => ho4.block g hg.2 (fun e => by have h1 := hg.1; cases e; omega))⟩)
  rw [← hW4]
  clear hW4 hop4 ho4 q0 q1 q2 q3 q4 q5 q6 q7 q8
  have HY4 := Lib.hid hY4
  obtain ⟨⟨y0, y1, y2, y3, y4, y5, y6, y7, y8⟩, -⟩ := nine_blk (show W4.heap[bb]? = some (.cells #[.int .i64 (6), .int .i64 0, .string ⟨#[]⟩, .string ⟨#[]⟩, .slice pa pp.length pc, .slice none 0 0, .slice none 0 0, .bool false, .slice none 0 0] 56 (0, 0)) from hY4.op)
  have hbl4 := (Array.getElem?_eq_some_iff.1 hY4.op).1
  obtain ⟨⟨p0, p1, p2, p3, p4, p5, p6, p7, p8⟩, ⟨f0, f1, f2, f3, f4, f5, f6, f7, f8⟩⟩ := nine_blk (show W4.heap[w.heap.size]? = some (.cells #[.int .i64 0, .int .i64 0, .string ⟨#[]⟩, .string ⟨#[]⟩, .slice none 0 0, .slice none 0 0, .slice none 0 0, .bool false, .slice none 0 0] 56 (0, 0)) from hY4.res)
  clear hY4
  go_wp2
  exact bodyPost_ret (results_cell_row rfl _ _ w.heap.size 56 _ (0, 0) _ rfl (put9_at (show W4.heap[w.heap.size]? = some (.cells #[.int .i64 0, .int .i64 0, .string ⟨#[]⟩, .string ⟨#[]⟩, .slice none 0 0, .slice none 0 0, .slice none 0 0, .bool false, .slice none 0 0] 56 (0, 0)) from HY4.out.res) (⟨6, 0, ⟨#[]⟩, ⟨#[]⟩, pa, pp.length, pc, none, 0, 0, none, 0, 0, false, none, 0, 0⟩ : C9)) Tryz.underlying56 rfl (by kernel_rfl)) rfl (HY4.out.fin hrb HR4.out HV4.out (put9_only W4 w.heap.size (⟨6, 0, ⟨#[]⟩, ⟨#[]⟩, pa, pp.length, pc, none, 0, 0, none, 0, 0, false, none, 0, 0⟩ : C9)))
set_option maxRecDepth 100000 in
set_option maxHeartbeats 4000000 in
theorem act_7 (w : World) (rb : Nat) (r : R) (h : RdE w rb r 0) (hE : Env w rb) (hlen : r.ws.length ≤ 1000) (hk : (kindR r).1 = 7) (hl1 : (kindR r).2.ws.length ≤ r.ws.length) :
    Calls Tryz.prog 107 #[.pointer (some ⟨rb, 0, none⟩)] w (ActP w rb 0 (actionR r)) := by
  have hrb := h.lt
  obtain ⟨W0, hW0⟩ : ∃ W0, W0 = w.alloc (.cells z9 56) := ⟨_, rfl⟩
  have hb0 : Below w.heap.size w W0 := by rw [hW0]; exact (Below.refl _ _).alloc (Nat.le_refl _) _
  have CK := kind_any W0 rb r 0 (h.keep hb0) (hE.below hb0)
  have hE0 := hE.below hb0
  generalize hkr : kindR r = kr at *
  obtain ⟨k, r1⟩ := kr
  simp only at hk hl1 
  subst hk
  have hact : actionR r = actGo (7) r1 := by unfold actionR; rw [hkr]
  rw [hact, show actGo 7 r1 = (⟨7, [], (pipeR r1).1⟩, (pipeR r1).2) from rfl]
  have CP := fun w' (h' : RdE w' rb r1 0) (hE' : Env w' rb) => reader_pipe w' rb r1 h' hE' (by omega)
  generalize pipeR r1 = pp at *
  obtain ⟨pp, r3⟩ := pp
  have HP := Lib.hid CP; clear CP
  have HW0 := Lib.hid hW0; have HK := Lib.hid CK; have HE0 := Lib.hid hE0; have HEW := Lib.hid hE
  clear hW0 hb0 h hE CK hE0 hact hkr
  unfold z9 at HW0
  go_enter Tryz.func107, Tryz.ntmps107
  go_upto_region 1 with fail
  rw [← HW0.out]
  go_upto_region 2 with (go_at_call 151; (refine HK.out.mono ?_); rintro e w1 ⟨rfl, h1, o1⟩; have H1 := Lib.hid h1; have O1 := Lib.hid o1; clear h1 o1)
  obtain ⟨W2, hW2⟩ : ∃ W2, W2 = w1.alloc (.cells #[.int .i64 (7), .int .i64 0, .string ⟨#[]⟩, .string ⟨#[]⟩, .slice none 0 0, .slice none 0 0, .slice none 0 0, .bool false, .slice none 0 0] 56) := ⟨_, rfl⟩
  have hY2 : LayN w W2 rb w1.heap.size (⟨7, 0, ⟨#[]⟩, ⟨#[]⟩, none, 0, 0, none, 0, 0, none, 0, 0, false, none, 0, 0⟩ : C9) := by rw [hW2]; exact LayN.start (c := (⟨7, 0, ⟨#[]⟩, ⟨#[]⟩, none, 0, 0, none, 0, 0, none, 0, 0, false, none, 0, 0⟩ : C9)) HW0.out O1.out hrb
  have hR2 : RdE W2 rb r1 0 := by rw [hW2]; exact H1.out.keep ((Below.refl _ _).alloc (Nat.le_refl _) _)
  have hE2 : Env W2 rb := by rw [hW2]; exact (HE0.out.only O1.out).only (Only.alloc rb _ _)
  rw [← hW2]
  clear hW2
  generalize w1.heap.size = bb at *
  have hop2 : W2.heap[bb]? = some (.cells #[.int .i64 (7), .int .i64 0, .string ⟨#[]⟩, .string ⟨#[]⟩, .slice none 0 0, .slice none 0 0, .slice none 0 0, .bool false, .slice none 0 0] 56 (0, 0)) := hY2.op
  obtain ⟨⟨q0, q1, q2, q3, q4, q5, q6, q7, q8⟩, -⟩ := nine_blk hop2
  have HY2 := Lib.hid hY2; have HR2 := Lib.hid hR2; have HO2 := Lib.hid hop2; have HE2 := Lib.hid hE2
  have hbl2 := (Array.getElem?_eq_some_iff.1 hop2).1
  have hbn : w.heap.size < bb := hY2.lt
  clear hY2 hop2 hR2 hE2
  go_upto_region 22 with (go_at_call 31; (refine (HP.out W2 HR2.out HE2.out).mono ?_); rintro e w3 ⟨pa, us, pc, rfl, h3, o3, hv⟩; have HV3 := Lib.hid hv; have Y3 := Lib.hid (HY2.out.keep o3 hrb); have H3 := Lib.hid h3; have O3 := Lib.hid o3; have hop3 := o3.blk HO2.out (by omega); obtain ⟨⟨x0, x1, x2, x3, x4, x5, x6, x7, x8⟩, ⟨g0, g1, g2, g3, g4, g5, g6, g7, g8⟩⟩ := nine_blk hop3; have hbl3 := (Array.getElem?_eq_some_iff.1 hop3).1; have HO3 := Lib.hid hop3; clear h3 o3 hop3; clear hv)
  obtain ⟨W4, hW4⟩ : ∃ W4, W4 = w3.setCell ⟨bb, 4, none⟩ (.slice pa pp.length pc) := ⟨_, rfl⟩
  have ho4 : Only bb w3 W4 := by rw [hW4]; exact (Only.refl bb w3).setCell _ _
  have hop4 : W4.heap[bb]? = some (.cells ((⟨7, 0, ⟨#[]⟩, ⟨#[]⟩, pa, pp.length, pc, none, 0, 0, none, 0, 0, false, none, 0, 0⟩ : C9)).cells.toArray 56 (0, 0)) := by rw [hW4]; simp [World.setCell, Array.getElem?_modify, HO3.out]; rfl
  have hY4 : LayN w W4 rb bb (⟨7, 0, ⟨#[]⟩, ⟨#[]⟩, pa, pp.length, pc, none, 0, 0, none, 0, 0, false, none, 0, 0⟩ : C9) := Y3.out.set ho4 hop4
  have HR4 := Lib.hid (show RdE W4 rb r3 0 from H3.out.row ho4 (fun k e => by cases e; omega))
  have HV4 := Lib.hid (show ActV W4 (Span (w.heap.size + 1) W4.heap.size) ⟨7, [], pp⟩ _ from ⟨pa, pc, us, rfl, HV3.out.keep (Span.in (by omega) ho4.size) (fun g hg => ho4.block g hg.2 (fun e => by have h1 := hg.1; cases e; omega))⟩)
  rw [← hW4]
  clear hW4 hop4 ho4 q0 q1 q2 q3 q4 q5 q6 q7 q8
  have HY4 := Lib.hid hY4
  obtain ⟨⟨y0, y1, y2, y3, y4, y5, y6, y7, y8⟩, -⟩ := nine_blk (show W4.heap[bb]? = some (.cells #[.int .i64 (7), .int .i64 0, .string ⟨#[]⟩, .string ⟨#[]⟩, .slice pa pp.length pc, .slice none 0 0, .slice none 0 0, .bool false, .slice none 0 0] 56 (0, 0)) from hY4.op)
  have hbl4 := (Array.getElem?_eq_some_iff.1 hY4.op).1
  obtain ⟨⟨p0, p1, p2, p3, p4, p5, p6, p7, p8⟩, ⟨f0, f1, f2, f3, f4, f5, f6, f7, f8⟩⟩ := nine_blk (show W4.heap[w.heap.size]? = some (.cells #[.int .i64 0, .int .i64 0, .string ⟨#[]⟩, .string ⟨#[]⟩, .slice none 0 0, .slice none 0 0, .slice none 0 0, .bool false, .slice none 0 0] 56 (0, 0)) from hY4.res)
  clear hY4
  go_wp2
  exact bodyPost_ret (results_cell_row rfl _ _ w.heap.size 56 _ (0, 0) _ rfl (put9_at (show W4.heap[w.heap.size]? = some (.cells #[.int .i64 0, .int .i64 0, .string ⟨#[]⟩, .string ⟨#[]⟩, .slice none 0 0, .slice none 0 0, .slice none 0 0, .bool false, .slice none 0 0] 56 (0, 0)) from HY4.out.res) (⟨7, 0, ⟨#[]⟩, ⟨#[]⟩, pa, pp.length, pc, none, 0, 0, none, 0, 0, false, none, 0, 0⟩ : C9)) Tryz.underlying56 rfl (by kernel_rfl)) rfl (HY4.out.fin hrb HR4.out HV4.out (put9_only W4 w.heap.size (⟨7, 0, ⟨#[]⟩, ⟨#[]⟩, pa, pp.length, pc, none, 0, 0, none, 0, 0, false, none, 0, 0⟩ : C9)))
set_option maxRecDepth 100000 in
set_option maxHeartbeats 4000000 in
theorem act_8 (w : World) (rb : Nat) (r : R) (h : RdE w rb r 0) (hE : Env w rb) (hlen : r.ws.length ≤ 1000) (hk : (kindR r).1 = 8) (hl1 : (kindR r).2.ws.length ≤ r.ws.length) :
    Calls Tryz.prog 107 #[.pointer (some ⟨rb, 0, none⟩)] w (ActP w rb 0 (actionR r)) := by
  have hrb := h.lt
  obtain ⟨W0, hW0⟩ : ∃ W0, W0 = w.alloc (.cells z9 56) := ⟨_, rfl⟩
  have hb0 : Below w.heap.size w W0 := by rw [hW0]; exact (Below.refl _ _).alloc (Nat.le_refl _) _
  have CK := kind_any W0 rb r 0 (h.keep hb0) (hE.below hb0)
  have hE0 := hE.below hb0
  generalize hkr : kindR r = kr at *
  obtain ⟨k, r1⟩ := kr
  simp only at hk hl1 
  subst hk
  have hact : actionR r = actGo (8) r1 := by unfold actionR; rw [hkr]
  rw [hact, show actGo 8 r1 = (⟨8, [], (pipeR r1).1⟩, (pipeR r1).2) from rfl]
  have CP := fun w' (h' : RdE w' rb r1 0) (hE' : Env w' rb) => reader_pipe w' rb r1 h' hE' (by omega)
  generalize pipeR r1 = pp at *
  obtain ⟨pp, r3⟩ := pp
  have HP := Lib.hid CP; clear CP
  have HW0 := Lib.hid hW0; have HK := Lib.hid CK; have HE0 := Lib.hid hE0; have HEW := Lib.hid hE
  clear hW0 hb0 h hE CK hE0 hact hkr
  unfold z9 at HW0
  go_enter Tryz.func107, Tryz.ntmps107
  go_upto_region 1 with fail
  rw [← HW0.out]
  go_upto_region 2 with (go_at_call 151; (refine HK.out.mono ?_); rintro e w1 ⟨rfl, h1, o1⟩; have H1 := Lib.hid h1; have O1 := Lib.hid o1; clear h1 o1)
  obtain ⟨W2, hW2⟩ : ∃ W2, W2 = w1.alloc (.cells #[.int .i64 (8), .int .i64 0, .string ⟨#[]⟩, .string ⟨#[]⟩, .slice none 0 0, .slice none 0 0, .slice none 0 0, .bool false, .slice none 0 0] 56) := ⟨_, rfl⟩
  have hY2 : LayN w W2 rb w1.heap.size (⟨8, 0, ⟨#[]⟩, ⟨#[]⟩, none, 0, 0, none, 0, 0, none, 0, 0, false, none, 0, 0⟩ : C9) := by rw [hW2]; exact LayN.start (c := (⟨8, 0, ⟨#[]⟩, ⟨#[]⟩, none, 0, 0, none, 0, 0, none, 0, 0, false, none, 0, 0⟩ : C9)) HW0.out O1.out hrb
  have hR2 : RdE W2 rb r1 0 := by rw [hW2]; exact H1.out.keep ((Below.refl _ _).alloc (Nat.le_refl _) _)
  have hE2 : Env W2 rb := by rw [hW2]; exact (HE0.out.only O1.out).only (Only.alloc rb _ _)
  rw [← hW2]
  clear hW2
  generalize w1.heap.size = bb at *
  have hop2 : W2.heap[bb]? = some (.cells #[.int .i64 (8), .int .i64 0, .string ⟨#[]⟩, .string ⟨#[]⟩, .slice none 0 0, .slice none 0 0, .slice none 0 0, .bool false, .slice none 0 0] 56 (0, 0)) := hY2.op
  obtain ⟨⟨q0, q1, q2, q3, q4, q5, q6, q7, q8⟩, -⟩ := nine_blk hop2
  have HY2 := Lib.hid hY2; have HR2 := Lib.hid hR2; have HO2 := Lib.hid hop2; have HE2 := Lib.hid hE2
  have hbl2 := (Array.getElem?_eq_some_iff.1 hop2).1
  have hbn : w.heap.size < bb := hY2.lt
  clear hY2 hop2 hR2 hE2
  go_upto_region 22 with (go_at_call 31; (refine (HP.out W2 HR2.out HE2.out).mono ?_); rintro e w3 ⟨pa, us, pc, rfl, h3, o3, hv⟩; have HV3 := Lib.hid hv; have Y3 := Lib.hid (HY2.out.keep o3 hrb); have H3 := Lib.hid h3; have O3 := Lib.hid o3; have hop3 := o3.blk HO2.out (by omega); obtain ⟨⟨x0, x1, x2, x3, x4, x5, x6, x7, x8⟩, ⟨g0, g1, g2, g3, g4, g5, g6, g7, g8⟩⟩ := nine_blk hop3; have hbl3 := (Array.getElem?_eq_some_iff.1 hop3).1; have HO3 := Lib.hid hop3; clear h3 o3 hop3; clear hv)
  obtain ⟨W4, hW4⟩ : ∃ W4, W4 = w3.setCell ⟨bb, 4, none⟩ (.slice pa pp.length pc) := ⟨_, rfl⟩
  have ho4 : Only bb w3 W4 := by rw [hW4]; exact (Only.refl bb w3).setCell _ _
  have hop4 : W4.heap[bb]? = some (.cells ((⟨8, 0, ⟨#[]⟩, ⟨#[]⟩, pa, pp.length, pc, none, 0, 0, none, 0, 0, false, none, 0, 0⟩ : C9)).cells.toArray 56 (0, 0)) := by rw [hW4]; simp [World.setCell, Array.getElem?_modify, HO3.out]; rfl
  have hY4 : LayN w W4 rb bb (⟨8, 0, ⟨#[]⟩, ⟨#[]⟩, pa, pp.length, pc, none, 0, 0, none, 0, 0, false, none, 0, 0⟩ : C9) := Y3.out.set ho4 hop4
  have HR4 := Lib.hid (show RdE W4 rb r3 0 from H3.out.row ho4 (fun k e => by cases e; omega))
  have HV4 := Lib.hid (show ActV W4 (Span (w.heap.size + 1) W4.heap.size) ⟨8, [], pp⟩ _ from ⟨pa, pc, us, rfl, HV3.out.keep (Span.in (by omega) ho4.size) (fun g hg => ho4.block g hg.2 (fun e => by have h1 := hg.1; cases e; omega))⟩)
  rw [← hW4]
  clear hW4 hop4 ho4 q0 q1 q2 q3 q4 q5 q6 q7 q8
  have HY4 := Lib.hid hY4
  obtain ⟨⟨y0, y1, y2, y3, y4, y5, y6, y7, y8⟩, -⟩ := nine_blk (show W4.heap[bb]? = some (.cells #[.int .i64 (8), .int .i64 0, .string ⟨#[]⟩, .string ⟨#[]⟩, .slice pa pp.length pc, .slice none 0 0, .slice none 0 0, .bool false, .slice none 0 0] 56 (0, 0)) from hY4.op)
  have hbl4 := (Array.getElem?_eq_some_iff.1 hY4.op).1
  obtain ⟨⟨p0, p1, p2, p3, p4, p5, p6, p7, p8⟩, ⟨f0, f1, f2, f3, f4, f5, f6, f7, f8⟩⟩ := nine_blk (show W4.heap[w.heap.size]? = some (.cells #[.int .i64 0, .int .i64 0, .string ⟨#[]⟩, .string ⟨#[]⟩, .slice none 0 0, .slice none 0 0, .slice none 0 0, .bool false, .slice none 0 0] 56 (0, 0)) from hY4.res)
  clear hY4
  go_wp2
  exact bodyPost_ret (results_cell_row rfl _ _ w.heap.size 56 _ (0, 0) _ rfl (put9_at (show W4.heap[w.heap.size]? = some (.cells #[.int .i64 0, .int .i64 0, .string ⟨#[]⟩, .string ⟨#[]⟩, .slice none 0 0, .slice none 0 0, .slice none 0 0, .bool false, .slice none 0 0] 56 (0, 0)) from HY4.out.res) (⟨8, 0, ⟨#[]⟩, ⟨#[]⟩, pa, pp.length, pc, none, 0, 0, none, 0, 0, false, none, 0, 0⟩ : C9)) Tryz.underlying56 rfl (by kernel_rfl)) rfl (HY4.out.fin hrb HR4.out HV4.out (put9_only W4 w.heap.size (⟨8, 0, ⟨#[]⟩, ⟨#[]⟩, pa, pp.length, pc, none, 0, 0, none, 0, 0, false, none, 0, 0⟩ : C9)))
set_option maxRecDepth 100000 in
set_option maxHeartbeats 4000000 in
theorem act_call0 (w : World) (rb : Nat) (r : R) (h : RdE w rb r 0) (hE : Env w rb) (_hlen : r.ws.length ≤ 1000) (hk : (kindR r).1 = 9) (hl1 : (kindR r).2.ws.length ≤ r.ws.length) (hed : (need 2 (kindR r).2).2.ws.length = 0) :
    Calls Tryz.prog 107 #[.pointer (some ⟨rb, 0, none⟩)] w (ActP w rb 0 (actionR r)) := by
  have hrb := h.lt
  obtain ⟨W0, hW0⟩ : ∃ W0, W0 = w.alloc (.cells z9 56) := ⟨_, rfl⟩
  have hb0 : Below w.heap.size w W0 := by rw [hW0]; exact (Below.refl _ _).alloc (Nat.le_refl _) _
  have CK := kind_any W0 rb r 0 (h.keep hb0) (hE.below hb0)
  have hE0 := hE.below hb0
  generalize hkr : kindR r = kr at *
  obtain ⟨k, r1⟩ := kr
  simp only at hk hl1 hed
  subst hk
  have hact : actionR r = actGo (9) r1 := by unfold actionR; rw [hkr]
  rw [hact, show actGo 9 r1 = (if (need 2 r1).2.ws.length = 0 then (⟨9, (need 2 r1).1, []⟩, (need 2 r1).2) else pipedR 9 (need 2 r1).1 (need 2 r1).2) from rfl, if_pos hed]
  have CN := fun w' (h' : RdE w' rb r1 0) => need_any w' rb r1 0 2 (by decide) h'
  have hnl := need_len 2 r1
  generalize need 2 r1 = nn at *
  obtain ⟨nm, r2⟩ := nn
  simp only at hnl hed ⊢
  have HN := Lib.hid CN; clear CN
  have CE := fun w' (h' : RdE w' rb r2 0) => ended_any w' rb r2 0 h'
  rw [decide_eq_true hed] at CE
  have HCE := Lib.hid CE; clear CE hed
  have HW0 := Lib.hid hW0; have HK := Lib.hid CK; have HE0 := Lib.hid hE0; have HEW := Lib.hid hE
  clear hW0 hb0 h hE CK hE0 hact hkr
  unfold z9 at HW0
  go_enter Tryz.func107, Tryz.ntmps107
  go_upto_region 1 with fail
  rw [← HW0.out]
  go_upto_region 2 with (go_at_call 151; (refine HK.out.mono ?_); rintro e w1 ⟨rfl, h1, o1⟩; have H1 := Lib.hid h1; have O1 := Lib.hid o1; clear h1 o1)
  obtain ⟨W2, hW2⟩ : ∃ W2, W2 = w1.alloc (.cells #[.int .i64 (9), .int .i64 0, .string ⟨#[]⟩, .string ⟨#[]⟩, .slice none 0 0, .slice none 0 0, .slice none 0 0, .bool false, .slice none 0 0] 56) := ⟨_, rfl⟩
  have hY2 : LayN w W2 rb w1.heap.size (⟨9, 0, ⟨#[]⟩, ⟨#[]⟩, none, 0, 0, none, 0, 0, none, 0, 0, false, none, 0, 0⟩ : C9) := by rw [hW2]; exact LayN.start (c := (⟨9, 0, ⟨#[]⟩, ⟨#[]⟩, none, 0, 0, none, 0, 0, none, 0, 0, false, none, 0, 0⟩ : C9)) HW0.out O1.out hrb
  have hR2 : RdE W2 rb r1 0 := by rw [hW2]; exact H1.out.keep ((Below.refl _ _).alloc (Nat.le_refl _) _)
  have hE2 : Env W2 rb := by rw [hW2]; exact (HE0.out.only O1.out).only (Only.alloc rb _ _)
  rw [← hW2]
  clear hW2
  generalize w1.heap.size = bb at *
  have hop2 : W2.heap[bb]? = some (.cells #[.int .i64 (9), .int .i64 0, .string ⟨#[]⟩, .string ⟨#[]⟩, .slice none 0 0, .slice none 0 0, .slice none 0 0, .bool false, .slice none 0 0] 56 (0, 0)) := hY2.op
  obtain ⟨⟨q0, q1, q2, q3, q4, q5, q6, q7, q8⟩, -⟩ := nine_blk hop2
  have HY2 := Lib.hid hY2; have HR2 := Lib.hid hR2; have HO2 := Lib.hid hop2; have HE2 := Lib.hid hE2
  have hbl2 := (Array.getElem?_eq_some_iff.1 hop2).1
  have hbn : w.heap.size < bb := hY2.lt
  clear hY2 hop2 hR2 hE2
  go_upto_region 18 with (go_at_call 152; (refine (HN.out W2 HR2.out).mono ?_); rintro e w3 ⟨rfl, h3, o3⟩; unfold str; have Y3 := Lib.hid (HY2.out.keep o3 hrb); have H3 := Lib.hid h3; have O3 := Lib.hid o3; have hop3 := o3.blk HO2.out (by omega); obtain ⟨⟨x0, x1, x2, x3, x4, x5, x6, x7, x8⟩, ⟨g0, g1, g2, g3, g4, g5, g6, g7, g8⟩⟩ := nine_blk hop3; have hbl3 := (Array.getElem?_eq_some_iff.1 hop3).1; have HO3 := Lib.hid hop3; clear h3 o3 hop3)
  obtain ⟨W3, hW3⟩ : ∃ W3, W3 = w3.setCell ⟨bb, 3, none⟩ (.string ⟨nm.toArray⟩) := ⟨_, rfl⟩
  have ho3' : Only bb w3 W3 := by rw [hW3]; exact (Only.refl bb w3).setCell _ _
  have hop3' : W3.heap[bb]? = some (.cells #[.int .i64 (9), .int .i64 0, .string ⟨#[]⟩, .string ⟨nm.toArray⟩, .slice none 0 0, .slice none 0 0, .slice none 0 0, .bool false, .slice none 0 0] 56 (0, 0)) := by rw [hW3]; simp [World.setCell, Array.getElem?_modify, HO3.out]
  have hY3 : LayN w W3 rb bb (⟨9, 0, ⟨#[]⟩, ⟨nm.toArray⟩, none, 0, 0, none, 0, 0, none, 0, 0, false, none, 0, 0⟩ : C9) := Y3.out.set ho3' hop3'
  have HRN := Lib.hid (show RdE W3 rb r2 0 from H3.out.row ho3' (fun k e => by cases e; omega))
  have HEN := Lib.hid (HEW.out.only hY3.only)
  rw [← hW3]
  have HYN := Lib.hid hY3; have HON := Lib.hid hop3'
  clear hW3 hop3' ho3' hY3 q0 q1 q2 q3 q4 q5 q6 q7 q8 x0 x1 x2 x3 x4 x5 x6 x7 x8 g0 g1 g2 g3 g4 g5 g6 g7 g8
  obtain ⟨⟨q0, q1, q2, q3, q4, q5, q6, q7, q8⟩, -⟩ := nine_blk HON.out
  go_upto_region 22 with (go_at_call 52; (refine (HCE.out W3 HRN.out).mono ?_); rintro e w5 ⟨rfl, rfl⟩)
  obtain ⟨W4, hW4⟩ : ∃ W4, W4 = W3 := ⟨_, rfl⟩
  rw [← hW4]
  have hY4 : LayN w W4 rb bb (⟨9, 0, ⟨#[]⟩, ⟨nm.toArray⟩, none, 0, 0, none, 0, 0, none, 0, 0, false, none, 0, 0⟩ : C9) := by rw [hW4]; exact HYN.out
  have HR4 := Lib.hid (show RdE W4 rb r2 0 by rw [hW4]; exact HRN.out)
  have HV4 := Lib.hid (show ActV W4 (Span (w.heap.size + 1) W4.heap.size) ⟨9, nm, []⟩ _ from ⟨none, 0, [], rfl, PipeV.none⟩)
  clear hW4 q0 q1 q2 q3 q4 q5 q6 q7 q8
  have HY4 := Lib.hid hY4
  obtain ⟨⟨y0, y1, y2, y3, y4, y5, y6, y7, y8⟩, -⟩ := nine_blk (show W4.heap[bb]? = some (.cells #[.int .i64 (9), .int .i64 0, .string ⟨#[]⟩, .string ⟨nm.toArray⟩, .slice none 0 0, .slice none 0 0, .slice none 0 0, .bool false, .slice none 0 0] 56 (0, 0)) from hY4.op)
  have hbl4 := (Array.getElem?_eq_some_iff.1 hY4.op).1
  obtain ⟨⟨p0, p1, p2, p3, p4, p5, p6, p7, p8⟩, ⟨f0, f1, f2, f3, f4, f5, f6, f7, f8⟩⟩ := nine_blk (show W4.heap[w.heap.size]? = some (.cells #[.int .i64 0, .int .i64 0, .string ⟨#[]⟩, .string ⟨#[]⟩, .slice none 0 0, .slice none 0 0, .slice none 0 0, .bool false, .slice none 0 0] 56 (0, 0)) from hY4.res)
  clear hY4
  go_wp2
  exact bodyPost_ret (results_cell_row rfl _ _ w.heap.size 56 _ (0, 0) _ rfl (put9_at (show W4.heap[w.heap.size]? = some (.cells #[.int .i64 0, .int .i64 0, .string ⟨#[]⟩, .string ⟨#[]⟩, .slice none 0 0, .slice none 0 0, .slice none 0 0, .bool false, .slice none 0 0] 56 (0, 0)) from HY4.out.res) (⟨9, 0, ⟨#[]⟩, ⟨nm.toArray⟩, none, 0, 0, none, 0, 0, none, 0, 0, false, none, 0, 0⟩ : C9)) Tryz.underlying56 rfl (by kernel_rfl)) rfl (HY4.out.fin hrb HR4.out HV4.out (put9_only W4 w.heap.size (⟨9, 0, ⟨#[]⟩, ⟨nm.toArray⟩, none, 0, 0, none, 0, 0, none, 0, 0, false, none, 0, 0⟩ : C9)))
set_option maxRecDepth 100000 in
set_option maxHeartbeats 4000000 in
theorem act_call1 (w : World) (rb : Nat) (r : R) (h : RdE w rb r 0) (hE : Env w rb) (hlen : r.ws.length ≤ 1000) (hk : (kindR r).1 = 9) (hl1 : (kindR r).2.ws.length ≤ r.ws.length) (hed : ¬ (need 2 (kindR r).2).2.ws.length = 0) :
    Calls Tryz.prog 107 #[.pointer (some ⟨rb, 0, none⟩)] w (ActP w rb 0 (actionR r)) := by
  have hrb := h.lt
  obtain ⟨W0, hW0⟩ : ∃ W0, W0 = w.alloc (.cells z9 56) := ⟨_, rfl⟩
  have hb0 : Below w.heap.size w W0 := by rw [hW0]; exact (Below.refl _ _).alloc (Nat.le_refl _) _
  have CK := kind_any W0 rb r 0 (h.keep hb0) (hE.below hb0)
  have hE0 := hE.below hb0
  generalize hkr : kindR r = kr at *
  obtain ⟨k, r1⟩ := kr
  simp only at hk hl1 hed
  subst hk
  have hact : actionR r = actGo (9) r1 := by unfold actionR; rw [hkr]
  rw [hact, show actGo 9 r1 = (if (need 2 r1).2.ws.length = 0 then (⟨9, (need 2 r1).1, []⟩, (need 2 r1).2) else pipedR 9 (need 2 r1).1 (need 2 r1).2) from rfl, if_neg hed]
  have CN := fun w' (h' : RdE w' rb r1 0) => need_any w' rb r1 0 2 (by decide) h'
  have hnl := need_len 2 r1
  generalize need 2 r1 = nn at *
  obtain ⟨nm, r2⟩ := nn
  simp only at hnl hed ⊢
  have HN := Lib.hid CN; clear CN
  have CE := fun w' (h' : RdE w' rb r2 0) => ended_any w' rb r2 0 h'
  rw [decide_eq_false hed] at CE
  have HCE := Lib.hid CE; clear CE hed
  unfold pipedR
  have CP := fun w' (h' : RdE w' rb r2 0) (hE' : Env w' rb) => reader_pipe w' rb r2 h' hE' (by omega)
  generalize pipeR r2 = pp at *
  obtain ⟨pp, r3⟩ := pp
  have HP := Lib.hid CP; clear CP
  have HW0 := Lib.hid hW0; have HK := Lib.hid CK; have HE0 := Lib.hid hE0; have HEW := Lib.hid hE
  clear hW0 hb0 h hE CK hE0 hact hkr
  unfold z9 at HW0
  go_enter Tryz.func107, Tryz.ntmps107
  go_upto_region 1 with fail
  rw [← HW0.out]
  go_upto_region 2 with (go_at_call 151; (refine HK.out.mono ?_); rintro e w1 ⟨rfl, h1, o1⟩; have H1 := Lib.hid h1; have O1 := Lib.hid o1; clear h1 o1)
  obtain ⟨W2, hW2⟩ : ∃ W2, W2 = w1.alloc (.cells #[.int .i64 (9), .int .i64 0, .string ⟨#[]⟩, .string ⟨#[]⟩, .slice none 0 0, .slice none 0 0, .slice none 0 0, .bool false, .slice none 0 0] 56) := ⟨_, rfl⟩
  have hY2 : LayN w W2 rb w1.heap.size (⟨9, 0, ⟨#[]⟩, ⟨#[]⟩, none, 0, 0, none, 0, 0, none, 0, 0, false, none, 0, 0⟩ : C9) := by rw [hW2]; exact LayN.start (c := (⟨9, 0, ⟨#[]⟩, ⟨#[]⟩, none, 0, 0, none, 0, 0, none, 0, 0, false, none, 0, 0⟩ : C9)) HW0.out O1.out hrb
  have hR2 : RdE W2 rb r1 0 := by rw [hW2]; exact H1.out.keep ((Below.refl _ _).alloc (Nat.le_refl _) _)
  have hE2 : Env W2 rb := by rw [hW2]; exact (HE0.out.only O1.out).only (Only.alloc rb _ _)
  rw [← hW2]
  clear hW2
  generalize w1.heap.size = bb at *
  have hop2 : W2.heap[bb]? = some (.cells #[.int .i64 (9), .int .i64 0, .string ⟨#[]⟩, .string ⟨#[]⟩, .slice none 0 0, .slice none 0 0, .slice none 0 0, .bool false, .slice none 0 0] 56 (0, 0)) := hY2.op
  obtain ⟨⟨q0, q1, q2, q3, q4, q5, q6, q7, q8⟩, -⟩ := nine_blk hop2
  have HY2 := Lib.hid hY2; have HR2 := Lib.hid hR2; have HO2 := Lib.hid hop2; have HE2 := Lib.hid hE2
  have hbl2 := (Array.getElem?_eq_some_iff.1 hop2).1
  have hbn : w.heap.size < bb := hY2.lt
  clear hY2 hop2 hR2 hE2
  go_upto_region 18 with (go_at_call 152; (refine (HN.out W2 HR2.out).mono ?_); rintro e w3 ⟨rfl, h3, o3⟩; unfold str; have Y3 := Lib.hid (HY2.out.keep o3 hrb); have H3 := Lib.hid h3; have O3 := Lib.hid o3; have hop3 := o3.blk HO2.out (by omega); obtain ⟨⟨x0, x1, x2, x3, x4, x5, x6, x7, x8⟩, ⟨g0, g1, g2, g3, g4, g5, g6, g7, g8⟩⟩ := nine_blk hop3; have hbl3 := (Array.getElem?_eq_some_iff.1 hop3).1; have HO3 := Lib.hid hop3; clear h3 o3 hop3)
  obtain ⟨W3, hW3⟩ : ∃ W3, W3 = w3.setCell ⟨bb, 3, none⟩ (.string ⟨nm.toArray⟩) := ⟨_, rfl⟩
  have ho3' : Only bb w3 W3 := by rw [hW3]; exact (Only.refl bb w3).setCell _ _
  have hop3' : W3.heap[bb]? = some (.cells #[.int .i64 (9), .int .i64 0, .string ⟨#[]⟩, .string ⟨nm.toArray⟩, .slice none 0 0, .slice none 0 0, .slice none 0 0, .bool false, .slice none 0 0] 56 (0, 0)) := by rw [hW3]; simp [World.setCell, Array.getElem?_modify, HO3.out]
  have hY3 : LayN w W3 rb bb (⟨9, 0, ⟨#[]⟩, ⟨nm.toArray⟩, none, 0, 0, none, 0, 0, none, 0, 0, false, none, 0, 0⟩ : C9) := Y3.out.set ho3' hop3'
  have HRN := Lib.hid (show RdE W3 rb r2 0 from H3.out.row ho3' (fun k e => by cases e; omega))
  have HEN := Lib.hid (HEW.out.only hY3.only)
  rw [← hW3]
  have HYN := Lib.hid hY3; have HON := Lib.hid hop3'
  clear hW3 hop3' ho3' hY3 q0 q1 q2 q3 q4 q5 q6 q7 q8 x0 x1 x2 x3 x4 x5 x6 x7 x8 g0 g1 g2 g3 g4 g5 g6 g7 g8
  obtain ⟨⟨q0, q1, q2, q3, q4, q5, q6, q7, q8⟩, -⟩ := nine_blk HON.out
  go_upto_region 22 with (first
    | (go_at_call 52; (refine (HCE.out W3 HRN.out).mono ?_); rintro e w4 ⟨rfl, rfl⟩)
    | (go_at_call 31; (refine (HP.out W3 HRN.out HEN.out).mono ?_); rintro e w5 ⟨pa, us, pc, rfl, h5, o5, hv⟩; have HV5 := Lib.hid hv; have Y5 := Lib.hid (HYN.out.keep o5 hrb); have H5 := Lib.hid h5; have O5 := Lib.hid o5; have hop5 := o5.blk HON.out (by omega); obtain ⟨⟨x0, x1, x2, x3, x4, x5, x6, x7, x8⟩, ⟨g0, g1, g2, g3, g4, g5, g6, g7, g8⟩⟩ := nine_blk hop5; have hbl5 := (Array.getElem?_eq_some_iff.1 hop5).1; have HO5 := Lib.hid hop5; clear h5 o5 hop5; clear hv))
  obtain ⟨W4, hW4⟩ : ∃ W4, W4 = w5.setCell ⟨bb, 4, none⟩ (.slice pa pp.length pc) := ⟨_, rfl⟩
  have ho4 : Only bb w5 W4 := by rw [hW4]; exact (Only.refl bb w5).setCell _ _
  have hop4 : W4.heap[bb]? = some (.cells ((⟨9, 0, ⟨#[]⟩, ⟨nm.toArray⟩, pa, pp.length, pc, none, 0, 0, none, 0, 0, false, none, 0, 0⟩ : C9)).cells.toArray 56 (0, 0)) := by rw [hW4]; simp [World.setCell, Array.getElem?_modify, HO5.out]; rfl
  have hY4 : LayN w W4 rb bb (⟨9, 0, ⟨#[]⟩, ⟨nm.toArray⟩, pa, pp.length, pc, none, 0, 0, none, 0, 0, false, none, 0, 0⟩ : C9) := Y5.out.set ho4 hop4
  have hs3 := HYN.out.only.size
  have hbl3' := (Array.getElem?_eq_some_iff.1 HON.out).1
  have HR4 := Lib.hid (show RdE W4 rb r3 0 from H5.out.row ho4 (fun k e => by cases e; omega))
  have HV4 := Lib.hid (show ActV W4 (Span (w.heap.size + 1) W4.heap.size) ⟨9, nm, pp⟩ _ from ⟨pa, pc, us, rfl, HV5.out.keep (Span.in (by omega) ho4.size) (fun g hg => ho4.block g hg.2 (fun e => by have h1 := hg.1; cases e; omega))⟩)
  rw [← hW4]
  clear hW4 hop4 ho4 q0 q1 q2 q3 q4 q5 q6 q7 q8
  have HY4 := Lib.hid hY4
  obtain ⟨⟨y0, y1, y2, y3, y4, y5, y6, y7, y8⟩, -⟩ := nine_blk (show W4.heap[bb]? = some (.cells #[.int .i64 (9), .int .i64 0, .string ⟨#[]⟩, .string ⟨nm.toArray⟩, .slice pa pp.length pc, .slice none 0 0, .slice none 0 0, .bool false, .slice none 0 0] 56 (0, 0)) from hY4.op)
  have hbl4 := (Array.getElem?_eq_some_iff.1 hY4.op).1
  obtain ⟨⟨p0, p1, p2, p3, p4, p5, p6, p7, p8⟩, ⟨f0, f1, f2, f3, f4, f5, f6, f7, f8⟩⟩ := nine_blk (show W4.heap[w.heap.size]? = some (.cells #[.int .i64 0, .int .i64 0, .string ⟨#[]⟩, .string ⟨#[]⟩, .slice none 0 0, .slice none 0 0, .slice none 0 0, .bool false, .slice none 0 0] 56 (0, 0)) from hY4.res)
  clear hY4
  go_wp2
  exact bodyPost_ret (results_cell_row rfl _ _ w.heap.size 56 _ (0, 0) _ rfl (put9_at (show W4.heap[w.heap.size]? = some (.cells #[.int .i64 0, .int .i64 0, .string ⟨#[]⟩, .string ⟨#[]⟩, .slice none 0 0, .slice none 0 0, .slice none 0 0, .bool false, .slice none 0 0] 56 (0, 0)) from HY4.out.res) (⟨9, 0, ⟨#[]⟩, ⟨nm.toArray⟩, pa, pp.length, pc, none, 0, 0, none, 0, 0, false, none, 0, 0⟩ : C9)) Tryz.underlying56 rfl (by kernel_rfl)) rfl (HY4.out.fin hrb HR4.out HV4.out (put9_only W4 w.heap.size (⟨9, 0, ⟨#[]⟩, ⟨nm.toArray⟩, pa, pp.length, pc, none, 0, 0, none, 0, 0, false, none, 0, 0⟩ : C9)))
set_option maxRecDepth 100000 in
set_option maxHeartbeats 4000000 in
theorem act_set3 (w : World) (rb : Nat) (r : R) (h : RdE w rb r 0) (hE : Env w rb) (hlen : r.ws.length ≤ 1000) (hk : (kindR r).1 = 3) (hl1 : (kindR r).2.ws.length ≤ r.ws.length) (h3w : 3 ≤ (kindR r).2.ws.length) :
    Calls Tryz.prog 107 #[.pointer (some ⟨rb, 0, none⟩)] w (ActP w rb 0 (actionR r)) := by
  have hrb := h.lt
  obtain ⟨W0, hW0⟩ : ∃ W0, W0 = w.alloc (.cells z9 56) := ⟨_, rfl⟩
  have hb0 : Below w.heap.size w W0 := by rw [hW0]; exact (Below.refl _ _).alloc (Nat.le_refl _) _
  have CK := kind_any W0 rb r 0 (h.keep hb0) (hE.below hb0)
  have hE0 := hE.below hb0
  generalize hkr : kindR r = kr at *
  obtain ⟨k, r1⟩ := kr
  simp only at hk hl1 h3w
  subst hk
  have hact : actionR r = actGo (3) r1 := by unfold actionR; rw [hkr]
  rw [hact, show actGo 3 r1 = pipedR 3 ((r1.step).at_ 0).text r1.step.step.step from rfl]
  have CG := fun w' (h' : RdE w' rb r1 0) => assigned_any w' rb r1 0 h' h3w
  have e1 := step_len r1
  have e2 := step_len r1.step
  have e3 := step_len r1.step.step
  unfold pipedR
  generalize r1.step.step.step = r2 at *
  generalize (r1.step.at_ 0).text = nm at *
  have HG := Lib.hid CG; clear CG
  have CP := fun w' (h' : RdE w' rb r2 0) (hE' : Env w' rb) => reader_pipe w' rb r2 h' hE' (by omega)
  generalize pipeR r2 = pp at *
  obtain ⟨pp, r3⟩ := pp
  have HP := Lib.hid CP; clear CP
  have HW0 := Lib.hid hW0; have HK := Lib.hid CK; have HE0 := Lib.hid hE0; have HEW := Lib.hid hE
  clear hW0 hb0 h hE CK hE0 hact hkr
  unfold z9 at HW0
  go_enter Tryz.func107, Tryz.ntmps107
  go_upto_region 1 with fail
  rw [← HW0.out]
  go_upto_region 2 with (go_at_call 151; (refine HK.out.mono ?_); rintro e w1 ⟨rfl, h1, o1⟩; have H1 := Lib.hid h1; have O1 := Lib.hid o1; clear h1 o1)
  obtain ⟨W2, hW2⟩ : ∃ W2, W2 = w1.alloc (.cells #[.int .i64 (3), .int .i64 0, .string ⟨#[]⟩, .string ⟨#[]⟩, .slice none 0 0, .slice none 0 0, .slice none 0 0, .bool false, .slice none 0 0] 56) := ⟨_, rfl⟩
  have hY2 : LayN w W2 rb w1.heap.size (⟨3, 0, ⟨#[]⟩, ⟨#[]⟩, none, 0, 0, none, 0, 0, none, 0, 0, false, none, 0, 0⟩ : C9) := by rw [hW2]; exact LayN.start (c := (⟨3, 0, ⟨#[]⟩, ⟨#[]⟩, none, 0, 0, none, 0, 0, none, 0, 0, false, none, 0, 0⟩ : C9)) HW0.out O1.out hrb
  have hR2 : RdE W2 rb r1 0 := by rw [hW2]; exact H1.out.keep ((Below.refl _ _).alloc (Nat.le_refl _) _)
  have hE2 : Env W2 rb := by rw [hW2]; exact (HE0.out.only O1.out).only (Only.alloc rb _ _)
  rw [← hW2]
  clear hW2
  generalize w1.heap.size = bb at *
  have hop2 : W2.heap[bb]? = some (.cells #[.int .i64 (3), .int .i64 0, .string ⟨#[]⟩, .string ⟨#[]⟩, .slice none 0 0, .slice none 0 0, .slice none 0 0, .bool false, .slice none 0 0] 56 (0, 0)) := hY2.op
  obtain ⟨⟨q0, q1, q2, q3, q4, q5, q6, q7, q8⟩, -⟩ := nine_blk hop2
  have HY2 := Lib.hid hY2; have HR2 := Lib.hid hR2; have HO2 := Lib.hid hop2; have HE2 := Lib.hid hE2
  have hbl2 := (Array.getElem?_eq_some_iff.1 hop2).1
  have hbn : w.heap.size < bb := hY2.lt
  clear hY2 hop2 hR2 hE2
  go_upto_region 21 with (go_at_call 153; (refine (HG.out W2 HR2.out).mono ?_); rintro e w3 ⟨rfl, h3, o3⟩; unfold str; have Y3 := Lib.hid (HY2.out.keep o3 hrb); have H3 := Lib.hid h3; have O3 := Lib.hid o3; have hop3 := o3.blk HO2.out (by omega); obtain ⟨⟨x0, x1, x2, x3, x4, x5, x6, x7, x8⟩, ⟨g0, g1, g2, g3, g4, g5, g6, g7, g8⟩⟩ := nine_blk hop3; have hbl3 := (Array.getElem?_eq_some_iff.1 hop3).1; have HO3 := Lib.hid hop3; clear h3 o3 hop3)
  obtain ⟨W3, hW3⟩ : ∃ W3, W3 = w3.setCell ⟨bb, 3, none⟩ (.string ⟨nm.toArray⟩) := ⟨_, rfl⟩
  have ho3' : Only bb w3 W3 := by rw [hW3]; exact (Only.refl bb w3).setCell _ _
  have hop3' : W3.heap[bb]? = some (.cells #[.int .i64 (3), .int .i64 0, .string ⟨#[]⟩, .string ⟨nm.toArray⟩, .slice none 0 0, .slice none 0 0, .slice none 0 0, .bool false, .slice none 0 0] 56 (0, 0)) := by rw [hW3]; simp [World.setCell, Array.getElem?_modify, HO3.out]
  have hY3 : LayN w W3 rb bb (⟨3, 0, ⟨#[]⟩, ⟨nm.toArray⟩, none, 0, 0, none, 0, 0, none, 0, 0, false, none, 0, 0⟩ : C9) := Y3.out.set ho3' hop3'
  have HRN := Lib.hid (show RdE W3 rb r2 0 from H3.out.row ho3' (fun k e => by cases e; omega))
  have HEN := Lib.hid (HEW.out.only hY3.only)
  rw [← hW3]
  have HYN := Lib.hid hY3; have HON := Lib.hid hop3'
  clear hW3 hop3' ho3' hY3 q0 q1 q2 q3 q4 q5 q6 q7 q8 x0 x1 x2 x3 x4 x5 x6 x7 x8 g0 g1 g2 g3 g4 g5 g6 g7 g8
  obtain ⟨⟨q0, q1, q2, q3, q4, q5, q6, q7, q8⟩, -⟩ := nine_blk HON.out
  go_upto_region 22 with (first
    | (go_at_call 31; (refine (HP.out W3 HRN.out HEN.out).mono ?_); rintro e w5 ⟨pa, us, pc, rfl, h5, o5, hv⟩; have HV5 := Lib.hid hv; have Y5 := Lib.hid (HYN.out.keep o5 hrb); have H5 := Lib.hid h5; have O5 := Lib.hid o5; have hop5 := o5.blk HON.out (by omega); obtain ⟨⟨x0, x1, x2, x3, x4, x5, x6, x7, x8⟩, ⟨g0, g1, g2, g3, g4, g5, g6, g7, g8⟩⟩ := nine_blk hop5; have hbl5 := (Array.getElem?_eq_some_iff.1 hop5).1; have HO5 := Lib.hid hop5; clear h5 o5 hop5; clear hv))
  obtain ⟨W4, hW4⟩ : ∃ W4, W4 = w5.setCell ⟨bb, 4, none⟩ (.slice pa pp.length pc) := ⟨_, rfl⟩
  have ho4 : Only bb w5 W4 := by rw [hW4]; exact (Only.refl bb w5).setCell _ _
  have hop4 : W4.heap[bb]? = some (.cells ((⟨3, 0, ⟨#[]⟩, ⟨nm.toArray⟩, pa, pp.length, pc, none, 0, 0, none, 0, 0, false, none, 0, 0⟩ : C9)).cells.toArray 56 (0, 0)) := by rw [hW4]; simp [World.setCell, Array.getElem?_modify, HO5.out]; rfl
  have hY4 : LayN w W4 rb bb (⟨3, 0, ⟨#[]⟩, ⟨nm.toArray⟩, pa, pp.length, pc, none, 0, 0, none, 0, 0, false, none, 0, 0⟩ : C9) := Y5.out.set ho4 hop4
  have hs3 := HYN.out.only.size
  have hbl3' := (Array.getElem?_eq_some_iff.1 HON.out).1
  have HR4 := Lib.hid (show RdE W4 rb r3 0 from H5.out.row ho4 (fun k e => by cases e; omega))
  have HV4 := Lib.hid (show ActV W4 (Span (w.heap.size + 1) W4.heap.size) ⟨3, nm, pp⟩ _ from ⟨pa, pc, us, rfl, HV5.out.keep (Span.in (by omega) ho4.size) (fun g hg => ho4.block g hg.2 (fun e => by have h1 := hg.1; cases e; omega))⟩)
  rw [← hW4]
  clear hW4 hop4 ho4 q0 q1 q2 q3 q4 q5 q6 q7 q8
  have HY4 := Lib.hid hY4
  obtain ⟨⟨y0, y1, y2, y3, y4, y5, y6, y7, y8⟩, -⟩ := nine_blk (show W4.heap[bb]? = some (.cells #[.int .i64 (3), .int .i64 0, .string ⟨#[]⟩, .string ⟨nm.toArray⟩, .slice pa pp.length pc, .slice none 0 0, .slice none 0 0, .bool false, .slice none 0 0] 56 (0, 0)) from hY4.op)
  have hbl4 := (Array.getElem?_eq_some_iff.1 hY4.op).1
  obtain ⟨⟨p0, p1, p2, p3, p4, p5, p6, p7, p8⟩, ⟨f0, f1, f2, f3, f4, f5, f6, f7, f8⟩⟩ := nine_blk (show W4.heap[w.heap.size]? = some (.cells #[.int .i64 0, .int .i64 0, .string ⟨#[]⟩, .string ⟨#[]⟩, .slice none 0 0, .slice none 0 0, .slice none 0 0, .bool false, .slice none 0 0] 56 (0, 0)) from hY4.res)
  clear hY4
  go_wp2
  exact bodyPost_ret (results_cell_row rfl _ _ w.heap.size 56 _ (0, 0) _ rfl (put9_at (show W4.heap[w.heap.size]? = some (.cells #[.int .i64 0, .int .i64 0, .string ⟨#[]⟩, .string ⟨#[]⟩, .slice none 0 0, .slice none 0 0, .slice none 0 0, .bool false, .slice none 0 0] 56 (0, 0)) from HY4.out.res) (⟨3, 0, ⟨#[]⟩, ⟨nm.toArray⟩, pa, pp.length, pc, none, 0, 0, none, 0, 0, false, none, 0, 0⟩ : C9)) Tryz.underlying56 rfl (by kernel_rfl)) rfl (HY4.out.fin hrb HR4.out HV4.out (put9_only W4 w.heap.size (⟨3, 0, ⟨#[]⟩, ⟨nm.toArray⟩, pa, pp.length, pc, none, 0, 0, none, 0, 0, false, none, 0, 0⟩ : C9)))
set_option maxRecDepth 100000 in
set_option maxHeartbeats 4000000 in
theorem act_set4 (w : World) (rb : Nat) (r : R) (h : RdE w rb r 0) (hE : Env w rb) (hlen : r.ws.length ≤ 1000) (hk : (kindR r).1 = 4) (hl1 : (kindR r).2.ws.length ≤ r.ws.length) (h3w : 3 ≤ (kindR r).2.ws.length) :
    Calls Tryz.prog 107 #[.pointer (some ⟨rb, 0, none⟩)] w (ActP w rb 0 (actionR r)) := by
  have hrb := h.lt
  obtain ⟨W0, hW0⟩ : ∃ W0, W0 = w.alloc (.cells z9 56) := ⟨_, rfl⟩
  have hb0 : Below w.heap.size w W0 := by rw [hW0]; exact (Below.refl _ _).alloc (Nat.le_refl _) _
  have CK := kind_any W0 rb r 0 (h.keep hb0) (hE.below hb0)
  have hE0 := hE.below hb0
  generalize hkr : kindR r = kr at *
  obtain ⟨k, r1⟩ := kr
  simp only at hk hl1 h3w
  subst hk
  have hact : actionR r = actGo (4) r1 := by unfold actionR; rw [hkr]
  rw [hact, show actGo 4 r1 = pipedR 4 ((r1.step).at_ 0).text r1.step.step.step from rfl]
  have CG := fun w' (h' : RdE w' rb r1 0) => assigned_any w' rb r1 0 h' h3w
  have e1 := step_len r1
  have e2 := step_len r1.step
  have e3 := step_len r1.step.step
  unfold pipedR
  generalize r1.step.step.step = r2 at *
  generalize (r1.step.at_ 0).text = nm at *
  have HG := Lib.hid CG; clear CG
  have CP := fun w' (h' : RdE w' rb r2 0) (hE' : Env w' rb) => reader_pipe w' rb r2 h' hE' (by omega)
  generalize pipeR r2 = pp at *
  obtain ⟨pp, r3⟩ := pp
  have HP := Lib.hid CP; clear CP
  have HW0 := Lib.hid hW0; have HK := Lib.hid CK; have HE0 := Lib.hid hE0; have HEW := Lib.hid hE
  clear hW0 hb0 h hE CK hE0 hact hkr
  unfold z9 at HW0
  go_enter Tryz.func107, Tryz.ntmps107
  go_upto_region 1 with fail
  rw [← HW0.out]
  go_upto_region 2 with (go_at_call 151; (refine HK.out.mono ?_); rintro e w1 ⟨rfl, h1, o1⟩; have H1 := Lib.hid h1; have O1 := Lib.hid o1; clear h1 o1)
  obtain ⟨W2, hW2⟩ : ∃ W2, W2 = w1.alloc (.cells #[.int .i64 (4), .int .i64 0, .string ⟨#[]⟩, .string ⟨#[]⟩, .slice none 0 0, .slice none 0 0, .slice none 0 0, .bool false, .slice none 0 0] 56) := ⟨_, rfl⟩
  have hY2 : LayN w W2 rb w1.heap.size (⟨4, 0, ⟨#[]⟩, ⟨#[]⟩, none, 0, 0, none, 0, 0, none, 0, 0, false, none, 0, 0⟩ : C9) := by rw [hW2]; exact LayN.start (c := (⟨4, 0, ⟨#[]⟩, ⟨#[]⟩, none, 0, 0, none, 0, 0, none, 0, 0, false, none, 0, 0⟩ : C9)) HW0.out O1.out hrb
  have hR2 : RdE W2 rb r1 0 := by rw [hW2]; exact H1.out.keep ((Below.refl _ _).alloc (Nat.le_refl _) _)
  have hE2 : Env W2 rb := by rw [hW2]; exact (HE0.out.only O1.out).only (Only.alloc rb _ _)
  rw [← hW2]
  clear hW2
  generalize w1.heap.size = bb at *
  have hop2 : W2.heap[bb]? = some (.cells #[.int .i64 (4), .int .i64 0, .string ⟨#[]⟩, .string ⟨#[]⟩, .slice none 0 0, .slice none 0 0, .slice none 0 0, .bool false, .slice none 0 0] 56 (0, 0)) := hY2.op
  obtain ⟨⟨q0, q1, q2, q3, q4, q5, q6, q7, q8⟩, -⟩ := nine_blk hop2
  have HY2 := Lib.hid hY2; have HR2 := Lib.hid hR2; have HO2 := Lib.hid hop2; have HE2 := Lib.hid hE2
  have hbl2 := (Array.getElem?_eq_some_iff.1 hop2).1
  have hbn : w.heap.size < bb := hY2.lt
  clear hY2 hop2 hR2 hE2
  go_upto_region 21 with (go_at_call 153; (refine (HG.out W2 HR2.out).mono ?_); rintro e w3 ⟨rfl, h3, o3⟩; unfold str; have Y3 := Lib.hid (HY2.out.keep o3 hrb); have H3 := Lib.hid h3; have O3 := Lib.hid o3; have hop3 := o3.blk HO2.out (by omega); obtain ⟨⟨x0, x1, x2, x3, x4, x5, x6, x7, x8⟩, ⟨g0, g1, g2, g3, g4, g5, g6, g7, g8⟩⟩ := nine_blk hop3; have hbl3 := (Array.getElem?_eq_some_iff.1 hop3).1; have HO3 := Lib.hid hop3; clear h3 o3 hop3)
  obtain ⟨W3, hW3⟩ : ∃ W3, W3 = w3.setCell ⟨bb, 3, none⟩ (.string ⟨nm.toArray⟩) := ⟨_, rfl⟩
  have ho3' : Only bb w3 W3 := by rw [hW3]; exact (Only.refl bb w3).setCell _ _
  have hop3' : W3.heap[bb]? = some (.cells #[.int .i64 (4), .int .i64 0, .string ⟨#[]⟩, .string ⟨nm.toArray⟩, .slice none 0 0, .slice none 0 0, .slice none 0 0, .bool false, .slice none 0 0] 56 (0, 0)) := by rw [hW3]; simp [World.setCell, Array.getElem?_modify, HO3.out]
  have hY3 : LayN w W3 rb bb (⟨4, 0, ⟨#[]⟩, ⟨nm.toArray⟩, none, 0, 0, none, 0, 0, none, 0, 0, false, none, 0, 0⟩ : C9) := Y3.out.set ho3' hop3'
  have HRN := Lib.hid (show RdE W3 rb r2 0 from H3.out.row ho3' (fun k e => by cases e; omega))
  have HEN := Lib.hid (HEW.out.only hY3.only)
  rw [← hW3]
  have HYN := Lib.hid hY3; have HON := Lib.hid hop3'
  clear hW3 hop3' ho3' hY3 q0 q1 q2 q3 q4 q5 q6 q7 q8 x0 x1 x2 x3 x4 x5 x6 x7 x8 g0 g1 g2 g3 g4 g5 g6 g7 g8
  obtain ⟨⟨q0, q1, q2, q3, q4, q5, q6, q7, q8⟩, -⟩ := nine_blk HON.out
  go_upto_region 22 with (first
    | (go_at_call 31; (refine (HP.out W3 HRN.out HEN.out).mono ?_); rintro e w5 ⟨pa, us, pc, rfl, h5, o5, hv⟩; have HV5 := Lib.hid hv; have Y5 := Lib.hid (HYN.out.keep o5 hrb); have H5 := Lib.hid h5; have O5 := Lib.hid o5; have hop5 := o5.blk HON.out (by omega); obtain ⟨⟨x0, x1, x2, x3, x4, x5, x6, x7, x8⟩, ⟨g0, g1, g2, g3, g4, g5, g6, g7, g8⟩⟩ := nine_blk hop5; have hbl5 := (Array.getElem?_eq_some_iff.1 hop5).1; have HO5 := Lib.hid hop5; clear h5 o5 hop5; clear hv))
  obtain ⟨W4, hW4⟩ : ∃ W4, W4 = w5.setCell ⟨bb, 4, none⟩ (.slice pa pp.length pc) := ⟨_, rfl⟩
  have ho4 : Only bb w5 W4 := by rw [hW4]; exact (Only.refl bb w5).setCell _ _
  have hop4 : W4.heap[bb]? = some (.cells ((⟨4, 0, ⟨#[]⟩, ⟨nm.toArray⟩, pa, pp.length, pc, none, 0, 0, none, 0, 0, false, none, 0, 0⟩ : C9)).cells.toArray 56 (0, 0)) := by rw [hW4]; simp [World.setCell, Array.getElem?_modify, HO5.out]; rfl
  have hY4 : LayN w W4 rb bb (⟨4, 0, ⟨#[]⟩, ⟨nm.toArray⟩, pa, pp.length, pc, none, 0, 0, none, 0, 0, false, none, 0, 0⟩ : C9) := Y5.out.set ho4 hop4
  have hs3 := HYN.out.only.size
  have hbl3' := (Array.getElem?_eq_some_iff.1 HON.out).1
  have HR4 := Lib.hid (show RdE W4 rb r3 0 from H5.out.row ho4 (fun k e => by cases e; omega))
  have HV4 := Lib.hid (show ActV W4 (Span (w.heap.size + 1) W4.heap.size) ⟨4, nm, pp⟩ _ from ⟨pa, pc, us, rfl, HV5.out.keep (Span.in (by omega) ho4.size) (fun g hg => ho4.block g hg.2 (fun e => by have h1 := hg.1; cases e; omega))⟩)
  rw [← hW4]
  clear hW4 hop4 ho4 q0 q1 q2 q3 q4 q5 q6 q7 q8
  have HY4 := Lib.hid hY4
  obtain ⟨⟨y0, y1, y2, y3, y4, y5, y6, y7, y8⟩, -⟩ := nine_blk (show W4.heap[bb]? = some (.cells #[.int .i64 (4), .int .i64 0, .string ⟨#[]⟩, .string ⟨nm.toArray⟩, .slice pa pp.length pc, .slice none 0 0, .slice none 0 0, .bool false, .slice none 0 0] 56 (0, 0)) from hY4.op)
  have hbl4 := (Array.getElem?_eq_some_iff.1 hY4.op).1
  obtain ⟨⟨p0, p1, p2, p3, p4, p5, p6, p7, p8⟩, ⟨f0, f1, f2, f3, f4, f5, f6, f7, f8⟩⟩ := nine_blk (show W4.heap[w.heap.size]? = some (.cells #[.int .i64 0, .int .i64 0, .string ⟨#[]⟩, .string ⟨#[]⟩, .slice none 0 0, .slice none 0 0, .slice none 0 0, .bool false, .slice none 0 0] 56 (0, 0)) from hY4.res)
  clear hY4
  go_wp2
  exact bodyPost_ret (results_cell_row rfl _ _ w.heap.size 56 _ (0, 0) _ rfl (put9_at (show W4.heap[w.heap.size]? = some (.cells #[.int .i64 0, .int .i64 0, .string ⟨#[]⟩, .string ⟨#[]⟩, .slice none 0 0, .slice none 0 0, .slice none 0 0, .bool false, .slice none 0 0] 56 (0, 0)) from HY4.out.res) (⟨4, 0, ⟨#[]⟩, ⟨nm.toArray⟩, pa, pp.length, pc, none, 0, 0, none, 0, 0, false, none, 0, 0⟩ : C9)) Tryz.underlying56 rfl (by kernel_rfl)) rfl (HY4.out.fin hrb HR4.out HV4.out (put9_only W4 w.heap.size (⟨4, 0, ⟨#[]⟩, ⟨nm.toArray⟩, pa, pp.length, pc, none, 0, 0, none, 0, 0, false, none, 0, 0⟩ : C9)))
theorem verbs_are (s : List UInt8) (k : Int) (h : verbK s = some k) : k = 5 ∨ k = 6 ∨ k = 7 ∨ k = 8 ∨ k = -1 ∨ k = -2 ∨ k = -3 ∨ k = 9 ∨ k = -4 := by
  unfold verbK at h
  cases hf : verbsL.find? (fun p => decide (p.1 = s)) with
  | none => rw [hf] at h; cases h
  | some p =>
    rw [hf] at h
    have hp := List.mem_of_find?_eq_some hf
    obtain rfl : p.2 = k := by simpa using h
    simp only [verbsL, List.mem_cons, List.not_mem_nil, or_false] at hp
    rcases hp with rfl | rfl | rfl | rfl | rfl | rfl | rfl | rfl | rfl <;> simp
theorem kindR_len (r : R) : (kindR r).2.ws.length ≤ r.ws.length := by
  unfold kindR
  split
  · exact step_len r
  split
  · split
    · exact Nat.le_refl _
    · split <;> exact Nat.le_refl _
  · exact Nat.le_refl _
theorem kindR_is (r : R) : ((kindR r).1 = 5 ∨ (kindR r).1 = 6 ∨ (kindR r).1 = 7 ∨ (kindR r).1 = 8 ∨ (kindR r).1 = 2 ∨ (kindR r).1 = -1 ∨ (kindR r).1 = -2 ∨ (kindR r).1 = -3 ∨ (kindR r).1 = 9 ∨ (kindR r).1 = -4) ∨ (((kindR r).1 = 3 ∨ (kindR r).1 = 4) ∧ 3 ≤ (kindR r).2.ws.length) := by
  unfold kindR
  split
  · rename_i h
    cases hv : verbK (r.at_ 0).text with
    | none => rw [hv] at h; simp at h
    | some k => have := verbs_are _ k hv; simp only [Option.getD_some]; omega
  split
  · split
    · rename_i h; exact .inr ⟨.inl rfl, at_pos r 2 (by unfold isS at h; simp only [Bool.and_eq_true, decide_eq_true_eq] at h; omega)⟩
    · split
      · rename_i h; exact .inr ⟨.inr rfl, at_pos r 2 (by unfold isS at h; simp only [Bool.and_eq_true, decide_eq_true_eq] at h; omega)⟩
      · exact .inl (by simp)
  · exact .inl (by simp)
/-- An action. -/
theorem action_any (w : World) (rb : Nat) (r : R) (h : RdE w rb r 0) (hE : Env w rb) (hlen : r.ws.length ≤ 1000) :
    Calls Tryz.prog 107 #[.pointer (some ⟨rb, 0, none⟩)] w (ActP w rb 0 (actionR r)) := by
  have hl := kindR_len r
  rcases kindR_is r with (hk | hk | hk | hk | hk | hk | hk | hk | hk | hk) | ⟨hk | hk, h3⟩
  · exact act_5 w rb r h hE hlen hk hl
  · exact act_6 w rb r h hE hlen hk hl
  · exact act_7 w rb r h hE hlen hk hl
  · exact act_8 w rb r h hE hlen hk hl
  · exact act_2 w rb r h hE hlen hk hl
  · exact act_else w rb r h hE hlen hk hl
  · exact act_end w rb r h hE hlen hk hl
  · exact act_case w rb r h hE hlen hk hl
  · by_cases hed : (need 2 (kindR r).2).2.ws.length = 0
    · exact act_call0 w rb r h hE hlen hk hl hed
    · exact act_call1 w rb r h hE hlen hk hl hed
  · exact act_define w rb r h hE hlen hk hl
  · exact act_set3 w rb r h hE hlen hk hl h3
  · exact act_set4 w rb r h hE hlen hk hl h3
end Tr
end Go.Proofs.YtlfbcaenlifmkaaGreatDoor
