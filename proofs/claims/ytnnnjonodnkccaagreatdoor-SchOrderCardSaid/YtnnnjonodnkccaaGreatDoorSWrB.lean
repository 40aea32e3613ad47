/- The writer's oneType: every type; TypeText. -/
import Derived.Test.YtnnnjonodnkccaaGreatDoorSWr
namespace Go.Proofs.YtnnnjonodnkccaaGreatDoor
open Go.RowKit
namespace Sh
open Sc

theorem two_blk {w : World} {b : Nat} {t : TypeId} {v0 v1 : Value} (h : w.heap[b]? = some (.cells #[v0, v1] t (0, 0))) : w.cell? ⟨b, 0, none⟩ = some v0 ∧ w.cell? ⟨b, 1, none⟩ = some v1 := by
  refine ⟨?_, ?_⟩ <;> simp [World.cell?, h]

/-- The start: the type boxed, a type less to come. -/
structure Bx (w W : World) (wb : Nat) (c : C4) (bs : List UInt8) (m : Nat) : Prop where
  wt : Wt W wb bs (m : Int)
  eff : Eff wb w W
  box : W.heap[w.heap.size]? = some (.cells c.cells.toArray 29 (0, 0))
theorem Bx.start {w : World} {wb : Nat} {c : C4} {bs : List UInt8} {m : Nat} (h : Wt w wb bs ((m : Int) + 1)) : Bx w ((w.setCell ⟨wb, 2, none⟩ (.int .i64 m)).alloc (.cells c.cells.toArray 29)) wb c bs m := by
  have hl := h.lt
  refine ⟨h.setLeft.alloc _, ((Eff.refl wb w).setCell 2 _).alloc _ (by simp; omega), ?_⟩
  have := heap_alloc_new (w.setCell ⟨wb, 2, none⟩ (.int .i64 m)) (.cells c.cells.toArray 29)
  simpa using this
theorem Bx.keep {w W W' : World} {wb : Nat} {c : C4} {bs bs' : List UInt8} {m m' : Nat} (h : Bx w W wb c bs m) (hw : Wt W' wb bs' (m' : Int)) (he : Eff wb W W') (hwb : wb < w.heap.size) : Bx w W' wb c bs' m' :=
  ⟨hw, h.eff.trans he, he.oth w.heap.size _ (by omega) h.box (notB_cells _ _ _ (by decide))⟩
theorem Bx.alloc {w W : World} {wb : Nat} {c : C4} {bs : List UInt8} {m : Nat} (h : Bx w W wb c bs m) (o : Obj) (hwb : wb < w.heap.size) : Bx w (W.alloc o) wb c bs m :=
  h.keep (h.wt.alloc o) ((Eff.refl wb W).alloc o (by have := h.wt.lt; omega)) hwb
theorem Bx.below {w W W' : World} {wb : Nat} {c : C4} {bs : List UInt8} {m : Nat} (h : Bx w W wb c bs m) (hb : Below W.heap.size W W') (hwb : wb < w.heap.size) : Bx w W' wb c bs m := by
  have hl := h.wt.lt
  refine h.keep ?_ ⟨hb.mono (by omega), fun k o hn ho _ => (hb.block k (Array.getElem?_eq_some_iff.1 ho).1).trans ho⟩ hwb
  obtain ⟨p, v, hp, hbk, ho⟩ := h.wt
  refine ⟨p, v, hp, (hb.block wb hl).trans hbk, ?_⟩
  refine ho.kept (row := none) ⟨hb.os, hb.tape, hb.output, hb.size, fun k hk _ => hb.block k hk⟩ ?_
  cases v.ownBlock <;> simp

set_option maxRecDepth 100000 in
set_option maxHeartbeats 2000000 in
/-- A word alone. -/
theorem wr_word (w : World) (wb : Nat) (bs : List UInt8) (R k : Nat) (n : List UInt8) (ns : List (List UInt8)) (ks : List Ty) (c : C4) (S : Nat → Prop) (hv : TyV w S (.mk k n ns ks) c) (hS : ∀ g, S g → g < wb) (hL : LookTab w) (hg : 0 < wb) (hk : k ≤ 9)
    (h : Wt w wb bs (((R + sizeK ks : Nat) : Int) + 1)) (hR : R + sizeK ks ≤ 70000) (txt : List UInt8) (htx : lkw k = txt) (hlen : bs.length + txt.length ≤ 100000000) (hf : lkf k = 0) (h9 : k ≠ 9) :
    Calls Tryz.prog 38 #[.pointer (some ⟨wb, 0, none⟩), c.val] w (WrP w wb (bs ++ txt) ((R + sizeK ks : Nat) : Int)) := by
  have hwb := h.lt
  have hv0 := hv
  cases hv with
  | mk _ _ _ _ an cn ak ck us hl hn hkk hu =>
  clear hl hn hkk hu
  have HV := Lib.hid hv0; have HS := Lib.hid hS; have HL := Lib.hid hL; have HTX := Lib.hid htx
  clear hv0 hS hL htx
  obtain ⟨m, hm⟩ : ∃ m, R + sizeK ks = m := ⟨_, rfl⟩
  have hmm : m ≤ 70000 := by omega
  have HM := Lib.hid hm
  rw [hm] at h
  clear hm hR
  have HX := Lib.hid (Bx.start (c := ⟨k, ⟨n.toArray⟩, an, ns.length, cn, ak, ks.length, ck⟩) h)
  obtain ⟨l2, f2⟩ := h.reader
  clear h
  have hff := field_form
  have hkf : (lkf k : Int) = 0 := by rw [hf]; rfl
  have HF := Lib.hid hkf
  have t9 : ((k : Int) == 9) = false := by simp; omega
  clear hkf hf h9
  unfold C4.val C4.cells at *
  have hx0 := HX.out.wt.lt
  go_enter Tryz.func38, Tryz.ntmps38
  go_wp2_with (first
    | (go_at_call 48; (refine (look_form _ (look_below HL.out HX.out.eff.bel hg) k 0 (by omega) HF.out).mono ?_); rintro e w2 ⟨rfl, b2⟩; have X2 := Lib.hid ((HX.out.below b2 hwb).alloc (.cells #[.string ⟨(lkw k).toArray⟩, .int .i64 0] 103) hwb); have K2 := Lib.hid (heap_alloc_new w2 (.cells #[.string ⟨(lkw k).toArray⟩, .int .i64 0] 103)); have P2 : Hid (Calls Tryz.prog 56 #[.pointer (some ⟨wb, 0, none⟩), .string ⟨(lkw k).toArray⟩] _ _) := put_any wb _ bs (lkw k) m X2.out.wt (by have := congrArg List.length HTX.out; (try simp only [List.length_append] at this); omega); have s2 : wb < w2.heap.size := (HX.out.below b2 hwb).wt.lt; clear b2)
    | (go_at_call 56; (with_reducible refine P2.out.mono ?_); rintro e w3 ⟨rfl, h3, e3⟩; have X3 := Lib.hid (X2.out.keep h3 e3 hwb); have K3 := Lib.hid (e3.oth w2.heap.size _ (by omega) K2.out (notB_cells _ _ _ (by decide))); obtain ⟨r0, r1⟩ := two_blk K3.out; obtain ⟨⟨q0, q1, q2, q3⟩, z0, z1, z2, z3⟩ := four_blk X3.out.box; clear h3 e3))
  go_end0
  rw [← HTX.out]
  exact ⟨rfl, by rw [HM.out]; exact X3.out.wt, X3.out.eff⟩

set_option maxRecDepth 100000 in
set_option maxHeartbeats 2000000 in
/-- A name. -/
theorem wr_name (w : World) (wb : Nat) (bs : List UInt8) (R k : Nat) (n : List UInt8) (ns : List (List UInt8)) (ks : List Ty) (c : C4) (S : Nat → Prop) (hv : TyV w S (.mk k n ns ks) c) (hS : ∀ g, S g → g < wb) (hL : LookTab w) (hg : 0 < wb) (hk : k ≤ 9)
    (h : Wt w wb bs (((R + sizeK ks : Nat) : Int) + 1)) (hR : R + sizeK ks ≤ 70000) (txt : List UInt8) (htx : lkw k ++ n = txt) (hlen : bs.length + txt.length ≤ 100000000) (h9 : k = 9) :
    Calls Tryz.prog 38 #[.pointer (some ⟨wb, 0, none⟩), c.val] w (WrP w wb (bs ++ txt) ((R + sizeK ks : Nat) : Int)) := by
  have hwb := h.lt
  have hv0 := hv
  cases hv with
  | mk _ _ _ _ an cn ak ck us hl hn hkk hu =>
  clear hl hn hkk hu
  have HV := Lib.hid hv0; have HS := Lib.hid hS; have HL := Lib.hid hL; have HTX := Lib.hid htx
  clear hv0 hS hL htx
  obtain ⟨m, hm⟩ : ∃ m, R + sizeK ks = m := ⟨_, rfl⟩
  have hmm : m ≤ 70000 := by omega
  have HM := Lib.hid hm
  rw [hm] at h
  clear hm hR
  have HX := Lib.hid (Bx.start (c := ⟨k, ⟨n.toArray⟩, an, ns.length, cn, ak, ks.length, ck⟩) h)
  obtain ⟨l2, f2⟩ := h.reader
  clear h
  have hff := field_form
  have hkf : (lkf k : Int) = 0 := by rw [h9]; rfl
  have HF := Lib.hid hkf
  have t9 : ((k : Int) == 9) = true := by simp [h9]
  clear hkf h9
  unfold C4.val C4.cells at *
  have hx0 := HX.out.wt.lt
  go_enter Tryz.func38, Tryz.ntmps38
  go_wp2_with (first
    | (go_at_call 48; (refine (look_form _ (look_below HL.out HX.out.eff.bel hg) k 0 (by omega) HF.out).mono ?_); rintro e w2 ⟨rfl, b2⟩; have X2 := Lib.hid ((HX.out.below b2 hwb).alloc (.cells #[.string ⟨(lkw k).toArray⟩, .int .i64 0] 103) hwb); have K2 := Lib.hid (heap_alloc_new w2 (.cells #[.string ⟨(lkw k).toArray⟩, .int .i64 0] 103)); have P2 : Hid (Calls Tryz.prog 56 #[.pointer (some ⟨wb, 0, none⟩), .string ⟨(lkw k).toArray⟩] _ _) := put_any wb _ bs (lkw k) m X2.out.wt (by have := congrArg List.length HTX.out; (try simp only [List.length_append] at this); omega); have s2 : wb < w2.heap.size := (HX.out.below b2 hwb).wt.lt; clear b2)
    | (go_at_call 56; (with_reducible refine P2.out.mono ?_); rintro e w3 ⟨rfl, h3, e3⟩; have X3 := Lib.hid (X2.out.keep h3 e3 hwb); have K3 := Lib.hid (e3.oth w2.heap.size _ (by omega) K2.out (notB_cells _ _ _ (by decide))); obtain ⟨r0, r1⟩ := two_blk K3.out; obtain ⟨⟨q0, q1, q2, q3⟩, z0, z1, z2, z3⟩ := four_blk X3.out.box; clear h3 e3; have P3 : Hid (Calls Tryz.prog 56 #[.pointer (some ⟨wb, 0, none⟩), .string ⟨n.toArray⟩] w3 _) := put_any wb w3 _ n m X3.out.wt (by have := congrArg List.length HTX.out; (try simp only [List.length_append, List.length_cons, List.length_nil] at this); (try simp only [List.length_append, List.length_cons, List.length_nil]); omega))
    | (go_at_call 56; (with_reducible refine P3.out.mono ?_); rintro e w4 ⟨rfl, h4, e4⟩; have X4 := Lib.hid (X3.out.keep h4 e4 hwb); clear h4 e4))
  go_end0
  rw [← HTX.out, ← List.append_assoc]
  exact ⟨rfl, by rw [HM.out]; exact X4.out.wt, X4.out.eff⟩

set_option maxRecDepth 100000 in
set_option maxHeartbeats 2000000 in
/-- A type in angle brackets. -/
theorem wr_hold (w : World) (wb : Nat) (bs : List UInt8) (R k : Nat) (n : List UInt8) (ns : List (List UInt8)) (ks : List Ty) (c : C4) (S : Nat → Prop) (hv : TyV w S (.mk k n ns ks) c) (hS : ∀ g, S g → g < wb) (hL : LookTab w) (hg : 0 < wb) (hk : k ≤ 9)
    (h : Wt w wb bs (((R + sizeK ks : Nat) : Int) + 1)) (hR : R + sizeK ks ≤ 70000) (txt : List UInt8) (htx : lkw k ++ [60] ++ kidsT true ns ks ++ [62] = txt) (hlen : bs.length + txt.length ≤ 100000000) (hf : lkf k = 1) (ih : ∀ k (hk : k < ks.length), TyW ks[k]) :
    Calls Tryz.prog 38 #[.pointer (some ⟨wb, 0, none⟩), c.val] w (WrP w wb (bs ++ txt) R) := by
  have hwb := h.lt
  have hv0 := hv
  cases hv with
  | mk _ _ _ _ an cn ak ck us hl hn hkk hu =>
  clear hl hn hkk hu
  have HV := Lib.hid hv0; have HS := Lib.hid hS; have HL := Lib.hid hL; have HTX := Lib.hid htx
  clear hv0 hS hL htx
  obtain ⟨m, hm⟩ : ∃ m, R + sizeK ks = m := ⟨_, rfl⟩
  have hmm : m ≤ 70000 := by omega
  have HM := Lib.hid hm
  rw [hm] at h
  clear hm hR
  have HX := Lib.hid (Bx.start (c := ⟨k, ⟨n.toArray⟩, an, ns.length, cn, ak, ks.length, ck⟩) h)
  obtain ⟨l2, f2⟩ := h.reader
  clear h
  have hff := field_form
  have hkf : (lkf k : Int) = 1 := by rw [hf]; rfl
  have HF := Lib.hid hkf
  clear hkf hf
  unfold C4.val C4.cells at *
  have hx0 := HX.out.wt.lt
  go_enter Tryz.func38, Tryz.ntmps38
  go_wp2_with (first
    | (go_at_call 48; (refine (look_form _ (look_below HL.out HX.out.eff.bel hg) k 1 (by omega) HF.out).mono ?_); rintro e w2 ⟨rfl, b2⟩; have X2 := Lib.hid ((HX.out.below b2 hwb).alloc (.cells #[.string ⟨(lkw k).toArray⟩, .int .i64 1] 103) hwb); have K2 := Lib.hid (heap_alloc_new w2 (.cells #[.string ⟨(lkw k).toArray⟩, .int .i64 1] 103)); have P2 : Hid (Calls Tryz.prog 56 #[.pointer (some ⟨wb, 0, none⟩), .string ⟨(lkw k).toArray⟩] _ _) := put_any wb _ bs (lkw k) m X2.out.wt (by have := congrArg List.length HTX.out; (try simp only [List.length_append] at this); omega); have s2 : wb < w2.heap.size := (HX.out.below b2 hwb).wt.lt; clear b2)
    | (go_at_call 56; (with_reducible refine P2.out.mono ?_); rintro e w3 ⟨rfl, h3, e3⟩; have X3 := Lib.hid (X2.out.keep h3 e3 hwb); have K3 := Lib.hid (e3.oth w2.heap.size _ (by omega) K2.out (notB_cells _ _ _ (by decide))); obtain ⟨r0, r1⟩ := two_blk K3.out; obtain ⟨⟨q0, q1, q2, q3⟩, z0, z1, z2, z3⟩ := four_blk X3.out.box; clear h3 e3; have P3 : Hid (Calls Tryz.prog 56 #[.pointer (some ⟨wb, 0, none⟩), .string ⟨#[60]⟩] w3 _) := put_any wb w3 _ [60] m X3.out.wt (by have := congrArg List.length HTX.out; (try simp only [List.length_append, List.length_cons, List.length_nil] at this); (try simp only [List.length_append, List.length_cons, List.length_nil]); omega))
    | (go_at_call 56; (with_reducible refine P3.out.mono ?_); rintro e w4 ⟨rfl, h4, e4⟩; have X4 := Lib.hid (X3.out.keep h4 e4 hwb); clear q0 q1 q2 q3 z0 z1 z2 z3; obtain ⟨⟨q0, q1, q2, q3⟩, z0, z1, z2, z3⟩ := four_blk X4.out.box; clear h4 e4; have P4 := Lib.hid (kids_any w4 wb _ R k n ns ks _ S (HV.out.keep (fun _ h => h) (fun g hg => X4.out.eff.bel.block g (HS.out g hg))) HS.out (look_below HL.out X4.out.eff.bel hg) hg (by rw [HM.out]; exact X4.out.wt) (by rw [HM.out]; exact hmm) (by have := congrArg List.length HTX.out; (try simp only [List.length_append, List.length_cons, List.length_nil] at this); (try simp only [List.length_append, List.length_cons, List.length_nil]); omega) ih))
    | (go_at_call 57; (refine P4.out.mono ?_); rintro e w5 ⟨rfl, h4, e4⟩; have X5 := Lib.hid (X4.out.keep (m' := R) h4 e4 hwb); clear h4 e4; have P5 : Hid (Calls Tryz.prog 56 #[.pointer (some ⟨wb, 0, none⟩), .string ⟨#[62]⟩] w5 _) := put_any wb w5 _ [62] R X5.out.wt (by have := congrArg List.length HTX.out; (try simp only [List.length_append, List.length_cons, List.length_nil] at this); (try simp only [List.length_append, List.length_cons, List.length_nil]); omega))
    | (go_at_call 56; (with_reducible refine P5.out.mono ?_); rintro e w6 ⟨rfl, h4, e4⟩; have X6 := Lib.hid (X5.out.keep (m' := R) h4 e4 hwb); clear h4 e4))
  go_end0
  rw [← HTX.out]
  simp only [← List.append_assoc]
  exact ⟨rfl, X6.out.wt, X6.out.eff⟩

set_option maxRecDepth 100000 in
set_option maxHeartbeats 2000000 in
/-- A record. -/
theorem wr_rec (w : World) (wb : Nat) (bs : List UInt8) (R k : Nat) (n : List UInt8) (ns : List (List UInt8)) (ks : List Ty) (c : C4) (S : Nat → Prop) (hv : TyV w S (.mk k n ns ks) c) (hS : ∀ g, S g → g < wb) (hL : LookTab w) (hg : 0 < wb) (hk : k ≤ 9)
    (h : Wt w wb bs (((R + sizeK ks : Nat) : Int) + 1)) (hR : R + sizeK ks ≤ 70000) (txt : List UInt8) (htx : lkw k ++ [123] ++ kidsT true ns ks ++ [125] = txt) (hlen : bs.length + txt.length ≤ 100000000) (h7 : k = 7) (ih : ∀ k (hk : k < ks.length), TyW ks[k]) :
    Calls Tryz.prog 38 #[.pointer (some ⟨wb, 0, none⟩), c.val] w (WrP w wb (bs ++ txt) R) := by
  have hwb := h.lt
  have hv0 := hv
  cases hv with
  | mk _ _ _ _ an cn ak ck us hl hn hkk hu =>
  clear hl hn hkk hu
  have HV := Lib.hid hv0; have HS := Lib.hid hS; have HL := Lib.hid hL; have HTX := Lib.hid htx
  clear hv0 hS hL htx
  obtain ⟨m, hm⟩ : ∃ m, R + sizeK ks = m := ⟨_, rfl⟩
  have hmm : m ≤ 70000 := by omega
  have HM := Lib.hid hm
  rw [hm] at h
  clear hm hR
  have HX := Lib.hid (Bx.start (c := ⟨k, ⟨n.toArray⟩, an, ns.length, cn, ak, ks.length, ck⟩) h)
  obtain ⟨l2, f2⟩ := h.reader
  clear h
  have hff := field_form
  have hkf : (lkf k : Int) = 2 := by rw [h7]; rfl
  have HF := Lib.hid hkf
  clear hkf h7
  unfold C4.val C4.cells at *
  have hx0 := HX.out.wt.lt
  go_enter Tryz.func38, Tryz.ntmps38
  go_wp2_with (first
    | (go_at_call 48; (refine (look_form _ (look_below HL.out HX.out.eff.bel hg) k 2 (by omega) HF.out).mono ?_); rintro e w2 ⟨rfl, b2⟩; have X2 := Lib.hid ((HX.out.below b2 hwb).alloc (.cells #[.string ⟨(lkw k).toArray⟩, .int .i64 2] 103) hwb); have K2 := Lib.hid (heap_alloc_new w2 (.cells #[.string ⟨(lkw k).toArray⟩, .int .i64 2] 103)); have P2 : Hid (Calls Tryz.prog 56 #[.pointer (some ⟨wb, 0, none⟩), .string ⟨(lkw k).toArray⟩] _ _) := put_any wb _ bs (lkw k) m X2.out.wt (by have := congrArg List.length HTX.out; (try simp only [List.length_append] at this); omega); have s2 : wb < w2.heap.size := (HX.out.below b2 hwb).wt.lt; clear b2)
    | (go_at_call 56; (with_reducible refine P2.out.mono ?_); rintro e w3 ⟨rfl, h3, e3⟩; have X3 := Lib.hid (X2.out.keep h3 e3 hwb); have K3 := Lib.hid (e3.oth w2.heap.size _ (by omega) K2.out (notB_cells _ _ _ (by decide))); obtain ⟨r0, r1⟩ := two_blk K3.out; obtain ⟨⟨q0, q1, q2, q3⟩, z0, z1, z2, z3⟩ := four_blk X3.out.box; clear h3 e3; have P3 : Hid (Calls Tryz.prog 56 #[.pointer (some ⟨wb, 0, none⟩), .string ⟨#[123]⟩] w3 _) := put_any wb w3 _ [123] m X3.out.wt (by have := congrArg List.length HTX.out; (try simp only [List.length_append, List.length_cons, List.length_nil] at this); (try simp only [List.length_append, List.length_cons, List.length_nil]); omega))
    | (go_at_call 56; (with_reducible refine P3.out.mono ?_); rintro e w4 ⟨rfl, h4, e4⟩; have X4 := Lib.hid (X3.out.keep h4 e4 hwb); clear q0 q1 q2 q3 z0 z1 z2 z3; obtain ⟨⟨q0, q1, q2, q3⟩, z0, z1, z2, z3⟩ := four_blk X4.out.box; clear h4 e4; have P4 := Lib.hid (kids_any w4 wb _ R k n ns ks _ S (HV.out.keep (fun _ h => h) (fun g hg => X4.out.eff.bel.block g (HS.out g hg))) HS.out (look_below HL.out X4.out.eff.bel hg) hg (by rw [HM.out]; exact X4.out.wt) (by rw [HM.out]; exact hmm) (by have := congrArg List.length HTX.out; (try simp only [List.length_append, List.length_cons, List.length_nil] at this); (try simp only [List.length_append, List.length_cons, List.length_nil]); omega) ih))
    | (go_at_call 57; (refine P4.out.mono ?_); rintro e w5 ⟨rfl, h4, e4⟩; have X5 := Lib.hid (X4.out.keep (m' := R) h4 e4 hwb); clear h4 e4; have P5 : Hid (Calls Tryz.prog 56 #[.pointer (some ⟨wb, 0, none⟩), .string ⟨#[125]⟩] w5 _) := put_any wb w5 _ [125] R X5.out.wt (by have := congrArg List.length HTX.out; (try simp only [List.length_append, List.length_cons, List.length_nil] at this); (try simp only [List.length_append, List.length_cons, List.length_nil]); omega))
    | (go_at_call 56; (with_reducible refine P5.out.mono ?_); rintro e w6 ⟨rfl, h4, e4⟩; have X6 := Lib.hid (X5.out.keep (m' := R) h4 e4 hwb); clear h4 e4))
  go_end0
  rw [← HTX.out]
  simp only [← List.append_assoc]
  exact ⟨rfl, X6.out.wt, X6.out.eff⟩

set_option maxRecDepth 100000 in
set_option maxHeartbeats 2000000 in
/-- A union. -/
theorem wr_uni (w : World) (wb : Nat) (bs : List UInt8) (R k : Nat) (n : List UInt8) (ns : List (List UInt8)) (ks : List Ty) (c : C4) (S : Nat → Prop) (hv : TyV w S (.mk k n ns ks) c) (hS : ∀ g, S g → g < wb) (hL : LookTab w) (hg : 0 < wb) (hk : k ≤ 9)
    (h : Wt w wb bs (((R + sizeK ks : Nat) : Int) + 1)) (hR : R + sizeK ks ≤ 70000) (txt : List UInt8) (htx : lkw k ++ [32] ++ [123] ++ kidsT true ns ks ++ [125] = txt) (hlen : bs.length + txt.length ≤ 100000000) (h8 : k = 8) (ih : ∀ k (hk : k < ks.length), TyW ks[k]) :
    Calls Tryz.prog 38 #[.pointer (some ⟨wb, 0, none⟩), c.val] w (WrP w wb (bs ++ txt) R) := by
  have hwb := h.lt
  have hv0 := hv
  cases hv with
  | mk _ _ _ _ an cn ak ck us hl hn hkk hu =>
  clear hl hn hkk hu
  have HV := Lib.hid hv0; have HS := Lib.hid hS; have HL := Lib.hid hL; have HTX := Lib.hid htx
  clear hv0 hS hL htx
  obtain ⟨m, hm⟩ : ∃ m, R + sizeK ks = m := ⟨_, rfl⟩
  have hmm : m ≤ 70000 := by omega
  have HM := Lib.hid hm
  rw [hm] at h
  clear hm hR
  have HX := Lib.hid (Bx.start (c := ⟨k, ⟨n.toArray⟩, an, ns.length, cn, ak, ks.length, ck⟩) h)
  obtain ⟨l2, f2⟩ := h.reader
  clear h
  have hff := field_form
  have hkf : (lkf k : Int) = 3 := by rw [h8]; rfl
  have HF := Lib.hid hkf
  clear hkf h8
  unfold C4.val C4.cells at *
  have hx0 := HX.out.wt.lt
  go_enter Tryz.func38, Tryz.ntmps38
  go_wp2_with (first
    | (go_at_call 48; (refine (look_form _ (look_below HL.out HX.out.eff.bel hg) k 3 (by omega) HF.out).mono ?_); rintro e w2 ⟨rfl, b2⟩; have X2 := Lib.hid ((HX.out.below b2 hwb).alloc (.cells #[.string ⟨(lkw k).toArray⟩, .int .i64 3] 103) hwb); have K2 := Lib.hid (heap_alloc_new w2 (.cells #[.string ⟨(lkw k).toArray⟩, .int .i64 3] 103)); have P2 : Hid (Calls Tryz.prog 56 #[.pointer (some ⟨wb, 0, none⟩), .string ⟨(lkw k).toArray⟩] _ _) := put_any wb _ bs (lkw k) m X2.out.wt (by have := congrArg List.length HTX.out; (try simp only [List.length_append] at this); omega); have s2 : wb < w2.heap.size := (HX.out.below b2 hwb).wt.lt; clear b2)
    | (go_at_call 56; (with_reducible refine P2.out.mono ?_); rintro e w3 ⟨rfl, h3, e3⟩; have X3 := Lib.hid (X2.out.keep h3 e3 hwb); have K3 := Lib.hid (e3.oth w2.heap.size _ (by omega) K2.out (notB_cells _ _ _ (by decide))); obtain ⟨r0, r1⟩ := two_blk K3.out; obtain ⟨⟨q0, q1, q2, q3⟩, z0, z1, z2, z3⟩ := four_blk X3.out.box; clear h3 e3; have P3 : Hid (Calls Tryz.prog 56 #[.pointer (some ⟨wb, 0, none⟩), .string ⟨#[32]⟩] w3 _) := put_any wb w3 _ [32] m X3.out.wt (by have := congrArg List.length HTX.out; (try simp only [List.length_append, List.length_cons, List.length_nil] at this); (try simp only [List.length_append, List.length_cons, List.length_nil]); omega))
    | (go_at_call 56; (with_reducible refine P3.out.mono ?_); rintro e w4 ⟨rfl, h4, e4⟩; have X4 := Lib.hid (X3.out.keep h4 e4 hwb); clear q0 q1 q2 q3 z0 z1 z2 z3; obtain ⟨⟨q0, q1, q2, q3⟩, z0, z1, z2, z3⟩ := four_blk X4.out.box; clear h4 e4; have P4 : Hid (Calls Tryz.prog 56 #[.pointer (some ⟨wb, 0, none⟩), .string ⟨#[123]⟩] w4 _) := put_any wb w4 _ [123] m X4.out.wt (by have := congrArg List.length HTX.out; (try simp only [List.length_append, List.length_cons, List.length_nil] at this); (try simp only [List.length_append, List.length_cons, List.length_nil]); omega))
    | (go_at_call 56; (with_reducible refine P4.out.mono ?_); rintro e w5 ⟨rfl, h4, e4⟩; have X5 := Lib.hid (X4.out.keep h4 e4 hwb); clear q0 q1 q2 q3 z0 z1 z2 z3; obtain ⟨⟨q0, q1, q2, q3⟩, z0, z1, z2, z3⟩ := four_blk X5.out.box; clear h4 e4; have P5 := Lib.hid (kids_any w5 wb _ R k n ns ks _ S (HV.out.keep (fun _ h => h) (fun g hg => X5.out.eff.bel.block g (HS.out g hg))) HS.out (look_below HL.out X5.out.eff.bel hg) hg (by rw [HM.out]; exact X5.out.wt) (by rw [HM.out]; exact hmm) (by have := congrArg List.length HTX.out; (try simp only [List.length_append, List.length_cons, List.length_nil] at this); (try simp only [List.length_append, List.length_cons, List.length_nil]); omega) ih))
    | (go_at_call 57; (refine P5.out.mono ?_); rintro e w6 ⟨rfl, h4, e4⟩; have X6 := Lib.hid (X5.out.keep (m' := R) h4 e4 hwb); clear h4 e4; have P6 : Hid (Calls Tryz.prog 56 #[.pointer (some ⟨wb, 0, none⟩), .string ⟨#[125]⟩] w6 _) := put_any wb w6 _ [125] R X6.out.wt (by have := congrArg List.length HTX.out; (try simp only [List.length_append, List.length_cons, List.length_nil] at this); (try simp only [List.length_append, List.length_cons, List.length_nil]); omega))
    | (go_at_call 56; (with_reducible refine P6.out.mono ?_); rintro e w7 ⟨rfl, h4, e4⟩; have X7 := Lib.hid (X6.out.keep (m' := R) h4 e4 hwb); clear h4 e4))
  go_end0
  rw [← HTX.out]
  simp only [← List.append_assoc]
  exact ⟨rfl, X7.out.wt, X7.out.eff⟩
end Sh
end Go.Proofs.YtnnnjonodnkccaaGreatDoor
