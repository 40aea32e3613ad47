/- The builder takes a part. Written by gen_qacb.py. -/
import Derived.Test.YtlfbcaenlifmkaaGreatDoorB38
namespace Go.Proofs.YtlfbcaenlifmkaaGreatDoor
open Go.RowKit
namespace Tr
open Sc Sh Sp
theorem three_blkP {w : World} {b : Nat} {t : TypeId} {v0 v1 v2 : Value} (h : w.heap[b]? = some (.cells #[v0, v1, v2] t (0, 0))) :
    (w.cell? ⟨b, 0, none⟩ = some v0 ∧ w.cell? ⟨b, 1, none⟩ = some v1 ∧ w.cell? ⟨b, 2, none⟩ = some v2) ∧ (w.frozen? ⟨b, 0, none⟩ = false ∧ w.frozen? ⟨b, 1, none⟩ = false ∧ w.frozen? ⟨b, 2, none⟩ = false) := by
  refine ⟨⟨?_, ?_, ?_⟩, ⟨?_, ?_, ?_⟩⟩ <;> simp [World.cell?, World.frozen?, h]
/-- A node with nothing in it. -/
theorem NdV.bare {w : World} {S : Nat → Prop} (k : Int) (p : Nat) (s n : List UInt8) (pipe : List (List Op)) {pa : Option Addr} {pc : Nat} {us : List CU} (hp : PipeV w S pipe pa us) : NdV w S (.mk k p s n pipe [] [] false []) ⟨k, p, ⟨s.toArray⟩, ⟨n.toArray⟩, pa, pipe.length, pc, none, 0, 0, none, 0, 0, false, none, 0, 0⟩ :=
  .mk _ _ rfl rfl rfl rfl rfl us hp rfl [] rfl rfl (.inl rfl) (fun y hy => by cases hy) [] rfl rfl (.inl rfl) (fun y hy => by cases hy) [] rfl rfl (.inl rfl) (fun u hu => by cases hu) (fun u hu => by cases hu)
/-- What the builder leaves. -/
def BldP (w : World) (base bb : Nat) (x : Nat × B) (e : Ending) (w' : World) : Prop := e = .returned (.int .i64 x.1) ∧ BVE w' base bb x.2 ∧ Below base w w' ∧ (x.1 ≠ 0 → Below w.heap.size w w')
set_option maxRecDepth 100000 in
set_option maxHeartbeats 4000000 in
theorem text_put {w : World} {base bb : Nat} {bd : B} {c : Nat → Nat} {oa oc : Nat} {ys : List (Nd × C9)} {xn : C9} {da : Option Addr} {dc : Nat} {ds : List TpU} (h : BV w base bb bd c oa oc ys xn da dc ds) (pt : Tx.P) (hw : bd.inner.waits = false) (hf : FewN 2000 bd.inner) (hd : bd.outer.length ≤ 100) :
    Calls Tryz.prog 66 #[.pointer (some ⟨bb, 0, none⟩), .agg #[.bool pt.act, .string ⟨pt.s.toArray⟩, .int .i64 pt.at_]] w (BldP w base bb (0, bd.putB (.mk 1 pt.at_ pt.s [] [] [] [] false []))) := by
  obtain ⟨W0, hW0⟩ : ∃ W0, W0 = w.alloc (.cells #[.bool pt.act, .string ⟨pt.s.toArray⟩, .int .i64 pt.at_] 100) := ⟨_, rfl⟩
  have hb0 : Below w.heap.size w W0 := by rw [hW0]; exact (Below.refl _ _).alloc (Nat.le_refl _) _
  have hx0 : W0.heap[w.heap.size]? = some (.cells #[.bool pt.act, .string ⟨pt.s.toArray⟩, .int .i64 pt.at_] 100 (0, 0)) := by rw [hW0]; exact heap_alloc_new w _
  have hv0 := h.below hb0
  have hdep : ys.length ≤ 100 := by have := h.depth; omega
  obtain ⟨⟨c0, -⟩, -⟩ := two_blk hv0.blk
  have CI := inner_cell W0 bb oa ys.length oc (by omega) c0
  have hvd := hv0.below (Below.refl W0.heap.size W0).drew
  have i0 := hvd.cell 0 (by omega); have i7 := hvd.cell 7 (by omega); have i8 := hvd.cell 8 (by omega)
  simp only [C9.cells, List.getElem?_cons_succ, List.getElem?_cons_zero, Nat.add_zero] at i0 i7 i8
  have CW := waits_cell W0.drew oa (ys.length * 9) xn.k xn.h xn.ca xn.cl xn.cc i0 i7 i8
  have hwt : (decide (xn.k = 8) && decide (xn.cl = 0) && !xn.h) = false := by
    obtain ⟨cs, k1, k2, -⟩ := h.last.cases
    rw [h.last.hk, h.last.hh, k2, ← hw]
    unfold Nd.waits
    rw [← k1, List.length_map]
  rw [hwt] at CW
  have HW0 := Lib.hid hW0; have HB0 := Lib.hid hb0; have HCI := Lib.hid CI; have HCW := Lib.hid CW; have HBVD := Lib.hid hvd; have HFW := Lib.hid hf
  have HBX0 := Lib.hid hx0
  clear hW0 CI CW hvd i0 i7 i8 c0 hwt hw hf hx0 hv0
  go_enter Tryz.func66, Tryz.ntmps66
  go_upto_region 1 with fail
  rw [← HW0.out]
  go_upto_region 2 with (first
    | (go_at_call 68; (refine HCI.out.mono ?_); rintro e w1 ⟨rfl, rfl⟩)
    | (go_at_call 103; (refine HCW.out.mono ?_); rintro e w2 ⟨rfl, rfl⟩))
  obtain ⟨W5, hW5⟩ : ∃ W5, W5 = W0.drew := ⟨_, rfl⟩
  rw [← hW5]
  obtain ⟨bx, hbx⟩ : ∃ bx, bx = w.heap.size := ⟨_, rfl⟩
  rw [← hbx]
  have HV5 := Lib.hid (show BV W5 base bb bd c oa oc ys xn da dc ds from hW5 ▸ HBVD.out)
  have HB5 := Lib.hid (show Below base w W5 from by rw [hW5]; exact (HB0.out.mono h.le).drew)
  have HBX := Lib.hid (show W5.heap[bx]? = some (.cells #[.bool pt.act, .string ⟨pt.s.toArray⟩, .int .i64 pt.at_] 100 (0, 0)) from by rw [hW5, hbx]; exact HBX0.out)
  have HBL := Lib.hid (Array.getElem?_eq_some_iff.1 HBX.out).1
  have HNV := Lib.hid (NdV.bare (w := W5) (S := Fz base W5 c) 1 pt.at_ pt.s [] [] (pa := none) (pc := 0) (us := []) PipeV.none)
  clear hW5 hbx hb0 h HBVD HBX0
  refine wp_region_by (QJ (fun (_ : Unit) qq => match qq with | 0 => .pointer (some ⟨bb, 0, none⟩) | 1 => .pointer (some ⟨oa, ys.length * 9, none⟩) | 2 => .pointer (some ⟨bx, 2, none⟩) | 3 => .int .i64 pt.at_ | 4 => .pointer (some ⟨bx, 1, none⟩) | 5 => .string ⟨pt.s.toArray⟩ | 6 => .agg #[.int .i64 1, .int .i64 pt.at_, .string ⟨pt.s.toArray⟩, .string ⟨#[]⟩, .slice none 0 0, .slice none 0 0, .slice none 0 0, .bool false, .slice none 0 0] | 7 => .tuple #[] | _ => undef) (fun _ listed v => ((listed.getD 7 false = false → Below W5.heap.size W5 v) ∧ (listed.getD 7 false = true → (BVE v base bb (B.putB (.mk 1 pt.at_ pt.s [] [] [] [] false []) bd) ∧ Below base w v))))) (by kernel_rfl) ?_ ?_ ?_
  · exact ⟨by simp, Closed.start _, (), Fr.start _ _ _, by rw [rep_getDL]; exact ⟨fun _ => (Below.refl W5.heap.size W5).drew, (fun e => by cases e)⟩⟩
  · intro listed b v q hJ hi
    obtain ⟨hsz, hC, x, hF, hM⟩ := hJ
    obtain ⟨hl1, hiN⟩ := not_up hsz hi
    obtain ⟨_, o, ho, hdeps⟩ := mem_ready.1 hi
    have hiN : q < 8 := hiN
    obtain rfl | rfl | rfl | rfl | rfl | rfl | rfl | rfl : q = 0 ∨ q = 1 ∨ q = 2 ∨ q = 3 ∨ q = 4 ∨ q = 5 ∨ q = 6 ∨ q = 7 := by omega
    · cases ho
      have e0 := hF.old_is 0 (by rfl) rfl
      refine QJ.quiet (x := x) hsz hC hi hF (Slots.of (by rfl)) rfl (wanted_none rfl) (show (((listed.setIfInBounds 0 true).getD 7 false = false → Below W5.heap.size W5 v) ∧ ((listed.setIfInBounds 0 true).getD 7 false = true → (BVE v base bb (B.putB (.mk 1 pt.at_ pt.s [] [] [] [] false []) bd) ∧ Below base w v))) by rw [getD_setN (show 0 ≠ 7 by decide)]; exact hM) ?_
      show _ = Result.ok (Next.value (.pointer (some ⟨bb, 0, none⟩))) v
      simp [execOp, go_sem, e0]
    · cases ho
      have l7 : listed.getD 7 false = false := by
        cases hh : listed.getD 7 false
        · rfl
        · have y0 := hC 7 _ rfl hh ⟨1, .data⟩ (by simp) rfl; rw [hl1] at y0; cases y0
      have l3 := l7
      have hb0 := hM.1 l3
      have e10 : b.tmps[10]? = some (.pointer (some ⟨bb, 0, none⟩)) := hF.up 0 10 rfl (hdeps ⟨0, .data⟩ (by simp) rfl)
      refine QJ.call (x := x) (f := 68) (args := #[.pointer (some ⟨bb, 0, none⟩)]) hsz hC hi hF (Slots.of (by rfl)) rfl (wanted_none rfl) (by simp [execOp, go_sem, e10]) (inner_cell v bb oa ys.length oc (by omega) ((hb0.cell (p := ⟨bb, 0, none⟩) HV5.out.bblt).trans (two_blk HV5.out.blk).1.1)) ?_
      rintro e w' ⟨rfl, hw⟩
      exact ⟨(), rfl, fun _ _ => rfl, (show (((listed.setIfInBounds 1 true).getD 7 false = false → Below W5.heap.size W5 w') ∧ ((listed.setIfInBounds 1 true).getD 7 false = true → (BVE w' base bb (B.putB (.mk 1 pt.at_ pt.s [] [] [] [] false []) bd) ∧ Below base w w'))) by rw [getD_setN (show 1 ≠ 7 by decide), l3, hw]; exact ⟨fun _ => hb0.drew, (fun e => by cases e)⟩)⟩
    · cases ho
      have e3 := hF.old_is 3 (by rfl) rfl
      refine QJ.quiet (x := x) hsz hC hi hF (Slots.of (by rfl)) rfl (wanted_none rfl) (show (((listed.setIfInBounds 2 true).getD 7 false = false → Below W5.heap.size W5 v) ∧ ((listed.setIfInBounds 2 true).getD 7 false = true → (BVE v base bb (B.putB (.mk 1 pt.at_ pt.s [] [] [] [] false []) bd) ∧ Below base w v))) by rw [getD_setN (show 2 ≠ 7 by decide)]; exact hM) ?_
      show _ = Result.ok (Next.value (.pointer (some ⟨bx, 2, none⟩))) v
      simp [execOp, go_sem, e3]
    · cases ho
      have l7 : listed.getD 7 false = false := by
        cases hh : listed.getD 7 false
        · rfl
        · have y0 := hC 7 _ rfl hh ⟨6, .data⟩ (by simp) rfl; have y1 := hC 6 _ rfl y0 ⟨3, .data⟩ (by simp) rfl; rw [hl1] at y1; cases y1
      have l3 := l7
      have hb0 := hM.1 l3
      obtain ⟨⟨z0, z1, z2⟩, -⟩ := three_blkP ((hb0.block bx HBL.out).trans HBX.out)
      have e12 : b.tmps[12]? = some (.pointer (some ⟨bx, 2, none⟩)) := hF.up 2 12 rfl (hdeps ⟨2, .data⟩ (by simp) rfl)
      refine QJ.quiet (x := x) hsz hC hi hF (Slots.of (by rfl)) rfl (wanted_none rfl) (show (((listed.setIfInBounds 3 true).getD 7 false = false → Below W5.heap.size W5 v) ∧ ((listed.setIfInBounds 3 true).getD 7 false = true → (BVE v base bb (B.putB (.mk 1 pt.at_ pt.s [] [] [] [] false []) bd) ∧ Below base w v))) by rw [getD_setN (show 3 ≠ 7 by decide)]; exact hM) ?_
      show _ = Result.ok (Next.value (.int .i64 pt.at_)) v
      simp [execOp, go_sem, e12, z2]
    · cases ho
      have e3 := hF.old_is 3 (by rfl) rfl
      refine QJ.quiet (x := x) hsz hC hi hF (Slots.of (by rfl)) rfl (wanted_none rfl) (show (((listed.setIfInBounds 4 true).getD 7 false = false → Below W5.heap.size W5 v) ∧ ((listed.setIfInBounds 4 true).getD 7 false = true → (BVE v base bb (B.putB (.mk 1 pt.at_ pt.s [] [] [] [] false []) bd) ∧ Below base w v))) by rw [getD_setN (show 4 ≠ 7 by decide)]; exact hM) ?_
      show _ = Result.ok (Next.value (.pointer (some ⟨bx, 1, none⟩))) v
      simp [execOp, go_sem, e3]
    · cases ho
      have l7 : listed.getD 7 false = false := by
        cases hh : listed.getD 7 false
        · rfl
        · have y0 := hC 7 _ rfl hh ⟨6, .data⟩ (by simp) rfl; have y1 := hC 6 _ rfl y0 ⟨5, .data⟩ (by simp) rfl; rw [hl1] at y1; cases y1
      have l3 := l7
      have hb0 := hM.1 l3
      obtain ⟨⟨z0, z1, z2⟩, -⟩ := three_blkP ((hb0.block bx HBL.out).trans HBX.out)
      have e14 : b.tmps[14]? = some (.pointer (some ⟨bx, 1, none⟩)) := hF.up 4 14 rfl (hdeps ⟨4, .data⟩ (by simp) rfl)
      refine QJ.quiet (x := x) hsz hC hi hF (Slots.of (by rfl)) rfl (wanted_none rfl) (show (((listed.setIfInBounds 5 true).getD 7 false = false → Below W5.heap.size W5 v) ∧ ((listed.setIfInBounds 5 true).getD 7 false = true → (BVE v base bb (B.putB (.mk 1 pt.at_ pt.s [] [] [] [] false []) bd) ∧ Below base w v))) by rw [getD_setN (show 5 ≠ 7 by decide)]; exact hM) ?_
      show _ = Result.ok (Next.value (.string ⟨pt.s.toArray⟩)) v
      simp [execOp, go_sem, e14, z1]
    · cases ho
      have e13 : b.tmps[13]? = some (.int .i64 pt.at_) := hF.up 3 13 rfl (hdeps ⟨3, .data⟩ (by simp) rfl)
      have e15 : b.tmps[15]? = some (.string ⟨pt.s.toArray⟩) := hF.up 5 15 rfl (hdeps ⟨5, .data⟩ (by simp) rfl)
      refine QJ.quiet (x := x) hsz hC hi hF (Slots.of (by rfl)) rfl (wanted_none rfl) (show (((listed.setIfInBounds 6 true).getD 7 false = false → Below W5.heap.size W5 v) ∧ ((listed.setIfInBounds 6 true).getD 7 false = true → (BVE v base bb (B.putB (.mk 1 pt.at_ pt.s [] [] [] [] false []) bd) ∧ Below base w v))) by rw [getD_setN (show 6 ≠ 7 by decide)]; exact hM) ?_
      show _ = Result.ok (Next.value (.agg #[.int .i64 1, .int .i64 pt.at_, .string ⟨pt.s.toArray⟩, .string ⟨#[]⟩, .slice none 0 0, .slice none 0 0, .slice none 0 0, .bool false, .slice none 0 0])) v
      simp [execOp, go_sem, e13, e15]
    · cases ho
      have hb0 := hM.1 hl1
      have e11 : b.tmps[11]? = some (.pointer (some ⟨oa, ys.length * 9, none⟩)) := hF.up 1 11 rfl (hdeps ⟨1, .data⟩ (by simp) rfl)
      have e16 : b.tmps[16]? = some (.agg #[.int .i64 1, .int .i64 pt.at_, .string ⟨pt.s.toArray⟩, .string ⟨#[]⟩, .slice none 0 0, .slice none 0 0, .slice none 0 0, .bool false, .slice none 0 0]) := hF.up 6 16 rfl (hdeps ⟨6, .data⟩ (by simp) rfl)
      refine QJ.call (x := x) (f := 104) (args := #[.pointer (some ⟨oa, ys.length * 9, none⟩), .agg #[.int .i64 1, .int .i64 pt.at_, .string ⟨pt.s.toArray⟩, .string ⟨#[]⟩, .slice none 0 0, .slice none 0 0, .slice none 0 0, .bool false, .slice none 0 0]]) hsz hC hi hF (Slots.of (by rfl)) rfl (wanted_none rfl) (by simp [execOp, go_sem, e11, e16]) (put_into (HV5.out.below hb0) (.mk 1 pt.at_ pt.s [] [] [] [] false [], (⟨1, pt.at_, ⟨pt.s.toArray⟩, ⟨#[]⟩, none, 0, 0, none, 0, 0, none, 0, 0, false, none, 0, 0⟩ : C9)) (HNV.out.keep (Fz.belowIn hb0) (fun g hg => hb0.block g hg.2.1)) HFW.out) ?_
      rintro e w' ⟨rfl, hw, hbw⟩
      exact ⟨(), rfl, fun _ _ => rfl, (show (((listed.setIfInBounds 7 true).getD 7 false = false → Below W5.heap.size W5 w') ∧ ((listed.setIfInBounds 7 true).getD 7 false = true → (BVE w' base bb (B.putB (.mk 1 pt.at_ pt.s [] [] [] [] false []) bd) ∧ Below base w w'))) by rw [getD_setS (by rw [hsz]; decide)]; exact ⟨(fun e => by cases e), fun _ => ⟨hw, (HB5.out.trans (hb0.mono HV5.out.le)).trans hbw⟩⟩)⟩
  intro listed b6 W6 hJ hr'
  obtain ⟨hsz, hC, xx, hF, hM⟩ := hJ
  have hall := all_upB2 (by rfl) hsz hr'
  have hb : b6 = putAll _ _ _ 8 := hF.done (Slots.of (by rfl)) hall
  subst hb
  have HFIN := Lib.hid (hM.2 (hall 7 (by decide)))
  simp only [putAll]
  simp [dstOf, Act.put]
  clear hF hC hall hr' hsz hM
  go_wp2
  go_ret
  exact ⟨rfl, HFIN.out.1, HFIN.out.2, fun h => absurd rfl h⟩
set_option maxRecDepth 100000 in
set_option maxHeartbeats 4000000 in
theorem bld_put {w : World} {base bb : Nat} {bd : B} {c : Nat → Nat} {oa oc : Nat} {ys : List (Nd × C9)} {xn : C9} {da : Option Addr} {dc : Nat} {ds : List TpU} (h : BV w base bb bd c oa oc ys xn da dc ds) (a : Act) (p : Nat) (ha : a.kind = 2 ∨ a.kind = 3 ∨ a.kind = 4) {pa : Option Addr} {pc : Nat} {us : List CU} (hv : PipeV w (Fz base w c) a.pipe pa us) (hf : FewN 2000 bd.inner) (hd : bd.outer.length ≤ 100) :
    Calls Tryz.prog 70 #[.pointer (some ⟨bb, 0, none⟩), .agg #[.int .i64 a.kind, .int .i64 p, .string ⟨#[]⟩, .string ⟨a.name.toArray⟩, .slice pa a.pipe.length pc, .slice none 0 0, .slice none 0 0, .bool false, .slice none 0 0]] w (BldP w base bb (0, bd.putB (nodeOf a p))) := by
  obtain ⟨W0, hW0⟩ : ∃ W0, W0 = w.alloc (.cells #[.int .i64 a.kind, .int .i64 p, .string ⟨#[]⟩, .string ⟨a.name.toArray⟩, .slice pa a.pipe.length pc, .slice none 0 0, .slice none 0 0, .bool false, .slice none 0 0] 56) := ⟨_, rfl⟩
  have hb0 : Below w.heap.size w W0 := by rw [hW0]; exact (Below.refl _ _).alloc (Nat.le_refl _) _
  have hx0 : W0.heap[w.heap.size]? = some (.cells #[.int .i64 a.kind, .int .i64 p, .string ⟨#[]⟩, .string ⟨a.name.toArray⟩, .slice pa a.pipe.length pc, .slice none 0 0, .slice none 0 0, .bool false, .slice none 0 0] 56 (0, 0)) := by rw [hW0]; exact heap_alloc_new w _
  have hdep : ys.length ≤ 100 := by have := h.depth; omega
  obtain ⟨⟨u0, u1, u2, u3, u4, u5, u6, u7, u8⟩, -⟩ := nine_blk hx0
  have k1 : (a.kind == -2) = false := by simp; omega
  have k2 : (a.kind == -1) = false := by simp; omega
  have k3 : (a.kind == -3) = false := by simp; omega
  have k4 : (a.kind == -4) = false := by simp; omega
  have k5 : (a.kind == 5) = false := by simp; omega
  have k6 : (a.kind == 6) = false := by simp; omega
  have k7 : (a.kind == 7) = false := by simp; omega
  have k8 : (a.kind == 8) = false := by simp; omega
  have k9 : (a.kind == 9) = false := by simp; omega
  have hl0 := (Array.getElem?_eq_some_iff.1 hx0).1
  have HW0 := Lib.hid hW0; have HFW := Lib.hid hf
  have HBX0 := Lib.hid hx0
  have HV50 := Lib.hid (h.below hb0)
  have HB50 := Lib.hid (hb0.mono h.le)
  have HNV0 := Lib.hid (show NdV W0 (Fz base W0 c) (nodeOf a p) (⟨a.kind, p, ⟨#[]⟩, ⟨a.name.toArray⟩, pa, a.pipe.length, pc, none, 0, 0, none, 0, 0, false, none, 0, 0⟩ : C9) from NdV.bare a.kind p [] a.name a.pipe (hv.keep (Fz.belowIn hb0) (fun g hg => hb0.block g hg.2.1)))
  clear hW0 hf hx0 ha hv hb0 h
  go_enter Tryz.func70, Tryz.ntmps70
  go_upto_region 1 with fail
  rw [← HW0.out]
  go_upto_region 20 with fail
  obtain ⟨W5, hW5⟩ : ∃ W5, W5 = W0 := ⟨_, rfl⟩
  rw [← hW5]
  obtain ⟨bx, hbx⟩ : ∃ bx, bx = w.heap.size := ⟨_, rfl⟩
  rw [← hbx]
  have HV5 := Lib.hid (show BV W5 base bb bd c oa oc ys xn da dc ds from hW5 ▸ HV50.out)
  have HB5 := Lib.hid (show Below base w W5 from hW5 ▸ HB50.out)
  have HBX := Lib.hid (show W5.heap[bx]? = some (.cells #[.int .i64 a.kind, .int .i64 p, .string ⟨#[]⟩, .string ⟨a.name.toArray⟩, .slice pa a.pipe.length pc, .slice none 0 0, .slice none 0 0, .bool false, .slice none 0 0] 56 (0, 0)) from by rw [hW5, hbx]; exact HBX0.out)
  have HBL := Lib.hid (Array.getElem?_eq_some_iff.1 HBX.out).1
  have HNV := Lib.hid (show NdV W5 (Fz base W5 c) (nodeOf a p) (⟨a.kind, p, ⟨#[]⟩, ⟨a.name.toArray⟩, pa, a.pipe.length, pc, none, 0, 0, none, 0, 0, false, none, 0, 0⟩ : C9) from hW5 ▸ HNV0.out)
  clear hW5 hbx HV50 HB50 HBX0 HNV0 u0 u1 u2 u3 u4 u5 u6 u7 u8 hl0
  refine wp_region_by (QJ (fun (_ : Unit) qq => match qq with | 0 => .pointer (some ⟨bb, 0, none⟩) | 1 => .pointer (some ⟨oa, ys.length * 9, none⟩) | 2 => .agg #[.int .i64 a.kind, .int .i64 p, .string ⟨#[]⟩, .string ⟨a.name.toArray⟩, .slice pa a.pipe.length pc, .slice none 0 0, .slice none 0 0, .bool false, .slice none 0 0] | 3 => .tuple #[] | _ => undef) (fun _ listed v => ((listed.getD 3 false = false → Below W5.heap.size W5 v) ∧ (listed.getD 3 false = true → (BVE v base bb (B.putB (nodeOf a p) bd) ∧ Below base w v))))) (by kernel_rfl) ?_ ?_ ?_
  · exact ⟨by simp, Closed.start _, (), Fr.start _ _ _, by rw [rep_getDL]; exact ⟨fun _ => (Below.refl W5.heap.size W5).drew, (fun e => by cases e)⟩⟩
  · intro listed b v q hJ hi
    obtain ⟨hsz, hC, x, hF, hM⟩ := hJ
    obtain ⟨hl1, hiN⟩ := not_up hsz hi
    obtain ⟨_, o, ho, hdeps⟩ := mem_ready.1 hi
    have hiN : q < 4 := hiN
    obtain rfl | rfl | rfl | rfl : q = 0 ∨ q = 1 ∨ q = 2 ∨ q = 3 := by omega
    · cases ho
      have e0 := hF.old_is 0 (by rfl) rfl
      refine QJ.quiet (x := x) hsz hC hi hF (Slots.of (by rfl)) rfl (wanted_none rfl) (show (((listed.setIfInBounds 0 true).getD 3 false = false → Below W5.heap.size W5 v) ∧ ((listed.setIfInBounds 0 true).getD 3 false = true → (BVE v base bb (B.putB (nodeOf a p) bd) ∧ Below base w v))) by rw [getD_setN (show 0 ≠ 3 by decide)]; exact hM) ?_
      show _ = Result.ok (Next.value (.pointer (some ⟨bb, 0, none⟩))) v
      simp [execOp, go_sem, e0]
    · cases ho
      have l3 : listed.getD 3 false = false := by
        cases hh : listed.getD 3 false
        · rfl
        · have y0 := hC 3 _ rfl hh ⟨1, .data⟩ (by simp) rfl; rw [hl1] at y0; cases y0
      have hb0 := hM.1 l3
      have e58 : b.tmps[58]? = some (.pointer (some ⟨bb, 0, none⟩)) := hF.up 0 58 rfl (hdeps ⟨0, .data⟩ (by simp) rfl)
      refine QJ.call (x := x) (f := 68) (args := #[.pointer (some ⟨bb, 0, none⟩)]) hsz hC hi hF (Slots.of (by rfl)) rfl (wanted_none rfl) (by simp [execOp, go_sem, e58]) (inner_cell v bb oa ys.length oc (by omega) ((hb0.cell (p := ⟨bb, 0, none⟩) HV5.out.bblt).trans (two_blk HV5.out.blk).1.1)) ?_
      rintro e w' ⟨rfl, hw⟩
      exact ⟨(), rfl, fun _ _ => rfl, (show (((listed.setIfInBounds 1 true).getD 3 false = false → Below W5.heap.size W5 w') ∧ ((listed.setIfInBounds 1 true).getD 3 false = true → (BVE w' base bb (B.putB (nodeOf a p) bd) ∧ Below base w w'))) by rw [getD_setN (show 1 ≠ 3 by decide), l3, hw]; exact ⟨fun _ => hb0.drew, (fun e => by cases e)⟩)⟩
    · cases ho
      have l3 : listed.getD 3 false = false := by
        cases hh : listed.getD 3 false
        · rfl
        · have y0 := hC 3 _ rfl hh ⟨2, .data⟩ (by simp) rfl; rw [hl1] at y0; cases y0
      have hb0 := hM.1 l3
      obtain ⟨⟨z0, z1, z2, z3, z4, z5, z6, z7, z8⟩, -⟩ := nine_blk ((hb0.block bx HBL.out).trans HBX.out)
      have e3 := hF.old_is 3 (by rfl) rfl
      refine QJ.quiet (x := x) hsz hC hi hF (Slots.of (by rfl)) rfl (wanted_none rfl) (show (((listed.setIfInBounds 2 true).getD 3 false = false → Below W5.heap.size W5 v) ∧ ((listed.setIfInBounds 2 true).getD 3 false = true → (BVE v base bb (B.putB (nodeOf a p) bd) ∧ Below base w v))) by rw [getD_setN (show 2 ≠ 3 by decide)]; exact hM) ?_
      show _ = Result.ok (Next.value (.agg #[.int .i64 a.kind, .int .i64 p, .string ⟨#[]⟩, .string ⟨a.name.toArray⟩, .slice pa a.pipe.length pc, .slice none 0 0, .slice none 0 0, .bool false, .slice none 0 0])) v
      simp [execOp, go_sem, e3, z0, z1, z2, z3, z4, z5, z6, z7, z8]
    · cases ho
      have hb0 := hM.1 hl1
      have e59 : b.tmps[59]? = some (.pointer (some ⟨oa, ys.length * 9, none⟩)) := hF.up 1 59 rfl (hdeps ⟨1, .data⟩ (by simp) rfl)
      have e60 : b.tmps[60]? = some (.agg #[.int .i64 a.kind, .int .i64 p, .string ⟨#[]⟩, .string ⟨a.name.toArray⟩, .slice pa a.pipe.length pc, .slice none 0 0, .slice none 0 0, .bool false, .slice none 0 0]) := hF.up 2 60 rfl (hdeps ⟨2, .data⟩ (by simp) rfl)
      refine QJ.call (x := x) (f := 104) (args := #[.pointer (some ⟨oa, ys.length * 9, none⟩), .agg #[.int .i64 a.kind, .int .i64 p, .string ⟨#[]⟩, .string ⟨a.name.toArray⟩, .slice pa a.pipe.length pc, .slice none 0 0, .slice none 0 0, .bool false, .slice none 0 0]]) hsz hC hi hF (Slots.of (by rfl)) rfl (wanted_none rfl) (by simp [execOp, go_sem, e59, e60]) (put_into (HV5.out.below hb0) (nodeOf a p, (⟨a.kind, p, ⟨#[]⟩, ⟨a.name.toArray⟩, pa, a.pipe.length, pc, none, 0, 0, none, 0, 0, false, none, 0, 0⟩ : C9)) (HNV.out.keep (Fz.belowIn hb0) (fun g hg => hb0.block g hg.2.1)) HFW.out) ?_
      rintro e w' ⟨rfl, hw, hbw⟩
      exact ⟨(), rfl, fun _ _ => rfl, (show (((listed.setIfInBounds 3 true).getD 3 false = false → Below W5.heap.size W5 w') ∧ ((listed.setIfInBounds 3 true).getD 3 false = true → (BVE w' base bb (B.putB (nodeOf a p) bd) ∧ Below base w w'))) by rw [getD_setS (by rw [hsz]; decide)]; exact ⟨(fun e => by cases e), fun _ => ⟨hw, (HB5.out.trans (hb0.mono HV5.out.le)).trans hbw⟩⟩)⟩
  intro listed b6 W6 hJ hr'
  obtain ⟨hsz, hC, xx, hF, hM⟩ := hJ
  have hall := all_upB2 (by rfl) hsz hr'
  have hb : b6 = putAll _ _ _ 4 := hF.done (Slots.of (by rfl)) hall
  subst hb
  have HFIN := Lib.hid (hM.2 (hall 3 (by decide)))
  simp only [putAll]
  simp [dstOf, Act.put]
  clear hF hC hall hr' hsz hM
  go_wp2
  go_ret
  exact ⟨rfl, HFIN.out.1, HFIN.out.2, fun h => absurd rfl h⟩
set_option maxRecDepth 100000 in
set_option maxHeartbeats 4000000 in
theorem bld_end {w : World} {base bb : Nat} {bd : B} {c : Nat → Nat} {oa oc : Nat} {ys : List (Nd × C9)} {xn : C9} {da : Option Addr} {dc : Nat} {ds : List TpU} (h : BV w base bb bd c oa oc ys xn da dc ds) (a : Act) (p : Nat) (ha : a.kind = -2) {pa : Option Addr} {pc : Nat} {d : Nd} {l : List Nd} (hb : bd.outer = d :: l) (hk : bd.inner.kind ≠ -4) (hdl : bd.outer.length ≤ 100) (hfw : FewN 2000 d) :
    Calls Tryz.prog 70 #[.pointer (some ⟨bb, 0, none⟩), .agg #[.int .i64 a.kind, .int .i64 p, .string ⟨#[]⟩, .string ⟨a.name.toArray⟩, .slice pa a.pipe.length pc, .slice none 0 0, .slice none 0 0, .bool false, .slice none 0 0]] w (BldP w base bb (0, bd.close)) := by
  obtain ⟨W0, hW0⟩ : ∃ W0, W0 = w.alloc (.cells #[.int .i64 a.kind, .int .i64 p, .string ⟨#[]⟩, .string ⟨a.name.toArray⟩, .slice pa a.pipe.length pc, .slice none 0 0, .slice none 0 0, .bool false, .slice none 0 0] 56) := ⟨_, rfl⟩
  have hb0 : Below w.heap.size w W0 := by rw [hW0]; exact (Below.refl _ _).alloc (Nat.le_refl _) _
  have hx0 : W0.heap[w.heap.size]? = some (.cells #[.int .i64 a.kind, .int .i64 p, .string ⟨#[]⟩, .string ⟨a.name.toArray⟩, .slice pa a.pipe.length pc, .slice none 0 0, .slice none 0 0, .bool false, .slice none 0 0] 56 (0, 0)) := by rw [hW0]; exact heap_alloc_new w _
  obtain ⟨⟨u0, u1, u2, u3, u4, u5, u6, u7, u8⟩, -⟩ := nine_blk hx0
  have k1 : (a.kind == -2) = true := by simp [ha]
  have hl0 := (Array.getElem?_eq_some_iff.1 hx0).1
  have CE := end_plain (h.below hb0) hb hk hdl hfw
  have HCE := Lib.hid CE; have HB50 := Lib.hid (hb0.mono h.le); have HW0 := Lib.hid hW0
  clear CE hb0 h hx0 ha hb hW0
  go_enter Tryz.func70, Tryz.ntmps70
  go_upto_region 1 with fail
  rw [← HW0.out]
  go_wp2_with (go_at_call 109; (refine HCE.out.mono ?_); rintro e w1 ⟨rfl, h1, b1⟩)
  go_ret
  exact ⟨rfl, h1, HB50.out.trans b1, fun h => absurd rfl h⟩
set_option maxRecDepth 100000 in
set_option maxHeartbeats 4000000 in
theorem bld_enter {w : World} {base bb : Nat} {bd : B} {c : Nat → Nat} {oa oc : Nat} {ys : List (Nd × C9)} {xn : C9} {da : Option Addr} {dc : Nat} {ds : List TpU} (h : BV w base bb bd c oa oc ys xn da dc ds) (a : Act) (p : Nat) (k : Int) (hkk : k = 5 ∨ k = 6 ∨ k = 7 ∨ k = 8) (ha : a.kind = k) {pa : Option Addr} {pc : Nat} {us : List CU} (hv : PipeV w (Fz base w c) a.pipe pa us) (hdl : bd.outer.length ≤ 100) :
    Calls Tryz.prog 70 #[.pointer (some ⟨bb, 0, none⟩), .agg #[.int .i64 a.kind, .int .i64 p, .string ⟨#[]⟩, .string ⟨a.name.toArray⟩, .slice pa a.pipe.length pc, .slice none 0 0, .slice none 0 0, .bool false, .slice none 0 0]] w (BldP w base bb (if bd.depth = 12 then (13, bd) else (0, bd.enter (nodeOf a p)))) := by
  obtain ⟨W0, hW0⟩ : ∃ W0, W0 = w.alloc (.cells #[.int .i64 a.kind, .int .i64 p, .string ⟨#[]⟩, .string ⟨a.name.toArray⟩, .slice pa a.pipe.length pc, .slice none 0 0, .slice none 0 0, .bool false, .slice none 0 0] 56) := ⟨_, rfl⟩
  have hb0 : Below w.heap.size w W0 := by rw [hW0]; exact (Below.refl _ _).alloc (Nat.le_refl _) _
  have hx0 : W0.heap[w.heap.size]? = some (.cells #[.int .i64 a.kind, .int .i64 p, .string ⟨#[]⟩, .string ⟨a.name.toArray⟩, .slice pa a.pipe.length pc, .slice none 0 0, .slice none 0 0, .bool false, .slice none 0 0] 56 (0, 0)) := by rw [hW0]; exact heap_alloc_new w _
  obtain ⟨⟨u0, u1, u2, u3, u4, u5, u6, u7, u8⟩, -⟩ := nine_blk hx0
  have hdep : ys.length ≤ 100 := by have := h.depth; omega
  have hl0 := (Array.getElem?_eq_some_iff.1 hx0).1
  have hv0 := h.below hb0
  have CE := enter_any hv0 a p (hv.keep (Fz.belowIn hb0) (fun g hg => hb0.block g hg.2.1)) (pc := pc) hdl
  unfold C9.val at CE
  obtain ⟨⟨c0, -⟩, -⟩ := two_blk hv0.blk
  have CD := depth_cell W0 bb oa ys.length oc (by omega) c0
  have k1 : (a.kind == -2) = false := by simp; omega
  have k2 : (a.kind == -1) = false := by simp; omega
  have k3 : (a.kind == -3) = false := by simp; omega
  have k4 : (a.kind == -4) = false := by simp; omega
  have HCE := Lib.hid CE; have HCD := Lib.hid CD; have HB50 := Lib.hid (hb0.mono h.le); have HBZ := Lib.hid hb0; have HW0 := Lib.hid hW0; have HV0 := Lib.hid (show BVE W0 base bb bd from ⟨_, _, _, _, _, _, _, _, hv0⟩)
  have hdd : bd.depth = ys.length := by unfold B.depth; exact h.depth.symm
  have HDD := Lib.hid hdd
  clear CE CD hb0 hx0 hW0 hv0 c0 hv hdd h
  by_cases h12 : ys.length = 12
  · have t12 : ((ys.length : Int) == 12) = true := by simp [h12]
    have HP := Lib.hid (show (if bd.depth = 12 then (13, bd) else (0, bd.enter (nodeOf a p))) = (13, bd) by rw [HDD.out, if_pos h12])
    clear h12
    obtain rfl | rfl | rfl | rfl := hkk
    all_goals
      have k5 := ha
      have ku : (a.kind == 5) = decide (a.kind = 5) := by by_cases hh : a.kind = 5 <;> simp [hh]
      simp only [ha] at k1 k2 k3 k4 u0 ⊢
      rw [HP.out]
      simp only [ha] at HW0
      go_enter Tryz.func70, Tryz.ntmps70
      go_upto_region 1 with fail
      rw [← HW0.out]
      go_wp2_with (go_at_call 42; (refine HCD.out.mono ?_); rintro e w1 ⟨rfl, rfl⟩)
      go_ret
      exact ⟨rfl, HV0.out, HB50.out, fun _ => HBZ.out⟩
  · have t12 : ((ys.length : Int) == 12) = false := by simp; omega
    have HP := Lib.hid (show (if bd.depth = 12 then (13, bd) else (0, bd.enter (nodeOf a p))) = (0, bd.enter (nodeOf a p)) by rw [HDD.out, if_neg h12])
    clear h12
    obtain rfl | rfl | rfl | rfl := hkk
    all_goals
      have k5 := ha
      simp only [ha] at k1 k2 k3 k4 u0 HCE ⊢
      rw [HP.out]
      simp only [ha] at HW0
      go_enter Tryz.func70, Tryz.ntmps70
      go_upto_region 1 with fail
      rw [← HW0.out]
      go_wp2_with (first
        | (go_at_call 42; (refine HCD.out.mono ?_); rintro e w1 ⟨rfl, rfl⟩)
        | (go_at_call 40; (refine HCE.out.mono ?_); rintro e w1 ⟨rfl, h1, b1⟩))
      go_ret
      exact ⟨rfl, h1, HB50.out.trans b1, fun h => absurd rfl h⟩
end Tr
end Go.Proofs.YtlfbcaenlifmkaaGreatDoor
