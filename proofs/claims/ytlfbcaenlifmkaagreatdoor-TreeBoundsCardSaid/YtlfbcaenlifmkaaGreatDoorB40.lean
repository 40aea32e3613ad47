/- The builder takes a part. Written by gen_qprt.py. -/
import Derived.Test.YtlfbcaenlifmkaaGreatDoorB39
namespace Go.Proofs.YtlfbcaenlifmkaaGreatDoor
open Go.RowKit
namespace Tr
open Sc Sh Sp
set_option maxRecDepth 100000 in
set_option maxHeartbeats 4000000 in
theorem part_text {w : World} {base bb : Nat} {bd : B} {c : Nat → Nat} {oa oc : Nat} {ys : List (Nd × C9)} {xn : C9} {da : Option Addr} {dc : Nat} {ds : List TpU} (h : BV w base bb bd c oa oc ys xn da dc ds) (pt : Tx.P) (ha : pt.act = false) (hw : bd.inner.waits = false) (hf : FewN 2000 bd.inner) (hd : bd.outer.length ≤ 100) :
    Calls Tryz.prog 41 #[.pointer (some ⟨bb, 0, none⟩), .agg #[.bool pt.act, .string ⟨pt.s.toArray⟩, .int .i64 pt.at_]] w (BldP w base bb (partB pt bd)) := by
  have hp : partB pt bd = (0, bd.putB (.mk 1 pt.at_ pt.s [] [] [] [] false [])) := by unfold partB; rw [ha, hw]; rfl
  obtain ⟨W0, hW0⟩ : ∃ W0, W0 = w.alloc (.cells #[.bool pt.act, .string ⟨pt.s.toArray⟩, .int .i64 pt.at_] 100) := ⟨_, rfl⟩
  have hb0 : Below w.heap.size w W0 := by rw [hW0]; exact (Below.refl _ _).alloc (Nat.le_refl _) _
  have hx0 : W0.heap[w.heap.size]? = some (.cells #[.bool pt.act, .string ⟨pt.s.toArray⟩, .int .i64 pt.at_] 100 (0, 0)) := by rw [hW0]; exact heap_alloc_new w _
  have CT := text_put (h.below hb0) pt hw hf hd
  rw [hp]
  obtain ⟨⟨u0, u1, u2⟩, -⟩ := three_blkP hx0
  have hl0 := (Array.getElem?_eq_some_iff.1 hx0).1
  rw [ha] at u0 CT hW0 ⊢
  have HW0 := Lib.hid hW0; have HCT := Lib.hid CT; have HB50 := Lib.hid (hb0.mono h.le)
  clear hW0 CT hb0 hx0 h hw hf hp
  go_enter Tryz.func41, Tryz.ntmps41
  go_upto_region 1 with fail
  rw [← HW0.out]
  go_wp2_with (go_at_call 66; (refine HCT.out.mono ?_); rintro e w1 ⟨rfl, h1, b1, -⟩)
  go_ret
  exact ⟨rfl, h1, HB50.out.trans b1, fun h => absurd rfl h⟩
set_option maxRecDepth 100000 in
set_option maxHeartbeats 4000000 in
theorem part_bad {w : World} {base bb : Nat} {bd : B} {c : Nat → Nat} {oa oc : Nat} {ys : List (Nd × C9)} {xn : C9} {da : Option Addr} {dc : Nat} {ds : List TpU} (h : BV w base bb bd c oa oc ys xn da dc ds) (hL : Lean w) (pt : Tx.P) (hsl : pt.s.length ≤ 2000) (ha : pt.act = true) (he : (actionL pt.s).2 ≠ 0) (hd : bd.outer.length ≤ 100) :
    Calls Tryz.prog 41 #[.pointer (some ⟨bb, 0, none⟩), .agg #[.bool pt.act, .string ⟨pt.s.toArray⟩, .int .i64 pt.at_]] w (BldP w base bb (partB pt bd)) := by
  have hp : partB pt bd = ((actionL pt.s).2, bd) := by unfold partB; rw [if_pos ha, if_neg he]
  rw [hp, ha]
  obtain ⟨W0, hW0⟩ : ∃ W0, W0 = w.alloc (.cells #[.bool true, .string ⟨pt.s.toArray⟩, .int .i64 pt.at_] 100) := ⟨_, rfl⟩
  have hb0 : Below w.heap.size w W0 := by rw [hW0]; exact (Below.refl _ _).alloc (Nat.le_refl _) _
  have hx0 : W0.heap[w.heap.size]? = some (.cells #[.bool true, .string ⟨pt.s.toArray⟩, .int .i64 pt.at_] 100 (0, 0)) := by rw [hW0]; exact heap_alloc_new w _
  have hdep : ys.length ≤ 100 := by have := h.depth; omega
  obtain ⟨⟨u0, u1, u2⟩, -⟩ := three_blkP hx0
  have hl0 := (Array.getElem?_eq_some_iff.1 hx0).1
  have CA := actionOf_any ⟨pt.s.toArray⟩ W0 (by show pt.s.length ≤ maxLen; unfold maxLen; omega) (hL.below hb0)
  rw [show (⟨pt.s.toArray⟩ : ByteArray).data.toList = pt.s from rfl] at CA
  generalize actionL pt.s = x at *
  obtain ⟨a, er⟩ := x
  simp only at he
  have te : ((er : Int) != 0) = true := by simp; omega
  have HW0 := Lib.hid hW0; have HCA := Lib.hid CA; have HB50 := Lib.hid (hb0.mono h.le); have HB0 := Lib.hid hb0; have HV := Lib.hid h
  clear hW0 CA hb0 hx0 h hp he hL
  go_enter Tryz.func41, Tryz.ntmps41
  go_upto_region 1 with fail
  rw [← HW0.out]
  go_wp2_with (go_at_call 67; (refine HCA.out.mono ?_); rintro e w1 ⟨cc, rfl, b1, pa, pc, us, rfl, hpv⟩; unfold C9.val; have B1 := Lib.hid b1; have HPV := Lib.hid hpv; clear b1 hpv)
  go_ret
  have hb9 : Below w.heap.size w (w1.alloc (.cells #[.int .i64 a.kind, .int .i64 0, .string ⟨#[]⟩, .string ⟨a.name.toArray⟩, .slice pa a.pipe.length pc, .slice none 0 0, .slice none 0 0, .bool false, .slice none 0 0] 56)) := (HB0.out.trans (B1.out.mono HB0.out.size)).alloc (by have := HB0.out.size; have := B1.out.size; omega) _
  exact ⟨rfl, ⟨_, _, _, _, _, _, _, _, HV.out.below hb9⟩, hb9.mono HV.out.le, fun _ => hb9⟩
/-- What the builder's action asks for, and leaves. -/
def ActC (base bb : Nat) (bd : B) (a : Act) (p : Nat) : Prop := ∀ (W : World) (c : Nat → Nat) (oa oc : Nat) (ys : List (Nd × C9)) (xn : C9) (da : Option Addr) (dc : Nat) (ds : List TpU) (pa : Option Addr) (pc : Nat) (us : List CU),
  BV W base bb bd c oa oc ys xn da dc ds → PipeV W (Fz base W c) a.pipe pa us → Calls Tryz.prog 70 #[.pointer (some ⟨bb, 0, none⟩), .agg #[.int .i64 a.kind, .int .i64 p, .string ⟨#[]⟩, .string ⟨a.name.toArray⟩, .slice pa a.pipe.length pc, .slice none 0 0, .slice none 0 0, .bool false, .slice none 0 0]] W (BldP W base bb (actB a p bd))
set_option maxRecDepth 100000 in
set_option maxHeartbeats 4000000 in
theorem part_act {w : World} {base bb : Nat} {bd : B} {c : Nat → Nat} {oa oc : Nat} {ys : List (Nd × C9)} {xn : C9} {da : Option Addr} {dc : Nat} {ds : List TpU} (h : BV w base bb bd c oa oc ys xn da dc ds) (hL : Lean w) (pt : Tx.P) (hsl : pt.s.length ≤ 2000) (ha : pt.act = true) (he : (actionL pt.s).2 = 0) (hd : bd.outer.length ≤ 100) (hA : bd.inner.allows (actionL pt.s).1.kind = true → ActC base bb bd (actionL pt.s).1 pt.at_) :
    Calls Tryz.prog 41 #[.pointer (some ⟨bb, 0, none⟩), .agg #[.bool pt.act, .string ⟨pt.s.toArray⟩, .int .i64 pt.at_]] w (BldP w base bb (partB pt bd)) := by
  have hp : partB pt bd = (if bd.inner.allows (actionL pt.s).1.kind then actB (actionL pt.s).1 pt.at_ bd else (12, bd)) := by unfold partB; rw [if_pos ha, if_pos he]
  rw [hp, ha]
  obtain ⟨W0, hW0⟩ : ∃ W0, W0 = w.alloc (.cells #[.bool true, .string ⟨pt.s.toArray⟩, .int .i64 pt.at_] 100) := ⟨_, rfl⟩
  have hb0 : Below w.heap.size w W0 := by rw [hW0]; exact (Below.refl _ _).alloc (Nat.le_refl _) _
  have hx0 : W0.heap[w.heap.size]? = some (.cells #[.bool true, .string ⟨pt.s.toArray⟩, .int .i64 pt.at_] 100 (0, 0)) := by rw [hW0]; exact heap_alloc_new w _
  have hdep : ys.length ≤ 100 := by have := h.depth; omega
  obtain ⟨⟨u0, u1, u2⟩, -⟩ := three_blkP hx0
  have hl0 := (Array.getElem?_eq_some_iff.1 hx0).1
  have CA := actionOf_any ⟨pt.s.toArray⟩ W0 (by show pt.s.length ≤ maxLen; unfold maxLen; omega) (hL.below hb0)
  rw [show (⟨pt.s.toArray⟩ : ByteArray).data.toList = pt.s from rfl] at CA
  generalize actionL pt.s = x at *
  obtain ⟨a, er⟩ := x
  simp only at he hA hp
  subst he
  obtain ⟨al, hal⟩ : ∃ al, al = bd.inner.allows a.kind := ⟨_, rfl⟩
  rw [← hal] at hA
  obtain ⟨full, hfull⟩ : ∃ full, full = (if al = true then actB a pt.at_ bd else (12, bd)) := ⟨_, rfl⟩
  show Calls _ _ _ _ (BldP w base bb (if bd.inner.allows a.kind = true then actB a pt.at_ bd else (12, bd)))
  rw [← hal, ← hfull]
  have HW0 := Lib.hid hW0; have HCA := Lib.hid CA; have HB0 := Lib.hid hb0; have HV := Lib.hid h; have HX0 := Lib.hid hx0; have HA := Lib.hid hA; have HALD := Lib.hid hal; have HFU := Lib.hid hfull
  clear hW0 CA hb0 hx0 h hp hL hA hal hfull
  go_enter Tryz.func41, Tryz.ntmps41
  go_upto_region 1 with fail
  rw [← HW0.out]
  go_upto_region 6 with (go_at_call 67; (refine HCA.out.mono ?_); rintro e w1 ⟨cc, rfl, b1, pa, pc, us, rfl, hpv⟩; unfold C9.val; have B1 := Lib.hid b1; have HPV := Lib.hid hpv; clear b1 hpv)
  obtain ⟨W5, hW5⟩ : ∃ W5, W5 = w1.alloc (.cells #[.int .i64 a.kind, .int .i64 0, .string ⟨#[]⟩, .string ⟨a.name.toArray⟩, .slice pa a.pipe.length pc, .slice none 0 0, .slice none 0 0, .bool false, .slice none 0 0] 56) := ⟨_, rfl⟩
  have hb15 : Below w1.heap.size w1 W5 := by rw [hW5]; exact (Below.refl _ _).alloc (Nat.le_refl _) _
  have hx5 : W5.heap[w1.heap.size]? = some (.cells #[.int .i64 a.kind, .int .i64 0, .string ⟨#[]⟩, .string ⟨a.name.toArray⟩, .slice pa a.pipe.length pc, .slice none 0 0, .slice none 0 0, .bool false, .slice none 0 0] 56 (0, 0)) := by rw [hW5]; exact heap_alloc_new w1 _
  have hb5 : Below w.heap.size w W5 := (HB0.out.trans (B1.out.mono HB0.out.size)).trans (hb15.mono (by have := HB0.out.size; have := B1.out.size; omega))
  have hpx : W5.heap[w.heap.size]? = some (.cells #[.bool true, .string ⟨pt.s.toArray⟩, .int .i64 pt.at_] 100 (0, 0)) := (hb15.block _ (by have := B1.out.size; omega)).trans ((B1.out.block _ hl0).trans HX0.out)
  have hv5 := HV.out.below hb5
  have hnbw : w.heap.size < w1.heap.size := by have := B1.out.size; omega
  have hpv5 : PipeV W5 (Fz base W5 c) a.pipe pa us := HPV.out.keep (fun g hg => ⟨by have := HV.out.le; have := HB0.out.size; have := hg.1; omega, by have := hb15.size; have := hg.2; omega, HV.out.new g (by have := HB0.out.size; have := hg.1; omega)⟩) (fun g hg => hb15.block g hg.2)
  have hpn : ∀ g, (Span W0.heap.size w1.heap.size) g → g ≠ w1.heap.size := fun g hg e => by have := hg.2; omega
  have hpvS : PipeV W5 (Span W0.heap.size w1.heap.size) a.pipe pa us := HPV.out.keep (fun _ h => h) (fun g hg => hb15.block g hg.2)
  rw [← hW5]
  clear hW5
  obtain ⟨nb, hnb⟩ : ∃ nb, nb = w1.heap.size := ⟨_, rfl⟩
  rw [← hnb] at hx5 hnbw hpvS ⊢
  have HNB := Lib.hid hnb
  have HBX := Lib.hid hx5; have HBL := Lib.hid (Array.getElem?_eq_some_iff.1 hx5).1; have HV5 := Lib.hid hv5; have HB5 := Lib.hid hb5; have HPX := Lib.hid hpx; have HPS := Lib.hid hpvS
  have CAL := fun v (hv : Below W5.heap.size W5 v) => (show Calls Tryz.prog 69 #[.pointer (some ⟨oa, ys.length * 9, none⟩), .int .i64 a.kind] v (fun e w' => e = .returned (.bool al) ∧ v = w') from by
    have hvv := HV5.out.below hv
    have i0 := hvv.cell 0 (by omega); have i7 := hvv.cell 7 (by omega); have i8 := hvv.cell 8 (by omega)
    simp only [C9.cells, List.getElem?_cons_succ, List.getElem?_cons_zero, Nat.add_zero] at i0 i7 i8
    have := allows_cell v oa (ys.length * 9) xn.k xn.h xn.ca xn.cl xn.cc i0 i7 i8 a.kind
    obtain ⟨cs, k1, k2, -⟩ := hvv.last.cases
    rw [hvv.last.hk, hvv.last.hh, k2, show cs.length = bd.inner.cases.length by rw [← k1, List.length_map], ← allows_is, ← HALD.out] at this
    exact this)
  have HAL := Lib.hid CAL
  clear CAL hx5 hv5 hb5 hpx hpvS hpv5 hpn hb15 hnb u0 u1 u2
  refine wp_region_by (QJ (fun (_ : Unit) qq => match qq with | 0 => .pointer (some ⟨bb, 0, none⟩) | 1 => .pointer (some ⟨oa, ys.length * 9, none⟩) | 2 => .pointer (some ⟨nb, 0, none⟩) | 3 => .int .i64 a.kind | 4 => .bool al | 5 => .bool (!al) | _ => undef) (fun _ listed v => Below W5.heap.size W5 v)) (by kernel_rfl) ?_ ?_ ?_
  · exact ⟨by simp, Closed.start _, (), Fr.start _ _ _, (Below.refl W5.heap.size W5).drew⟩
  · intro listed b v q hJ hi
    obtain ⟨hsz, hC, x, hF, hM⟩ := hJ
    obtain ⟨hl1, hiN⟩ := not_up hsz hi
    obtain ⟨_, o, ho, hdeps⟩ := mem_ready.1 hi
    have hiN : q < 6 := hiN
    obtain rfl | rfl | rfl | rfl | rfl | rfl : q = 0 ∨ q = 1 ∨ q = 2 ∨ q = 3 ∨ q = 4 ∨ q = 5 := by omega
    · cases ho
      have e0 := hF.old_is 0 (by rfl) rfl
      refine QJ.quiet (x := x) hsz hC hi hF (Slots.of (by rfl)) rfl (wanted_none rfl) hM ?_
      show _ = Result.ok (Next.value (.pointer (some ⟨bb, 0, none⟩))) v
      simp [execOp, go_sem, e0]
    · cases ho
      have e22 : b.tmps[22]? = some (.pointer (some ⟨bb, 0, none⟩)) := hF.up 0 22 rfl (hdeps ⟨0, .data⟩ (by simp) rfl)
      refine QJ.call (x := x) (f := 68) (args := #[.pointer (some ⟨bb, 0, none⟩)]) hsz hC hi hF (Slots.of (by rfl)) rfl (wanted_none rfl) (by simp [execOp, go_sem, e22]) (inner_cell v bb oa ys.length oc (by omega) ((hM.cell (p := ⟨bb, 0, none⟩) HV5.out.bblt).trans (two_blk HV5.out.blk).1.1)) ?_
      rintro e w' ⟨rfl, hw⟩
      exact ⟨(), rfl, fun _ _ => rfl, (show Below W5.heap.size W5 w' from hw ▸ hM.drew)⟩
    · cases ho
      have e5 := hF.old_is 5 (by rfl) rfl
      refine QJ.quiet (x := x) hsz hC hi hF (Slots.of (by rfl)) rfl (wanted_none rfl) hM ?_
      show _ = Result.ok (Next.value (.pointer (some ⟨nb, 0, none⟩))) v
      simp [execOp, go_sem, e5]
    · cases ho
      obtain ⟨⟨z0, -⟩, -⟩ := nine_blk ((hM.block nb HBL.out).trans HBX.out)
      have e24 : b.tmps[24]? = some (.pointer (some ⟨nb, 0, none⟩)) := hF.up 2 24 rfl (hdeps ⟨2, .data⟩ (by simp) rfl)
      refine QJ.quiet (x := x) hsz hC hi hF (Slots.of (by rfl)) rfl (wanted_none rfl) hM ?_
      show _ = Result.ok (Next.value (.int .i64 a.kind)) v
      simp [execOp, go_sem, e24, z0]
    · cases ho
      have e23 : b.tmps[23]? = some (.pointer (some ⟨oa, ys.length * 9, none⟩)) := hF.up 1 23 rfl (hdeps ⟨1, .data⟩ (by simp) rfl)
      have e25 : b.tmps[25]? = some (.int .i64 a.kind) := hF.up 3 25 rfl (hdeps ⟨3, .data⟩ (by simp) rfl)
      refine QJ.call (x := x) (f := 69) (args := #[.pointer (some ⟨oa, ys.length * 9, none⟩), .int .i64 a.kind]) hsz hC hi hF (Slots.of (by rfl)) rfl (wanted_none rfl) (by simp [execOp, go_sem, e23, e25]) (HAL.out v hM) ?_
      rintro e w' ⟨rfl, hw⟩
      exact ⟨(), rfl, fun _ _ => rfl, (show Below W5.heap.size W5 w' from hw ▸ hM)⟩
    · cases ho
      have e26 : b.tmps[26]? = some (.bool al) := hF.up 4 26 rfl (hdeps ⟨4, .data⟩ (by simp) rfl)
      refine QJ.quiet (x := x) hsz hC hi hF (Slots.of (by rfl)) rfl (wanted_none rfl) hM ?_
      show _ = Result.ok (Next.value (.bool (!al))) v
      simp [execOp, go_sem, e26]
  intro listed b6 W6 hJ hr'
  obtain ⟨hsz, hC, xx, hF, hM⟩ := hJ
  have hall := all_upB2 (by rfl) hsz hr'
  have hb : b6 = putAll _ _ _ 6 := hF.done (Slots.of (by rfl)) hall
  subst hb
  have HW6 := Lib.hid hM
  simp only [putAll]
  simp [dstOf, Act.put]
  clear hF hC hall hr' hsz hM
  have hb6 := HB5.out.trans (HW6.out.mono HB5.out.size)
  cases al
  · have HFU2 := Lib.hid (show full = (12, bd) by rw [HFU.out, if_neg (by decide)])
    go_wp2
    go_ret
    rw [HFU2.out]
    exact ⟨rfl, ⟨_, _, _, _, _, _, _, _, HV.out.below hb6⟩, hb6.mono HV.out.le, fun _ => hb6⟩
  · have HFU2 := Lib.hid (show full = actB a pt.at_ bd by rw [HFU.out, if_pos rfl])
    have hx6 := (HW6.out.block nb HBL.out).trans HBX.out
    have hp6 := (HW6.out.block _ (Array.getElem?_eq_some_iff.1 HPX.out).1).trans HPX.out
    obtain ⟨⟨u0, u1, u2⟩, -⟩ := three_blkP hp6
    obtain ⟨⟨m0, m1, m2, m3, m4, m5, m6, m7, m8⟩, ⟨f0, f1, f2, f3, f4, f5, f6, f7, f8⟩⟩ := nine_blk hx6
    have hlx := (Array.getElem?_eq_some_iff.1 hx6).1
    have hlp := (Array.getElem?_eq_some_iff.1 hp6).1
    have HB6 := Lib.hid hb6; have HX6 := Lib.hid hx6
    clear hb6 hx6 hp6
    go_upto_region 9 with fail
    obtain ⟨W7, hW7⟩ : ∃ W7, W7 = W6.setCell ⟨nb, 1, none⟩ (.int .i64 pt.at_) := ⟨_, rfl⟩
    have ho7 : Only nb W6 W7 := by rw [hW7]; exact (Only.refl nb W6).setCell 1 _
    have hx7 : W7.heap[nb]? = some (.cells #[.int .i64 a.kind, .int .i64 pt.at_, .string ⟨#[]⟩, .string ⟨a.name.toArray⟩, .slice pa a.pipe.length pc, .slice none 0 0, .slice none 0 0, .bool false, .slice none 0 0] 56 (0, 0)) := by rw [hW7]; have := HX6.out; simp [World.setCell, Array.getElem?_modify, this]
    have hb7 : Below w.heap.size w W7 := HB6.out.trans (ho7.below (Nat.le_of_lt hnbw) HB6.out.size)
    have hv7 := HV.out.below hb7
    have hpv7 : PipeV W7 (Fz base W7 c) a.pipe pa us := HPS.out.keep (fun g hg => ⟨by have := HV.out.le; have := HB0.out.size; have := hg.1; omega, by have := hg.2; have := HNB.out; have := ho7.size; omega, HV.out.new g (by have := HB0.out.size; have := hg.1; omega)⟩) (fun g hg => (ho7.blk_same (by have := hg.2; have := HNB.out; omega) (by have := hg.2; have := HNB.out; omega)).trans (HW6.out.block g (by have := hg.2; have := HNB.out; have := HBL.out; omega)))
    have CC := HA.out rfl W7 c oa oc ys xn da dc ds pa pc us hv7 hpv7
    rw [← hW7]
    obtain ⟨⟨q0, q1, q2, q3, q4, q5, q6, q7, q8⟩, -⟩ := nine_blk hx7
    have hl7 := (Array.getElem?_eq_some_iff.1 hx7).1
    have HCC := Lib.hid CC; have HB7 := Lib.hid hb7; have hle := HV.out.le
    clear CC hb7 hv7 hpv7 hx7 hW7 ho7 m0 m1 m2 m3 m4 m5 m6 m7 m8 f0 f1 f2 f3 f4 f5 f6 f7 f8 u0 u1 u2
    go_wp2_with (go_at_call 70; (refine HCC.out.mono ?_); rintro e w8 ⟨rfl, h8, b8, z8⟩)
    go_ret
    rw [HFU2.out]
    exact ⟨rfl, h8, (HB7.out.mono hle).trans b8, fun h => HB7.out.trans ((z8 h).mono HB7.out.size)⟩
end Tr
end Go.Proofs.YtlfbcaenlifmkaaGreatDoor
