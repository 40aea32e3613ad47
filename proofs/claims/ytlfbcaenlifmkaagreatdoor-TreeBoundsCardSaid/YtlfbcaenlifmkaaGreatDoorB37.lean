/- A block more is open. Written by gen_qent.py. -/
import Derived.Test.YtlfbcaenlifmkaaGreatDoorB36
namespace Go.Proofs.YtlfbcaenlifmkaaGreatDoor
open Go.RowKit
namespace Tr
open Sc Sh Sp
theorem infoB : (Tryz.prog.info? 143).map (fun i => (i.zero, i.size, i.bytes)) = some (some (.agg z9), 9, 152) := by kernel_rfl
theorem ApM.doneZ {w w0 W : World} {base : Nat} {e : TypeId} {sz pb po n : Nat} {v : Value} {xs zr : List Value} {x : Nat × Nat × Nat} (h : ApM w0 base e sz pb po v n xs zr zr true true false true x W) (hb : Below w.heap.size w w0) (hpb : pb < w.heap.size) : PutW base e sz pb po v n (xs ++ zr) w W x.2.1 x.2.2 := by
  have hs := hb.size
  refine ⟨h.os.trans hb.os, h.tape.trans hb.tape, h.output.trans hb.output, Nat.le_trans hs h.size, fun k hk h1 h2 => (h.chg k (by omega) (fun _ => h1) (fun _ => h2)).trans (hb.block k hk), ?_, h.own rfl, (h.new rfl).imp id (fun h => by omega)⟩
  rw [h.slot rfl]
  unfold World.setCell; simp only [Array.getElem?_modify]; rw [hb.block pb hpb]
set_option maxRecDepth 100000 in
set_option maxHeartbeats 8000000 in
theorem enter_cell (w : World) (base bb : Nat) (hbase : base ≤ w.heap.size) (y : C9) (hpb : bb < w.heap.size) (oa : Option Addr) (n oc : Nat) (xs : List Value)
    (hp : w.cell? ⟨bb, 0, none⟩ = some (.slice oa n oc)) (hpf : w.frozen? ⟨bb, 0, none⟩ = false) (hown : w.ownsRow base 143 9 (.slice oa n oc) n xs) (hn : n ≤ 2000) (hne : (Value.slice oa n oc).ownBlock ≠ some bb) :
    Calls Tryz.prog 40 #[.pointer (some ⟨bb, 0, none⟩), y.val] w fun e w' => e = .returned (.tuple #[]) ∧ ∃ g k, PutW base 143 9 bb 0 (.slice oa n oc) n (xs ++ y.cells) w w' g k := by
  obtain ⟨W0, hW0⟩ : ∃ W0, W0 = w.alloc (.cells #[.int .i64 y.k, .int .i64 y.at_, .string y.s, .string y.name, .slice y.pa y.pl y.pc, .slice y.ba y.bl y.bc, .slice y.ea y.el y.ec, .bool y.h, .slice y.ca y.cl y.cc] 56) := ⟨_, rfl⟩
  have hb0 : Below w.heap.size w W0 := by rw [hW0]; exact (Below.refl _ _).alloc (Nat.le_refl _) _
  have hz0 : W0.heap.size = w.heap.size + 1 := by rw [hW0]; simp
  have hbx0 : W0.heap[w.heap.size]? = some (.cells #[.int .i64 y.k, .int .i64 y.at_, .string y.s, .string y.name, .slice y.pa y.pl y.pc, .slice y.ba y.bl y.bc, .slice y.ea y.el y.ec, .bool y.h, .slice y.ca y.cl y.cc] 56 (0, 0)) := by rw [hW0]; exact heap_alloc_new w _
  have hpb0 : bb < W0.heap.size := by omega
  have hp0 := (hb0.cell (p := ⟨bb, 0, none⟩) hpb).trans hp
  have hpf0 : W0.frozen? ⟨bb, 0, none⟩ = false := by rw [← hpf]; simp [World.frozen?, hb0.block bb hpb]
  have hbx : w.heap.size < W0.heap.size := by omega
  have hnb : w.heap.size ≠ bb := by omega
  have hno : some w.heap.size ≠ (Value.slice oa n oc).ownBlock := fun e => by have := (hown.lt _ e.symm).2; omega
  have how0 : W0.ownsRow base 143 9 (.slice oa n oc) n xs := ownsRow_same hown (fun g hg => hb0.block g (hown.lt g hg).2)
  have hbase0 : base ≤ W0.heap.size := by omega
  obtain ⟨i0, hi0, hz0', hz1', hz2'⟩ := info_parts infoB
  have HW0 := Lib.hid hW0; have HB0 := Lib.hid hb0; have HBX := Lib.hid hbx0; have HOW := Lib.hid how0
  clear hW0 hb0 hbx0 how0 hown
  unfold C9.val
  go_enter Tryz.func40, Tryz.ntmps40
  go_upto_region 1 with fail
  rw [← HW0.out]
  refine wp_region_by (QJ (fun (x : Nat × Nat × Nat) qq => match qq with | 0 => .pointer (some ⟨bb, 0, none⟩) | 1 => .pointer (some ⟨bb, 0, none⟩) | 2 => .pointer (some ⟨bb, 0, none⟩) | 3 => .pointer (some ⟨bb, 0, none⟩) | 4 => .slice oa n oc | 5 => .agg #[.int .i64 y.k, .int .i64 y.at_, .string y.s, .string y.name, .slice y.pa y.pl y.pc, .slice y.ba y.bl y.bc, .slice y.ea y.el y.ec, .bool y.h, .slice y.ca y.cl y.cc] | 6 => .agg #[.int .i64 y.k, .int .i64 y.at_, .string y.s, .string y.name, .slice y.pa y.pl y.pc, .slice y.ba y.bl y.bc, .slice y.ea y.el y.ec, .bool y.h, .slice y.ca y.cl y.cc] | 7 => .slice (some ⟨x.1, 0, none⟩) 1 1 | 8 => .slice (some ⟨x.2.1, 0, none⟩) (n + 1) x.2.2 | 9 => .pointer (some ⟨bb, 0, none⟩) | 10 => .pointer (some ⟨bb, 0, none⟩) | _ => undef) (fun x listed v => ApM W0 base 143 9 bb 0 (.slice oa n oc) n xs y.cells y.cells (listed.getD 7 false) (listed.getD 8 false) false (listed.getD 11 false) x v)) (by kernel_rfl) ?_ ?_ ?_
  · exact ⟨by simp, Closed.start _, (0, 0, 0), Fr.start _ _ _, by simp only [rep_getDL]; first | exact ApM.startD | exact ApM.startDD⟩
  · intro listed b v q hJ hi
    obtain ⟨hsz, hC, x, hF, hM⟩ := hJ
    have hMb : ApM W0 base 143 9 bb 0 (.slice oa n oc) n xs y.cells y.cells (listed.getD 7 false) (listed.getD 8 false) false (listed.getD 11 false) x v := hM
    obtain ⟨hl1, hiN⟩ := not_up hsz hi
    obtain ⟨_, o, ho, hdeps⟩ := mem_ready.1 hi
    have hiN : q < 12 := hiN
    obtain rfl | rfl | rfl | rfl | rfl | rfl | rfl | rfl | rfl | rfl | rfl | rfl : q = 0 ∨ q = 1 ∨ q = 2 ∨ q = 3 ∨ q = 4 ∨ q = 5 ∨ q = 6 ∨ q = 7 ∨ q = 8 ∨ q = 9 ∨ q = 10 ∨ q = 11 := by omega
    · cases ho
      have e0 := hF.old_is 0 (by rfl) rfl
      refine QJ.quiet (x := x) hsz hC hi hF (Slots.of (by rfl)) rfl (wanted_none rfl) (show ApM W0 base 143 9 bb 0 (.slice oa n oc) n xs y.cells y.cells ((listed.setIfInBounds 0 true).getD 7 false) ((listed.setIfInBounds 0 true).getD 8 false) false ((listed.setIfInBounds 0 true).getD 11 false) x v by rw [getD_setN (show 0 ≠ 7 by decide), getD_setN (show 0 ≠ 8 by decide), getD_setN (show 0 ≠ 11 by decide)]; exact hMb) ?_
      show _ = Result.ok (Next.value (.pointer (some ⟨bb, 0, none⟩))) v
      simp [execOp, go_sem, e0]
    · cases ho
      have e0 := hF.old_is 0 (by rfl) rfl
      refine QJ.quiet (x := x) hsz hC hi hF (Slots.of (by rfl)) rfl (wanted_none rfl) (show ApM W0 base 143 9 bb 0 (.slice oa n oc) n xs y.cells y.cells ((listed.setIfInBounds 1 true).getD 7 false) ((listed.setIfInBounds 1 true).getD 8 false) false ((listed.setIfInBounds 1 true).getD 11 false) x v by rw [getD_setN (show 1 ≠ 7 by decide), getD_setN (show 1 ≠ 8 by decide), getD_setN (show 1 ≠ 11 by decide)]; exact hMb) ?_
      show _ = Result.ok (Next.value (.pointer (some ⟨bb, 0, none⟩))) v
      simp [execOp, go_sem, e0]
    · cases ho
      have e5 : b.tmps[5]? = some (.pointer (some ⟨bb, 0, none⟩)) := hF.up 1 5 rfl (hdeps ⟨1, .data⟩ (by simp) rfl)
      refine QJ.quiet (x := x) hsz hC hi hF (Slots.of (by rfl)) rfl (wanted_none rfl) (show ApM W0 base 143 9 bb 0 (.slice oa n oc) n xs y.cells y.cells ((listed.setIfInBounds 2 true).getD 7 false) ((listed.setIfInBounds 2 true).getD 8 false) false ((listed.setIfInBounds 2 true).getD 11 false) x v by rw [getD_setN (show 2 ≠ 7 by decide), getD_setN (show 2 ≠ 8 by decide), getD_setN (show 2 ≠ 11 by decide)]; exact hMb) ?_
      show _ = Result.ok (Next.value (.pointer (some ⟨bb, 0, none⟩))) v
      simp [execOp, go_sem, e5]
    · cases ho
      have e6 : b.tmps[6]? = some (.pointer (some ⟨bb, 0, none⟩)) := hF.up 2 6 rfl (hdeps ⟨2, .data⟩ (by simp) rfl)
      refine QJ.quiet (x := x) hsz hC hi hF (Slots.of (by rfl)) rfl (wanted_none rfl) (show ApM W0 base 143 9 bb 0 (.slice oa n oc) n xs y.cells y.cells ((listed.setIfInBounds 3 true).getD 7 false) ((listed.setIfInBounds 3 true).getD 8 false) false ((listed.setIfInBounds 3 true).getD 11 false) x v by rw [getD_setN (show 3 ≠ 7 by decide), getD_setN (show 3 ≠ 8 by decide), getD_setN (show 3 ≠ 11 by decide)]; exact hMb) ?_
      show _ = Result.ok (Next.value (.pointer (some ⟨bb, 0, none⟩))) v
      simp [execOp, go_sem, e6]
    · cases ho
      have l11 : listed.getD 11 false = false := by
        cases hh : listed.getD 11 false
        · rfl
        · have y0 := hC 11 _ rfl hh ⟨4, .phase⟩ (by simp) rfl; rw [hl1] at y0; cases y0
      have n1 : v.cell? ⟨bb, 0, none⟩ = some (.slice oa n oc) := (World.cell?_of_block (a := ⟨bb, 0, none⟩) (hMb.chg bb hpb0 (fun e => by rw [l11] at e; cases e) (fun _ e => hne e.symm))).trans hp0
      have e7 : b.tmps[7]? = some (.pointer (some ⟨bb, 0, none⟩)) := hF.up 3 7 rfl (hdeps ⟨3, .data⟩ (by simp) rfl)
      refine QJ.quiet (x := x) hsz hC hi hF (Slots.of (by rfl)) rfl (wanted_none rfl) (show ApM W0 base 143 9 bb 0 (.slice oa n oc) n xs y.cells y.cells ((listed.setIfInBounds 4 true).getD 7 false) ((listed.setIfInBounds 4 true).getD 8 false) false ((listed.setIfInBounds 4 true).getD 11 false) x v by rw [getD_setN (show 4 ≠ 7 by decide), getD_setN (show 4 ≠ 8 by decide), getD_setN (show 4 ≠ 11 by decide)]; exact hMb) ?_
      show _ = Result.ok (Next.value (.slice oa n oc)) v
      simp [execOp, go_sem, e7, n1]
    · cases ho
      obtain ⟨⟨z0, z1, z2, z3, z4, z5, z6, z7, z8⟩, -⟩ := nine_blk ((hMb.chg w.heap.size hbx (fun _ e => hnb e) (fun _ e => hno e)).trans HBX.out)
      have e3 := hF.old_is 3 (by rfl) rfl
      refine QJ.quiet (x := x) hsz hC hi hF (Slots.of (by rfl)) rfl (wanted_none rfl) (show ApM W0 base 143 9 bb 0 (.slice oa n oc) n xs y.cells y.cells ((listed.setIfInBounds 5 true).getD 7 false) ((listed.setIfInBounds 5 true).getD 8 false) false ((listed.setIfInBounds 5 true).getD 11 false) x v by rw [getD_setN (show 5 ≠ 7 by decide), getD_setN (show 5 ≠ 8 by decide), getD_setN (show 5 ≠ 11 by decide)]; exact hMb) ?_
      show _ = Result.ok (Next.value (.agg #[.int .i64 y.k, .int .i64 y.at_, .string y.s, .string y.name, .slice y.pa y.pl y.pc, .slice y.ba y.bl y.bc, .slice y.ea y.el y.ec, .bool y.h, .slice y.ca y.cl y.cc])) v
      simp [execOp, go_sem, e3, z0, z1, z2, z3, z4, z5, z6, z7, z8]
    · cases ho
      have e9 : b.tmps[9]? = some (.agg #[.int .i64 y.k, .int .i64 y.at_, .string y.s, .string y.name, .slice y.pa y.pl y.pc, .slice y.ba y.bl y.bc, .slice y.ea y.el y.ec, .bool y.h, .slice y.ca y.cl y.cc]) := hF.up 5 9 rfl (hdeps ⟨5, .data⟩ (by simp) rfl)
      refine QJ.quiet (x := x) hsz hC hi hF (Slots.of (by rfl)) rfl (wanted_none rfl) (show ApM W0 base 143 9 bb 0 (.slice oa n oc) n xs y.cells y.cells ((listed.setIfInBounds 6 true).getD 7 false) ((listed.setIfInBounds 6 true).getD 8 false) false ((listed.setIfInBounds 6 true).getD 11 false) x v by rw [getD_setN (show 6 ≠ 7 by decide), getD_setN (show 6 ≠ 8 by decide), getD_setN (show 6 ≠ 11 by decide)]; exact hMb) ?_
      show _ = Result.ok (Next.value (.agg #[.int .i64 y.k, .int .i64 y.at_, .string y.s, .string y.name, .slice y.pa y.pl y.pc, .slice y.ba y.bl y.bc, .slice y.ea y.el y.ec, .bool y.h, .slice y.ca y.cl y.cc])) v
      simp [execOp, go_sem, e9]
    · cases ho
      have e10 : b.tmps[10]? = some (.agg #[.int .i64 y.k, .int .i64 y.at_, .string y.s, .string y.name, .slice y.pa y.pl y.pc, .slice y.ba y.bl y.bc, .slice y.ea y.el y.ec, .bool y.h, .slice y.ca y.cl y.cc]) := hF.up 6 10 rfl (hdeps ⟨6, .data⟩ (by simp) rfl)
      have l8 : listed.getD 8 false = false := by
        cases hh : listed.getD 8 false
        · rfl
        · have y0 := hC 8 _ rfl hh ⟨7, .data⟩ (by simp) rfl; rw [hl1] at y0; cases y0
      have l11 : listed.getD 11 false = false := by
        cases hh : listed.getD 11 false
        · rfl
        · have y0 := hC 11 _ rfl hh ⟨7, .phase⟩ (by simp) rfl; rw [hl1] at y0; cases y0
      have m := hMb
      rw [hl1, l8, l11] at m
      refine QJ.make (v' := v.alloc (.cells #[.int .i64 y.k, .int .i64 y.at_, .string y.s, .string y.name, .slice y.pa y.pl y.pc, .slice y.ba y.bl y.bc, .slice y.ea y.el y.ec, .bool y.h, .slice y.ca y.cl y.cc] 143)) (x := x) (x' := (v.heap.size, x.2)) hsz hC hi hF (Slots.of (by rfl)) rfl (wanted_none rfl) (fun q hq => match q, (show q ≠ 7 by rintro rfl; rw [hl1] at hq; cases hq) with | 0, _ => rfl | 1, _ => rfl | 2, _ => rfl | 3, _ => rfl | 4, _ => rfl | 5, _ => rfl | 6, _ => rfl | 7, h => absurd rfl h | 8, _ => rfl | 9, _ => rfl | 10, _ => rfl | 11, _ => rfl | _ + 12, _ => rfl) (show ApM W0 base 143 9 bb 0 (.slice oa n oc) n xs y.cells y.cells ((listed.setIfInBounds 7 true).getD 7 false) ((listed.setIfInBounds 7 true).getD 8 false) false ((listed.setIfInBounds 7 true).getD 11 false) (v.heap.size, x.2) (v.alloc (.cells #[.int .i64 y.k, .int .i64 y.at_, .string y.s, .string y.name, .slice y.pa y.pl y.pc, .slice y.ba y.bl y.bc, .slice y.ea y.el y.ec, .bool y.h, .slice y.ca y.cl y.cc] 143)) by rw [getD_setS (by rw [hsz]; decide), getD_setN (show 7 ≠ 8 by decide), getD_setN (show 7 ≠ 11 by decide), l8, l11]; exact m.lay) ?_
      show _ = Result.ok (Next.value (.slice (some ⟨v.heap.size, 0, none⟩) 1 1)) _
      simp [execOp, go_sem, e10]
    · cases ho
      have l7 := hdeps ⟨7, .data⟩ (by simp) rfl
      have l11 : listed.getD 11 false = false := by
        cases hh : listed.getD 11 false
        · rfl
        · have y0 := hC 11 _ rfl hh ⟨8, .data⟩ (by simp) rfl; rw [hl1] at y0; cases y0
      have m := hMb
      rw [hl1, l7, l11] at m
      obtain ⟨hlit, hlx⟩ := m.lit rfl rfl
      have e8 : b.tmps[8]? = some (.slice oa n oc) := hF.up 4 8 rfl (hdeps ⟨4, .data⟩ (by simp) rfl)
      have e11 : b.tmps[11]? = some (.slice (some ⟨x.1, 0, none⟩) 1 1) := hF.up 7 11 rfl (hdeps ⟨7, .data⟩ (by simp) rfl)
      refine wpOp_wpG rfl (wanted_none rfl) ?_
      refine wp_append_fresh (.tmp 8) (.tmp 11) 95 rfl base 143 i0 (.agg z9) 9 152 Tryz.underlying95 hi0 hz0' hz1' hz2' rfl (by decide) (.slice oa n oc) n xs (by simp [Act.eval, e8]) (m.row HOW.out) ⟨x.1, 0, none⟩ 1 1 y.cells (by simp [Act.eval, e11]) rfl (lit_read hlit) (C9.one y) (by simp [maxLen]; omega) (by omega) (by have := m.size; omega) ?_
      intro v2 w2 h1 h2 h3
      obtain ⟨g2, c2, rfl⟩ := own_some h1
      exact ⟨by simp [hsz], hC.put hi, (x.1, g2, c2), (hF.congr (fun q hq => match q, (show q ≠ 8 by rintro rfl; rw [hl1] at hq; cases hq) with | 0, _ => rfl | 1, _ => rfl | 2, _ => rfl | 3, _ => rfl | 4, _ => rfl | 5, _ => rfl | 6, _ => rfl | 7, _ => rfl | 8, h => absurd rfl h | 9, _ => rfl | 10, _ => rfl | 11, _ => rfl | _ + 12, _ => rfl)).put (Slots.of (by rfl)) hsz rfl, (show ApM W0 base 143 9 bb 0 (.slice oa n oc) n xs y.cells y.cells ((listed.setIfInBounds 8 true).getD 7 false) ((listed.setIfInBounds 8 true).getD 8 false) false ((listed.setIfInBounds 8 true).getD 11 false) (x.1, g2, c2) w2 by rw [getD_setS (by rw [hsz]; decide), getD_setN (show 8 ≠ 7 by decide), getD_setN (show 8 ≠ 11 by decide), l7, l11]; exact m.app h1 h2 (h3 g2 rfl))⟩
    · cases ho
      have e4 : b.tmps[4]? = some (.pointer (some ⟨bb, 0, none⟩)) := hF.up 0 4 rfl (hdeps ⟨0, .data⟩ (by simp) rfl)
      refine QJ.quiet (x := x) hsz hC hi hF (Slots.of (by rfl)) rfl (wanted_none rfl) (show ApM W0 base 143 9 bb 0 (.slice oa n oc) n xs y.cells y.cells ((listed.setIfInBounds 9 true).getD 7 false) ((listed.setIfInBounds 9 true).getD 8 false) false ((listed.setIfInBounds 9 true).getD 11 false) x v by rw [getD_setN (show 9 ≠ 7 by decide), getD_setN (show 9 ≠ 8 by decide), getD_setN (show 9 ≠ 11 by decide)]; exact hMb) ?_
      show _ = Result.ok (Next.value (.pointer (some ⟨bb, 0, none⟩))) v
      simp [execOp, go_sem, e4]
    · cases ho
      have e13 : b.tmps[13]? = some (.pointer (some ⟨bb, 0, none⟩)) := hF.up 9 13 rfl (hdeps ⟨9, .data⟩ (by simp) rfl)
      refine QJ.quiet (x := x) hsz hC hi hF (Slots.of (by rfl)) rfl (wanted_none rfl) (show ApM W0 base 143 9 bb 0 (.slice oa n oc) n xs y.cells y.cells ((listed.setIfInBounds 10 true).getD 7 false) ((listed.setIfInBounds 10 true).getD 8 false) false ((listed.setIfInBounds 10 true).getD 11 false) x v by rw [getD_setN (show 10 ≠ 7 by decide), getD_setN (show 10 ≠ 8 by decide), getD_setN (show 10 ≠ 11 by decide)]; exact hMb) ?_
      show _ = Result.ok (Next.value (.pointer (some ⟨bb, 0, none⟩))) v
      simp [execOp, go_sem, e13]
    · cases ho
      have l8 := hdeps ⟨8, .data⟩ (by simp) rfl
      have m := hMb
      rw [hl1, l8] at m
      have hbk := m.chg bb hpb0 (fun e => by cases e) (fun _ e => hne e.symm)
      have n1 : v.cell? ⟨bb, 0, none⟩ = some (.slice oa n oc) := (World.cell?_of_block (a := ⟨bb, 0, none⟩) hbk).trans hp0
      have n2 : v.frozen? ⟨bb, 0, none⟩ = false := by rw [← hpf0]; simp [World.frozen?, hbk]
      have e14 : b.tmps[14]? = some (.pointer (some ⟨bb, 0, none⟩)) := hF.up 10 14 rfl (hdeps ⟨10, .data⟩ (by simp) rfl)
      have e12 : b.tmps[12]? = some (.slice (some ⟨x.2.1, 0, none⟩) (n + 1) x.2.2) := hF.up 8 12 rfl (hdeps ⟨8, .data⟩ (by simp) rfl)
      refine QJ.store (v' := v.setCell ⟨bb, 0, none⟩ (.slice (some ⟨x.2.1, 0, none⟩) (n + 1) x.2.2)) (x := x) hsz hC hi hF (Slots.of (by rfl)) rfl rfl (wanted_none rfl) (show ApM W0 base 143 9 bb 0 (.slice oa n oc) n xs y.cells y.cells ((listed.setIfInBounds 11 true).getD 7 false) ((listed.setIfInBounds 11 true).getD 8 false) false ((listed.setIfInBounds 11 true).getD 11 false) x (v.setCell ⟨bb, 0, none⟩ (.slice (some ⟨x.2.1, 0, none⟩) (n + 1) x.2.2)) by rw [getD_setS (by rw [hsz]; decide), getD_setN (show 11 ≠ 7 by decide), getD_setN (show 11 ≠ 8 by decide), l8]; exact m.put hpb0 hne) ?_
      simp [execOp, go_sem, e14, e12, n1, n2]
  intro listed b W5 hJ hr'
  obtain ⟨hsz, hC, xx, hF, hM⟩ := hJ
  have hall := all_upB2 (by rfl) hsz hr'
  have hMb : ApM W0 base 143 9 bb 0 (.slice oa n oc) n xs y.cells y.cells true true false true xx W5 := by
    have h : ApM W0 base 143 9 bb 0 (.slice oa n oc) n xs y.cells y.cells (listed.getD 7 false) (listed.getD 8 false) false (listed.getD 11 false) xx W5 := hM
    rw [hall 7 (by decide), hall 8 (by decide), hall 11 (by decide)] at h
    exact h
  have hb : b = putAll _ _ _ 12 := hF.done (Slots.of (by rfl)) hall
  subst hb
  simp only [putAll]
  have HFIN := Lib.hid (hMb.doneZ HB0.out hpb)
  clear hMb hM hF hC hsz hr' hall
  simp [dstOf, Act.put]
  go_wp2
  go_end0
  exact ⟨rfl, _, _, HFIN.out⟩
section
variable {w w' : World} {base bb : Nat} {b : B} {c : Nat → Nat} {oa oc : Nat} {ys : List (Nd × C9)} {x : C9} {da : Option Addr} {dc : Nat} {ds : List TpU}
/-- A node that was just read: nothing stands in it. -/
theorem OpnV.fresh {i : Nat} (a : Act) (p : Nat) {pa : Option Addr} {pc : Nat} {us : List CU} (hp : PipeV w (Fz base w c) a.pipe pa us) : OpnV w base c i (nodeOf a p) ⟨a.kind, p, ⟨#[]⟩, ⟨a.name.toArray⟩, pa, a.pipe.length, pc, none, 0, 0, none, 0, 0, false, none, 0, 0⟩ := by
  refine ⟨rfl, rfl, rfl, rfl, rfl, ⟨us, hp, rfl⟩, ⟨[], rfl, rfl, World.ownsRow_nil _ _ _ _, (fun g e => by cases e), (fun y hy => by cases hy)⟩, ⟨[], rfl, rfl, World.ownsRow_nil _ _ _ _, (fun g e => by cases e), (fun y hy => by cases hy)⟩, ⟨[], rfl, rfl, World.ownsRow_nil _ _ _ _, (fun g e => by cases e), (fun y hy => by cases hy), (fun u hu => by cases hu)⟩⟩
theorem BV.enter (h : BV w base bb b c oa oc ys x da dc ds) (a : Act) (p : Nat) {pa : Option Addr} {pc : Nat} {us : List CU} (hv : PipeV w (Fz base w c) a.pipe pa us) {g k : Nat}
    (hp : PutW base 143 9 bb 0 (.slice (some ⟨oa, 0, none⟩) (ys.length + 1) oc) (ys.length + 1) (ys.flatMap enc9 ++ x.cells ++ C9.cells ⟨a.kind, p, ⟨#[]⟩, ⟨a.name.toArray⟩, pa, a.pipe.length, pc, none, 0, 0, none, 0, 0, false, none, 0, 0⟩) w w' g k) : BVE w' base bb (b.enter (nodeOf a p)) := by
  have hkp := hp.kp (c := c) 2 1 (fun m hm => by cases hm; exact h.ocol) h.bcol
  have hbg : bb ≠ g := fun e => by
    rcases hp.new with hn | hn
    · have e2 : oa = g := by simpa [Value.ownBlock] using hn
      have := h.ocol; rw [e2, ← e, h.bcol] at this; omega
    · have := h.bblt; omega
  have q0 : (0 : Nat) ≠ 2 ∧ (0 : Nat) ≠ 1 := ⟨by omega, by omega⟩
  have hin := Fz.in hkp q0
  have hsm := Fz.same hkp q0
  have hd := fun m hm => hkp.blk m (h.down.lt m hm).1 (h.down.lt m hm).2 (by rw [h.dcol m hm]; exact ⟨by omega, by omega⟩)
  refine ⟨fun m => if m = g then 2 else c m, g, k, ys ++ [(b.inner, x)], ⟨a.kind, p, ⟨#[]⟩, ⟨a.name.toArray⟩, pa, a.pipe.length, pc, none, 0, 0, none, 0, 0, false, none, 0, 0⟩, da, dc, ds,
    ⟨Nat.le_trans h.le hp.size, ?_, h.bbase, by show (if bb = g then _ else _) = _; rw [if_neg hbg]; exact h.bcol, ?_, by show (if g = g then _ else _) = _; rw [if_pos rfl], ?_, fun i hi => ?_, OpnV.fresh a p (hv.keep hin hsm), ownsRow_same h.down (fun m hm => (hd m hm).1), fun m hm => by rw [(hd m hm).2]; exact h.dcol m hm, h.dis, fun u hu => (h.dv u hu).keep hin hsm, hp.fresh _ h.new⟩⟩
  · rw [hp.slot, List.length_append]
    unfold World.setCell; simp [Array.getElem?_modify, h.blk]
  · have := hp.own
    rw [List.length_append]
    simpa [List.flatMap_append, enc9] using this
  · rw [List.map_append, h.opens]; show _ = (b.inner :: b.outer).reverse; rw [List.reverse_cons]; rfl
  · rw [List.length_append] at hi
    by_cases hl : i < ys.length
    · rw [List.getElem_append_left hl]
      exact (h.nodes i hl).keep hkp q0 (fun k k1 k2 => ⟨by omega, by omega⟩)
    · obtain rfl : i = ys.length := by simp at hi; omega
      rw [List.getElem_append_right (Nat.le_refl _)]
      simp only [Nat.sub_self, List.getElem_cons_zero]
      exact h.last.keep hkp q0 (fun k k1 k2 => ⟨by omega, by omega⟩)
theorem enter_any (h : BV w base bb b c oa oc ys x da dc ds) (a : Act) (p : Nat) {pa : Option Addr} {pc : Nat} {us : List CU} (hv : PipeV w (Fz base w c) a.pipe pa us) (hd : b.outer.length ≤ 100) :
    Calls Tryz.prog 40 #[.pointer (some ⟨bb, 0, none⟩), C9.val ⟨a.kind, p, ⟨#[]⟩, ⟨a.name.toArray⟩, pa, a.pipe.length, pc, none, 0, 0, none, 0, 0, false, none, 0, 0⟩] w fun e w' => e = .returned (.tuple #[]) ∧ BVE w' base bb (b.enter (nodeOf a p)) ∧ Below base w w' := by
  have hob : oa ≠ bb := fun e => by have := h.ocol; rw [e, h.bcol] at this; omega
  obtain ⟨⟨c0, -⟩, f0, -⟩ := two_blk h.blk
  have hdp := h.depth
  refine (enter_cell w base bb h.le _ h.bblt (some ⟨oa, 0, none⟩) (ys.length + 1) oc _ c0 f0 h.own (by omega) (fun e => by cases e; exact hob rfl)).mono ?_
  rintro e w' ⟨rfl, g, k, hp⟩
  exact ⟨rfl, h.enter a p hv hp, hp.below h.le h.bbase (fun m hm => by cases hm; exact h.olt.1)⟩
/-- The first block of all: the whole. -/
theorem BV.start {W1 : World} {bb : Nat} (hbb : W1.heap[bb]? = some (.cells #[.slice none 0 0, .slice none 0 0] 97 (0, 0))) {base g k : Nat} (hbs : base ≤ bb) (hp : PutW base 143 9 bb 0 (.slice none 0 0) 0 ([] ++ C9.cells ⟨0, 0, ⟨#[]⟩, ⟨#[]⟩, none, 0, 0, none, 0, 0, none, 0, 0, false, none, 0, 0⟩) W1 w' g k) :
    BVE w' base bb ⟨.mk 0 0 [] [] [] [] [] false [], [], []⟩ := by
  have hbl := (Array.getElem?_eq_some_iff.1 hbb).1
  have hgn : W1.heap.size ≤ g := by rcases hp.new with hn | hn; cases hn; exact hn
  have hgl := hp.own.lt g rfl
  have hsz := hp.size
  have hne : bb ≠ g := by omega
  refine ⟨fun m => if m = g then 2 else if m = bb then 1 else 0, g, k, [], ⟨0, 0, ⟨#[]⟩, ⟨#[]⟩, none, 0, 0, none, 0, 0, none, 0, 0, false, none, 0, 0⟩, none, 0, [],
    ⟨by omega, ?_, hbs, by show (if bb = g then _ else if bb = bb then _ else _) = _; rw [if_neg hne, if_pos rfl], hp.own, by show (if g = g then _ else _) = _; rw [if_pos rfl], rfl, (fun i hi => absurd hi (Nat.not_lt_zero _)), OpnV.fresh ⟨0, [], []⟩ 0 PipeV.none, World.ownsRow_nil _ _ _ _, (fun m hm => by cases hm), rfl, (fun u hu => by cases hu), fun m hm => ?_⟩⟩
  · rw [hp.slot]
    unfold World.setCell; simp [Array.getElem?_modify, hbb]
  · show (if m = g then _ else if m = bb then _ else _) = _; rw [if_neg (by omega), if_neg (by omega)]
end
end Tr
end Go.Proofs.YtlfbcaenlifmkaaGreatDoor
