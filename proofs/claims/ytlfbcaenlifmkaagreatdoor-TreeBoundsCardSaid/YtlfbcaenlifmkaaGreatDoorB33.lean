/- A node is put behind those of a row. Written by gen_qput.py. -/
import Derived.Test.YtlfbcaenlifmkaaGreatDoorB32
namespace Go.Proofs.YtlfbcaenlifmkaaGreatDoor
open Go.RowKit
namespace Tr
open Sc Sh Sp
theorem info9 : (Tryz.prog.info? 56).map (fun i => (i.zero, i.size, i.bytes)) = some (some (.agg #[.int .i64 0, .int .i64 0, .string ⟨#[]⟩, .string ⟨#[]⟩, .slice none 0 0, .slice none 0 0, .slice none 0 0, .bool false, .slice none 0 0]), 9, 152) := by kernel_rfl
theorem own_blk {w : World} {base g c n sz : Nat} {e : TypeId} {xs : List Value} (h : w.ownsRow base e sz (.slice (some ⟨g, 0, none⟩) n c) n xs) : ∃ cur, w.heap[g]? = some (.cells cur e (0, 0)) := by
  rcases h.2 with ⟨h1, _⟩ | ⟨g', cap, cur, h1, _, hg, _⟩
  · cases h1
  · cases h1; exact ⟨cur, hg⟩
theorem own_some {w : World} {base n sz : Nat} {e : TypeId} {xs : List Value} {v : Value} (h : w.ownsRow base e sz v (n + 1) xs) : ∃ g c, v = .slice (some ⟨g, 0, none⟩) (n + 1) c := by
  rcases h.2 with ⟨_, h1⟩ | ⟨g', cap, cur, h1, _⟩
  · omega
  · exact ⟨g', cap, h1⟩
theorem lit_read {w : World} {b : Nat} {l : List Value} {e : TypeId} (h : w.heap[b]? = some (.cells l.toArray e (0, 0))) : ∀ (j : Nat) (u : Value), l[j]? = some u → w.cell? ((⟨b, 0, none⟩ : Addr).add j) = some u := by
  intro j u hu
  rw [addr_add]
  unfold World.cell?
  simp only [h]
  simpa using hu
theorem z9_one : ∀ v ∈ z9.toList, v.oneCell' = true := by
  intro v hv; simp [z9] at hv; rcases hv with rfl | rfl | rfl | rfl | rfl <;> rfl
theorem wrap_sub (k : Nat) (hk : k ≤ 2000) : IntKind.i64.wrap (k : Int) = k := by simp [IntKind.wrap, IntKind.bits, IntKind.signed]; omega
/-- What put leaves. -/
def PutP (base pb po : Nat) (v : Value) (n : Nat) (ys : List Value) (w : World) (e : Ending) (w' : World) : Prop := e = .returned (.tuple #[]) ∧ ∃ g c, PutW base 56 9 pb po v n ys w w' g c
set_option maxRecDepth 100000 in
set_option maxHeartbeats 8000000 in
theorem put_else (w : World) (base ob oo : Nat) (hbase : base ≤ w.heap.size) (y : C9) (hob : ob < w.heap.size) (h7 : w.cell? ⟨ob, oo + 7, none⟩ = some (.bool true)) (a : Option Addr) (n c : Nat) (xs : List Value)
    (hp : w.cell? ⟨ob, oo + 6, none⟩ = some (.slice a n c)) (hpf : w.frozen? ⟨ob, oo + 6, none⟩ = false) (hown : w.ownsRow base 56 9 (.slice a n c) n xs) (hn : n ≤ 2000) (hne : (Value.slice a n c).ownBlock ≠ some ob) :
    Calls Tryz.prog 104 #[.pointer (some ⟨ob, oo, none⟩), y.val] w (PutP base ob (oo + 6) (.slice a n c) n (xs ++ y.cells) w) := by
  obtain ⟨W0, hW0⟩ : ∃ W0, W0 = w.alloc (.cells #[.int .i64 y.k, .int .i64 y.at_, .string y.s, .string y.name, .slice y.pa y.pl y.pc, .slice y.ba y.bl y.bc, .slice y.ea y.el y.ec, .bool y.h, .slice y.ca y.cl y.cc] 56) := ⟨_, rfl⟩
  have hb0 : Below w.heap.size w W0 := by rw [hW0]; exact (Below.refl _ _).alloc (Nat.le_refl _) _
  have hz0 : W0.heap.size = w.heap.size + 1 := by rw [hW0]; simp
  have hbx0 : W0.heap[w.heap.size]? = some (.cells #[.int .i64 y.k, .int .i64 y.at_, .string y.s, .string y.name, .slice y.pa y.pl y.pc, .slice y.ba y.bl y.bc, .slice y.ea y.el y.ec, .bool y.h, .slice y.ca y.cl y.cc] 56 (0, 0)) := by rw [hW0]; exact heap_alloc_new w _
  have hpb : ob < w.heap.size := hob
  have hpb0 : ob < W0.heap.size := by omega
  have hob0 : ob < W0.heap.size := by omega
  have hp0 := (hb0.cell (p := ⟨ob, oo + 6, none⟩) hpb).trans hp
  have hpf0 : W0.frozen? ⟨ob, oo + 6, none⟩ = false := by rw [← hpf]; simp [World.frozen?, hb0.block ob hpb]
  have hbx : w.heap.size < W0.heap.size := by omega
  have hnb : w.heap.size ≠ ob := by omega
  have hno : some w.heap.size ≠ (Value.slice a n c).ownBlock := fun e => by have := (hown.lt _ e.symm).2; omega
  have how0 : W0.ownsRow base 56 9 (.slice a n c) n xs := ownsRow_same hown (fun g hg => hb0.block g (hown.lt g hg).2)
  have hbase0 : base ≤ W0.heap.size := by omega
  have hxl : xs.length = n * 9 := hown.1
  have k7 := (hb0.cell (p := ⟨ob, oo + 7, none⟩) hob).trans h7
  obtain ⟨i0, hi0, hz0', hz1', hz2'⟩ := info_parts info9
  have HW0 := Lib.hid hW0; have HB0 := Lib.hid hb0; have HBX := Lib.hid hbx0; have HOW := Lib.hid how0
  clear hW0 hb0 hbx0 how0 hown
  unfold C9.val
  go_enter Tryz.func104, Tryz.ntmps104
  go_upto_region 1 with fail
  rw [← HW0.out]
  go_upto_region 6 with fail
  refine wp_region_by (QJ (fun (x : Nat × Nat × Nat) qq => match qq with | 0 => .pointer (some ⟨ob, oo + 6, none⟩) | 1 => .pointer (some ⟨ob, oo + 6, none⟩) | 2 => .slice a n c | 3 => .agg #[.int .i64 y.k, .int .i64 y.at_, .string y.s, .string y.name, .slice y.pa y.pl y.pc, .slice y.ba y.bl y.bc, .slice y.ea y.el y.ec, .bool y.h, .slice y.ca y.cl y.cc] | 4 => .int .i64 n | 5 => .slice (some ⟨x.1, 0, none⟩) 1 1 | 6 => .slice (some ⟨x.2.1, 0, none⟩) (n + 1) x.2.2 | 7 => .pointer (some ⟨x.2.1, n * 9, none⟩) | 9 => .pointer (some ⟨ob, oo + 6, none⟩) | _ => undef) (fun x listed v => ApM W0 base 56 9 ob (oo + 6) (.slice a n c) n xs z9.toList y.cells (listed.getD 5 false) (listed.getD 6 false) (listed.getD 8 false) (listed.getD 10 false) x v)) (by kernel_rfl) ?_ ?_ ?_
  · exact ⟨by simp, Closed.start _, (0, 0, 0), Fr.start _ _ _, by simp only [rep_getDL]; first | exact ApM.startD | exact ApM.startDD⟩
  · intro listed b v q hJ hi
    obtain ⟨hsz, hC, x, hF, hM⟩ := hJ
    have hMb : ApM W0 base 56 9 ob (oo + 6) (.slice a n c) n xs z9.toList y.cells (listed.getD 5 false) (listed.getD 6 false) (listed.getD 8 false) (listed.getD 10 false) x v := hM
    obtain ⟨hl1, hiN⟩ := not_up hsz hi
    obtain ⟨_, o, ho, hdeps⟩ := mem_ready.1 hi
    have hiN : q < 11 := hiN
    obtain rfl | rfl | rfl | rfl | rfl | rfl | rfl | rfl | rfl | rfl | rfl : q = 0 ∨ q = 1 ∨ q = 2 ∨ q = 3 ∨ q = 4 ∨ q = 5 ∨ q = 6 ∨ q = 7 ∨ q = 8 ∨ q = 9 ∨ q = 10 := by omega
    · cases ho
      have e4 := hF.old_is 4 (by rfl) rfl
      refine QJ.quiet (x := x) hsz hC hi hF (Slots.of (by rfl)) rfl (wanted_none rfl) (show ApM W0 base 56 9 ob (oo + 6) (.slice a n c) n xs z9.toList y.cells ((listed.setIfInBounds 0 true).getD 5 false) ((listed.setIfInBounds 0 true).getD 6 false) ((listed.setIfInBounds 0 true).getD 8 false) ((listed.setIfInBounds 0 true).getD 10 false) x v by rw [getD_setN (show 0 ≠ 5 by decide), getD_setN (show 0 ≠ 6 by decide), getD_setN (show 0 ≠ 8 by decide), getD_setN (show 0 ≠ 10 by decide)]; exact hMb) ?_
      show _ = Result.ok (Next.value (.pointer (some ⟨ob, oo + 6, none⟩))) v
      simp [execOp, go_sem, e4]
    · cases ho
      have e41 : b.tmps[41]? = some (.pointer (some ⟨ob, oo + 6, none⟩)) := hF.up 0 41 rfl (hdeps ⟨0, .data⟩ (by simp) rfl)
      refine QJ.quiet (x := x) hsz hC hi hF (Slots.of (by rfl)) rfl (wanted_none rfl) (show ApM W0 base 56 9 ob (oo + 6) (.slice a n c) n xs z9.toList y.cells ((listed.setIfInBounds 1 true).getD 5 false) ((listed.setIfInBounds 1 true).getD 6 false) ((listed.setIfInBounds 1 true).getD 8 false) ((listed.setIfInBounds 1 true).getD 10 false) x v by rw [getD_setN (show 1 ≠ 5 by decide), getD_setN (show 1 ≠ 6 by decide), getD_setN (show 1 ≠ 8 by decide), getD_setN (show 1 ≠ 10 by decide)]; exact hMb) ?_
      show _ = Result.ok (Next.value (.pointer (some ⟨ob, oo + 6, none⟩))) v
      simp [execOp, go_sem, e41]
    · cases ho
      have l10 : listed.getD 10 false = false := by
        cases hh : listed.getD 10 false
        · rfl
        · have y0 := hC 10 _ rfl hh ⟨2, .phase⟩ (by simp) rfl; rw [hl1] at y0; cases y0
      have n1 : v.cell? ⟨ob, oo + 6, none⟩ = some (.slice a n c) := (World.cell?_of_block (a := ⟨ob, oo + 6, none⟩) (hMb.chg ob hpb0 (fun e => by rw [l10] at e; cases e) (fun _ e => hne e.symm))).trans hp0
      have e42 : b.tmps[42]? = some (.pointer (some ⟨ob, oo + 6, none⟩)) := hF.up 1 42 rfl (hdeps ⟨1, .data⟩ (by simp) rfl)
      refine QJ.quiet (x := x) hsz hC hi hF (Slots.of (by rfl)) rfl (wanted_none rfl) (show ApM W0 base 56 9 ob (oo + 6) (.slice a n c) n xs z9.toList y.cells ((listed.setIfInBounds 2 true).getD 5 false) ((listed.setIfInBounds 2 true).getD 6 false) ((listed.setIfInBounds 2 true).getD 8 false) ((listed.setIfInBounds 2 true).getD 10 false) x v by rw [getD_setN (show 2 ≠ 5 by decide), getD_setN (show 2 ≠ 6 by decide), getD_setN (show 2 ≠ 8 by decide), getD_setN (show 2 ≠ 10 by decide)]; exact hMb) ?_
      show _ = Result.ok (Next.value (.slice a n c)) v
      simp [execOp, go_sem, e42, n1]
    · cases ho
      obtain ⟨⟨z0, z1, z2, z3, z4, z5, z6, z7, z8⟩, -⟩ := nine_blk ((hMb.chg w.heap.size hbx (fun _ e => hnb e) (fun _ e => hno e)).trans HBX.out)
      have e3 := hF.old_is 3 (by rfl) rfl
      refine QJ.quiet (x := x) hsz hC hi hF (Slots.of (by rfl)) rfl (wanted_none rfl) (show ApM W0 base 56 9 ob (oo + 6) (.slice a n c) n xs z9.toList y.cells ((listed.setIfInBounds 3 true).getD 5 false) ((listed.setIfInBounds 3 true).getD 6 false) ((listed.setIfInBounds 3 true).getD 8 false) ((listed.setIfInBounds 3 true).getD 10 false) x v by rw [getD_setN (show 3 ≠ 5 by decide), getD_setN (show 3 ≠ 6 by decide), getD_setN (show 3 ≠ 8 by decide), getD_setN (show 3 ≠ 10 by decide)]; exact hMb) ?_
      show _ = Result.ok (Next.value (.agg #[.int .i64 y.k, .int .i64 y.at_, .string y.s, .string y.name, .slice y.pa y.pl y.pc, .slice y.ba y.bl y.bc, .slice y.ea y.el y.ec, .bool y.h, .slice y.ca y.cl y.cc])) v
      simp [execOp, go_sem, e3, z0, z1, z2, z3, z4, z5, z6, z7, z8]
    · cases ho
      have e43 : b.tmps[43]? = some (.slice a n c) := hF.up 2 43 rfl (hdeps ⟨2, .data⟩ (by simp) rfl)
      refine QJ.quiet (x := x) hsz hC hi hF (Slots.of (by rfl)) rfl (wanted_none rfl) (show ApM W0 base 56 9 ob (oo + 6) (.slice a n c) n xs z9.toList y.cells ((listed.setIfInBounds 4 true).getD 5 false) ((listed.setIfInBounds 4 true).getD 6 false) ((listed.setIfInBounds 4 true).getD 8 false) ((listed.setIfInBounds 4 true).getD 10 false) x v by rw [getD_setN (show 4 ≠ 5 by decide), getD_setN (show 4 ≠ 6 by decide), getD_setN (show 4 ≠ 8 by decide), getD_setN (show 4 ≠ 10 by decide)]; exact hMb) ?_
      show _ = Result.ok (Next.value (.int .i64 n)) v
      simp [execOp, go_sem, e43]
    · cases ho
      have l6 : listed.getD 6 false = false := by
        cases hh : listed.getD 6 false
        · rfl
        · have y0 := hC 6 _ rfl hh ⟨5, .data⟩ (by simp) rfl; rw [hl1] at y0; cases y0
      have l10 : listed.getD 10 false = false := by
        cases hh : listed.getD 10 false
        · rfl
        · have y0 := hC 10 _ rfl hh ⟨5, .phase⟩ (by simp) rfl; rw [hl1] at y0; cases y0
      have m := hMb
      rw [hl1, l6, l10] at m
      refine QJ.make (v' := v.alloc (.cells #[.int .i64 0, .int .i64 0, .string ⟨#[]⟩, .string ⟨#[]⟩, .slice none 0 0, .slice none 0 0, .slice none 0 0, .bool false, .slice none 0 0] 56)) (x := x) (x' := (v.heap.size, x.2)) hsz hC hi hF (Slots.of (by rfl)) rfl (wanted_none rfl) (fun q hq => match q, (show q ≠ 5 by rintro rfl; rw [hl1] at hq; cases hq) with | 0, _ => rfl | 1, _ => rfl | 2, _ => rfl | 3, _ => rfl | 4, _ => rfl | 5, h => absurd rfl h | 6, _ => rfl | 7, _ => rfl | 8, _ => rfl | 9, _ => rfl | 10, _ => rfl | _ + 11, _ => rfl) (show ApM W0 base 56 9 ob (oo + 6) (.slice a n c) n xs z9.toList y.cells ((listed.setIfInBounds 5 true).getD 5 false) ((listed.setIfInBounds 5 true).getD 6 false) ((listed.setIfInBounds 5 true).getD 8 false) ((listed.setIfInBounds 5 true).getD 10 false) (v.heap.size, x.2) (v.alloc (.cells #[.int .i64 0, .int .i64 0, .string ⟨#[]⟩, .string ⟨#[]⟩, .slice none 0 0, .slice none 0 0, .slice none 0 0, .bool false, .slice none 0 0] 56)) by rw [getD_setS (by rw [hsz]; decide), getD_setN (show 5 ≠ 6 by decide), getD_setN (show 5 ≠ 8 by decide), getD_setN (show 5 ≠ 10 by decide), l6, l10]; exact m.lay) ?_
      show _ = Result.ok (Next.value (.slice (some ⟨v.heap.size, 0, none⟩) 1 1)) _
      simp [execOp, go_sem]
    · cases ho
      have l5 := hdeps ⟨5, .data⟩ (by simp) rfl
      have l7 : listed.getD 7 false = false := by
        cases hh : listed.getD 7 false
        · rfl
        · have y0 := hC 7 _ rfl hh ⟨6, .data⟩ (by simp) rfl; rw [hl1] at y0; cases y0
      have l8 : listed.getD 8 false = false := by
        cases hh : listed.getD 8 false
        · rfl
        · have y0 := hC 8 _ rfl hh ⟨6, .chain⟩ (by simp) rfl; rw [hl1] at y0; cases y0
      have l10 : listed.getD 10 false = false := by
        cases hh : listed.getD 10 false
        · rfl
        · have y0 := hC 10 _ rfl hh ⟨6, .data⟩ (by simp) rfl; rw [hl1] at y0; cases y0
      have m := hMb
      rw [hl1, l5, l8, l10] at m
      obtain ⟨hlit, hlx⟩ := m.lit rfl rfl
      have e43 : b.tmps[43]? = some (.slice a n c) := hF.up 2 43 rfl (hdeps ⟨2, .data⟩ (by simp) rfl)
      have e46 : b.tmps[46]? = some (.slice (some ⟨x.1, 0, none⟩) 1 1) := hF.up 5 46 rfl (hdeps ⟨5, .data⟩ (by simp) rfl)
      refine wpOp_wpG rfl (wanted_none rfl) ?_
      refine wp_append_fresh (.tmp 43) (.tmp 46) 50 rfl base 56 i0 (.agg #[.int .i64 0, .int .i64 0, .string ⟨#[]⟩, .string ⟨#[]⟩, .slice none 0 0, .slice none 0 0, .slice none 0 0, .bool false, .slice none 0 0]) 9 152 Tryz.underlying50 hi0 hz0' hz1' hz2' rfl (by decide) (.slice a n c) n xs (by simp [Act.eval, e43]) (m.row HOW.out) ⟨x.1, 0, none⟩ 1 1 z9.toList (by simp [Act.eval, e46]) rfl (lit_read hlit) (fun u hu => z9_one u hu) (by simp [maxLen]; omega) (by omega) (by have := m.size; omega) ?_
      intro v2 w2 h1 h2 h3
      obtain ⟨g2, c2, rfl⟩ := own_some h1
      exact ⟨by simp [hsz], hC.put hi, (x.1, g2, c2), (hF.congr (fun q hq => match q, (show q ≠ 6 by rintro rfl; rw [hl1] at hq; cases hq), (show q ≠ 7 by rintro rfl; rw [l7] at hq; cases hq) with | 0, _, _ => rfl | 1, _, _ => rfl | 2, _, _ => rfl | 3, _, _ => rfl | 4, _, _ => rfl | 5, _, _ => rfl | 6, h, _ => absurd rfl h | 7, _, h => absurd rfl h | 8, _, _ => rfl | 9, _, _ => rfl | 10, _, _ => rfl | _ + 11, _, _ => rfl)).put (Slots.of (by rfl)) hsz rfl, (show ApM W0 base 56 9 ob (oo + 6) (.slice a n c) n xs z9.toList y.cells ((listed.setIfInBounds 6 true).getD 5 false) ((listed.setIfInBounds 6 true).getD 6 false) ((listed.setIfInBounds 6 true).getD 8 false) ((listed.setIfInBounds 6 true).getD 10 false) (x.1, g2, c2) w2 by rw [getD_setS (by rw [hsz]; decide), getD_setN (show 6 ≠ 5 by decide), getD_setN (show 6 ≠ 8 by decide), getD_setN (show 6 ≠ 10 by decide), l5, l8, l10]; exact m.app h1 h2 (h3 g2 rfl))⟩
    · cases ho
      have e47 : b.tmps[47]? = some (.slice (some ⟨x.2.1, 0, none⟩) (n + 1) x.2.2) := hF.up 6 47 rfl (hdeps ⟨6, .data⟩ (by simp) rfl)
      have e45 : b.tmps[45]? = some (.int .i64 n) := hF.up 4 45 rfl (hdeps ⟨4, .data⟩ (by simp) rfl)
      refine QJ.quiet (x := x) hsz hC hi hF (Slots.of (by rfl)) rfl (wanted_none rfl) (show ApM W0 base 56 9 ob (oo + 6) (.slice a n c) n xs z9.toList y.cells ((listed.setIfInBounds 7 true).getD 5 false) ((listed.setIfInBounds 7 true).getD 6 false) ((listed.setIfInBounds 7 true).getD 8 false) ((listed.setIfInBounds 7 true).getD 10 false) x v by rw [getD_setN (show 7 ≠ 5 by decide), getD_setN (show 7 ≠ 6 by decide), getD_setN (show 7 ≠ 8 by decide), getD_setN (show 7 ≠ 10 by decide)]; exact hMb) ?_
      show _ = Result.ok (Next.value (.pointer (some ⟨x.2.1, n * 9, none⟩))) v
      simp [execOp, go_sem, e47, e45]
      intro hh; omega
    · cases ho
      have l6 := hdeps ⟨6, .chain⟩ (by simp) rfl
      have m := hMb
      rw [hl1, l6] at m
      have hown := m.own rfl
      simp only [Bool.false_eq_true, if_false] at hown
      obtain ⟨cur, hcur⟩ := own_blk hown
      obtain ⟨hnew, hfit⟩ := last_stored hown hcur hxl #[.int .i64 y.k, .int .i64 y.at_, .string y.s, .string y.name, .slice y.pa y.pl y.pc, .slice y.ba y.bl y.bc, .slice y.ea y.el y.ec, .bool y.h, .slice y.ca y.cl y.cc] rfl
      have e48 : b.tmps[48]? = some (.pointer (some ⟨x.2.1, n * 9, none⟩)) := hF.up 7 48 rfl (hdeps ⟨7, .data⟩ (by simp) rfl)
      have e44 : b.tmps[44]? = some (.agg #[.int .i64 y.k, .int .i64 y.at_, .string y.s, .string y.name, .slice y.pa y.pl y.pc, .slice y.ba y.bl y.bc, .slice y.ea y.el y.ec, .bool y.h, .slice y.ca y.cl y.cc]) := hF.up 3 44 rfl (hdeps ⟨3, .data⟩ (by simp) rfl)
      refine QJ.store (v' := v.setRow x.2.1 (cur.toList.take (n * 9) ++ (#[.int .i64 y.k, .int .i64 y.at_, .string y.s, .string y.name, .slice y.pa y.pl y.pc, .slice y.ba y.bl y.bc, .slice y.ea y.el y.ec, .bool y.h, .slice y.ca y.cl y.cc] : Array Value).toList ++ cur.toList.drop (n * 9 + (#[.int .i64 y.k, .int .i64 y.at_, .string y.s, .string y.name, .slice y.pa y.pl y.pc, .slice y.ba y.bl y.bc, .slice y.ea y.el y.ec, .bool y.h, .slice y.ca y.cl y.cc] : Array Value).size)).toArray) (x := x) hsz hC hi hF (Slots.of (by rfl)) rfl rfl (wanted_none rfl) (show ApM W0 base 56 9 ob (oo + 6) (.slice a n c) n xs z9.toList y.cells ((listed.setIfInBounds 8 true).getD 5 false) ((listed.setIfInBounds 8 true).getD 6 false) ((listed.setIfInBounds 8 true).getD 8 false) ((listed.setIfInBounds 8 true).getD 10 false) x (v.setRow x.2.1 (cur.toList.take (n * 9) ++ (#[.int .i64 y.k, .int .i64 y.at_, .string y.s, .string y.name, .slice y.pa y.pl y.pc, .slice y.ba y.bl y.bc, .slice y.ea y.el y.ec, .bool y.h, .slice y.ca y.cl y.cc] : Array Value).toList ++ cur.toList.drop (n * 9 + (#[.int .i64 y.k, .int .i64 y.at_, .string y.s, .string y.name, .slice y.pa y.pl y.pc, .slice y.ba y.bl y.bc, .slice y.ea y.el y.ec, .bool y.h, .slice y.ca y.cl y.cc] : Array Value).size)).toArray) by rw [getD_setS (by rw [hsz]; decide), getD_setN (show 8 ≠ 5 by decide), getD_setN (show 8 ≠ 6 by decide), getD_setN (show 8 ≠ 10 by decide), l6]; exact m.node hpb0 hne hnew (setRow_only _ _ _)) ?_
      exact exec_store_at (ρ := b.eval) 56 (.tmp 48) (.tmp 44) rfl x.2.1 (n * 9) #[.int .i64 y.k, .int .i64 y.at_, .string y.s, .string y.name, .slice y.pa y.pl y.pc, .slice y.ba y.bl y.bc, .slice y.ea y.el y.ec, .bool y.h, .slice y.ca y.cl y.cc] (by simp [Act.eval, e48]) (by simp [Act.eval, e44]) 56 cur hcur (by kernel_rfl) hfit (by kernel_rfl)
    · cases ho
      have e41 : b.tmps[41]? = some (.pointer (some ⟨ob, oo + 6, none⟩)) := hF.up 0 41 rfl (hdeps ⟨0, .data⟩ (by simp) rfl)
      refine QJ.quiet (x := x) hsz hC hi hF (Slots.of (by rfl)) rfl (wanted_none rfl) (show ApM W0 base 56 9 ob (oo + 6) (.slice a n c) n xs z9.toList y.cells ((listed.setIfInBounds 9 true).getD 5 false) ((listed.setIfInBounds 9 true).getD 6 false) ((listed.setIfInBounds 9 true).getD 8 false) ((listed.setIfInBounds 9 true).getD 10 false) x v by rw [getD_setN (show 9 ≠ 5 by decide), getD_setN (show 9 ≠ 6 by decide), getD_setN (show 9 ≠ 8 by decide), getD_setN (show 9 ≠ 10 by decide)]; exact hMb) ?_
      show _ = Result.ok (Next.value (.pointer (some ⟨ob, oo + 6, none⟩))) v
      simp [execOp, go_sem, e41]
    · cases ho
      have l6 := hdeps ⟨6, .data⟩ (by simp) rfl
      have m := hMb
      rw [hl1, l6] at m
      have hbk := m.chg ob hpb0 (fun e => by cases e) (fun _ e => hne e.symm)
      have n1 : v.cell? ⟨ob, oo + 6, none⟩ = some (.slice a n c) := (World.cell?_of_block (a := ⟨ob, oo + 6, none⟩) hbk).trans hp0
      have n2 : v.frozen? ⟨ob, oo + 6, none⟩ = false := by rw [← hpf0]; simp [World.frozen?, hbk]
      have e49 : b.tmps[49]? = some (.pointer (some ⟨ob, oo + 6, none⟩)) := hF.up 9 49 rfl (hdeps ⟨9, .data⟩ (by simp) rfl)
      have e47 : b.tmps[47]? = some (.slice (some ⟨x.2.1, 0, none⟩) (n + 1) x.2.2) := hF.up 6 47 rfl (hdeps ⟨6, .data⟩ (by simp) rfl)
      refine QJ.store (v' := v.setCell ⟨ob, oo + 6, none⟩ (.slice (some ⟨x.2.1, 0, none⟩) (n + 1) x.2.2)) (x := x) hsz hC hi hF (Slots.of (by rfl)) rfl rfl (wanted_none rfl) (show ApM W0 base 56 9 ob (oo + 6) (.slice a n c) n xs z9.toList y.cells ((listed.setIfInBounds 10 true).getD 5 false) ((listed.setIfInBounds 10 true).getD 6 false) ((listed.setIfInBounds 10 true).getD 8 false) ((listed.setIfInBounds 10 true).getD 10 false) x (v.setCell ⟨ob, oo + 6, none⟩ (.slice (some ⟨x.2.1, 0, none⟩) (n + 1) x.2.2)) by rw [getD_setS (by rw [hsz]; decide), getD_setN (show 10 ≠ 5 by decide), getD_setN (show 10 ≠ 6 by decide), getD_setN (show 10 ≠ 8 by decide), l6]; exact m.put hpb0 hne) ?_
      simp [execOp, go_sem, e49, e47, n1, n2]
  intro listed b W5 hJ hr'
  obtain ⟨hsz, hC, xx, hF, hM⟩ := hJ
  have hall := all_upB2 (by rfl) hsz hr'
  have hMb : ApM W0 base 56 9 ob (oo + 6) (.slice a n c) n xs z9.toList y.cells true true true true xx W5 := by
    have h : ApM W0 base 56 9 ob (oo + 6) (.slice a n c) n xs z9.toList y.cells (listed.getD 5 false) (listed.getD 6 false) (listed.getD 8 false) (listed.getD 10 false) xx W5 := hM
    rw [hall 5 (by decide), hall 6 (by decide), hall 8 (by decide), hall 10 (by decide)] at h
    exact h
  have hb : b = putAll _ _ _ 11 := hF.done (Slots.of (by rfl)) hall
  subst hb
  simp only [putAll]
  have HFIN := Lib.hid (hMb.done HB0.out hpb)
  clear hMb hM hF hC hsz hr' hall
  simp [dstOf, Act.put]
  go_wp2
  go_end0
  exact ⟨rfl, _, _, HFIN.out⟩
set_option maxRecDepth 100000 in
set_option maxHeartbeats 8000000 in
theorem put_body (w : World) (base ob oo : Nat) (hbase : base ≤ w.heap.size) (y : C9) (hob : ob < w.heap.size) (h7 : w.cell? ⟨ob, oo + 7, none⟩ = some (.bool false)) (ca : Option Addr) (cc : Nat) (h8 : w.cell? ⟨ob, oo + 8, none⟩ = some (.slice ca 0 cc)) (a : Option Addr) (n c : Nat) (xs : List Value)
    (hp : w.cell? ⟨ob, oo + 5, none⟩ = some (.slice a n c)) (hpf : w.frozen? ⟨ob, oo + 5, none⟩ = false) (hown : w.ownsRow base 56 9 (.slice a n c) n xs) (hn : n ≤ 2000) (hne : (Value.slice a n c).ownBlock ≠ some ob) :
    Calls Tryz.prog 104 #[.pointer (some ⟨ob, oo, none⟩), y.val] w (PutP base ob (oo + 5) (.slice a n c) n (xs ++ y.cells) w) := by
  obtain ⟨W0, hW0⟩ : ∃ W0, W0 = w.alloc (.cells #[.int .i64 y.k, .int .i64 y.at_, .string y.s, .string y.name, .slice y.pa y.pl y.pc, .slice y.ba y.bl y.bc, .slice y.ea y.el y.ec, .bool y.h, .slice y.ca y.cl y.cc] 56) := ⟨_, rfl⟩
  have hb0 : Below w.heap.size w W0 := by rw [hW0]; exact (Below.refl _ _).alloc (Nat.le_refl _) _
  have hz0 : W0.heap.size = w.heap.size + 1 := by rw [hW0]; simp
  have hbx0 : W0.heap[w.heap.size]? = some (.cells #[.int .i64 y.k, .int .i64 y.at_, .string y.s, .string y.name, .slice y.pa y.pl y.pc, .slice y.ba y.bl y.bc, .slice y.ea y.el y.ec, .bool y.h, .slice y.ca y.cl y.cc] 56 (0, 0)) := by rw [hW0]; exact heap_alloc_new w _
  have hpb : ob < w.heap.size := hob
  have hpb0 : ob < W0.heap.size := by omega
  have hob0 : ob < W0.heap.size := by omega
  have hp0 := (hb0.cell (p := ⟨ob, oo + 5, none⟩) hpb).trans hp
  have hpf0 : W0.frozen? ⟨ob, oo + 5, none⟩ = false := by rw [← hpf]; simp [World.frozen?, hb0.block ob hpb]
  have hbx : w.heap.size < W0.heap.size := by omega
  have hnb : w.heap.size ≠ ob := by omega
  have hno : some w.heap.size ≠ (Value.slice a n c).ownBlock := fun e => by have := (hown.lt _ e.symm).2; omega
  have how0 : W0.ownsRow base 56 9 (.slice a n c) n xs := ownsRow_same hown (fun g hg => hb0.block g (hown.lt g hg).2)
  have hbase0 : base ≤ W0.heap.size := by omega
  have hxl : xs.length = n * 9 := hown.1
  have k7 := (hb0.cell (p := ⟨ob, oo + 7, none⟩) hob).trans h7
  have k8 := (hb0.cell (p := ⟨ob, oo + 8, none⟩) hob).trans h8
  obtain ⟨i0, hi0, hz0', hz1', hz2'⟩ := info_parts info9
  have HW0 := Lib.hid hW0; have HB0 := Lib.hid hb0; have HBX := Lib.hid hbx0; have HOW := Lib.hid how0
  clear hW0 hb0 hbx0 how0 hown
  unfold C9.val
  go_enter Tryz.func104, Tryz.ntmps104
  go_upto_region 1 with fail
  rw [← HW0.out]
  go_upto_region 6 with fail
  refine wp_region_by (QJ (fun (x : Nat × Nat × Nat) qq => match qq with | 0 => .pointer (some ⟨ob, oo + 5, none⟩) | 1 => .pointer (some ⟨ob, oo + 5, none⟩) | 2 => .slice a n c | 3 => .agg #[.int .i64 y.k, .int .i64 y.at_, .string y.s, .string y.name, .slice y.pa y.pl y.pc, .slice y.ba y.bl y.bc, .slice y.ea y.el y.ec, .bool y.h, .slice y.ca y.cl y.cc] | 4 => .int .i64 n | 5 => .slice (some ⟨x.1, 0, none⟩) 1 1 | 6 => .slice (some ⟨x.2.1, 0, none⟩) (n + 1) x.2.2 | 7 => .pointer (some ⟨x.2.1, n * 9, none⟩) | 9 => .pointer (some ⟨ob, oo + 5, none⟩) | _ => undef) (fun x listed v => ApM W0 base 56 9 ob (oo + 5) (.slice a n c) n xs z9.toList y.cells (listed.getD 5 false) (listed.getD 6 false) (listed.getD 8 false) (listed.getD 10 false) x v)) (by kernel_rfl) ?_ ?_ ?_
  · exact ⟨by simp, Closed.start _, (0, 0, 0), Fr.start _ _ _, by simp only [rep_getDL]; first | exact ApM.startD | exact ApM.startDD⟩
  · intro listed b v q hJ hi
    obtain ⟨hsz, hC, x, hF, hM⟩ := hJ
    have hMb : ApM W0 base 56 9 ob (oo + 5) (.slice a n c) n xs z9.toList y.cells (listed.getD 5 false) (listed.getD 6 false) (listed.getD 8 false) (listed.getD 10 false) x v := hM
    obtain ⟨hl1, hiN⟩ := not_up hsz hi
    obtain ⟨_, o, ho, hdeps⟩ := mem_ready.1 hi
    have hiN : q < 11 := hiN
    obtain rfl | rfl | rfl | rfl | rfl | rfl | rfl | rfl | rfl | rfl | rfl : q = 0 ∨ q = 1 ∨ q = 2 ∨ q = 3 ∨ q = 4 ∨ q = 5 ∨ q = 6 ∨ q = 7 ∨ q = 8 ∨ q = 9 ∨ q = 10 := by omega
    · cases ho
      have e4 := hF.old_is 4 (by rfl) rfl
      refine QJ.quiet (x := x) hsz hC hi hF (Slots.of (by rfl)) rfl (wanted_none rfl) (show ApM W0 base 56 9 ob (oo + 5) (.slice a n c) n xs z9.toList y.cells ((listed.setIfInBounds 0 true).getD 5 false) ((listed.setIfInBounds 0 true).getD 6 false) ((listed.setIfInBounds 0 true).getD 8 false) ((listed.setIfInBounds 0 true).getD 10 false) x v by rw [getD_setN (show 0 ≠ 5 by decide), getD_setN (show 0 ≠ 6 by decide), getD_setN (show 0 ≠ 8 by decide), getD_setN (show 0 ≠ 10 by decide)]; exact hMb) ?_
      show _ = Result.ok (Next.value (.pointer (some ⟨ob, oo + 5, none⟩))) v
      simp [execOp, go_sem, e4]
    · cases ho
      have e41 : b.tmps[41]? = some (.pointer (some ⟨ob, oo + 5, none⟩)) := hF.up 0 41 rfl (hdeps ⟨0, .data⟩ (by simp) rfl)
      refine QJ.quiet (x := x) hsz hC hi hF (Slots.of (by rfl)) rfl (wanted_none rfl) (show ApM W0 base 56 9 ob (oo + 5) (.slice a n c) n xs z9.toList y.cells ((listed.setIfInBounds 1 true).getD 5 false) ((listed.setIfInBounds 1 true).getD 6 false) ((listed.setIfInBounds 1 true).getD 8 false) ((listed.setIfInBounds 1 true).getD 10 false) x v by rw [getD_setN (show 1 ≠ 5 by decide), getD_setN (show 1 ≠ 6 by decide), getD_setN (show 1 ≠ 8 by decide), getD_setN (show 1 ≠ 10 by decide)]; exact hMb) ?_
      show _ = Result.ok (Next.value (.pointer (some ⟨ob, oo + 5, none⟩))) v
      simp [execOp, go_sem, e41]
    · cases ho
      have l10 : listed.getD 10 false = false := by
        cases hh : listed.getD 10 false
        · rfl
        · have y0 := hC 10 _ rfl hh ⟨2, .phase⟩ (by simp) rfl; rw [hl1] at y0; cases y0
      have n1 : v.cell? ⟨ob, oo + 5, none⟩ = some (.slice a n c) := (World.cell?_of_block (a := ⟨ob, oo + 5, none⟩) (hMb.chg ob hpb0 (fun e => by rw [l10] at e; cases e) (fun _ e => hne e.symm))).trans hp0
      have e42 : b.tmps[42]? = some (.pointer (some ⟨ob, oo + 5, none⟩)) := hF.up 1 42 rfl (hdeps ⟨1, .data⟩ (by simp) rfl)
      refine QJ.quiet (x := x) hsz hC hi hF (Slots.of (by rfl)) rfl (wanted_none rfl) (show ApM W0 base 56 9 ob (oo + 5) (.slice a n c) n xs z9.toList y.cells ((listed.setIfInBounds 2 true).getD 5 false) ((listed.setIfInBounds 2 true).getD 6 false) ((listed.setIfInBounds 2 true).getD 8 false) ((listed.setIfInBounds 2 true).getD 10 false) x v by rw [getD_setN (show 2 ≠ 5 by decide), getD_setN (show 2 ≠ 6 by decide), getD_setN (show 2 ≠ 8 by decide), getD_setN (show 2 ≠ 10 by decide)]; exact hMb) ?_
      show _ = Result.ok (Next.value (.slice a n c)) v
      simp [execOp, go_sem, e42, n1]
    · cases ho
      obtain ⟨⟨z0, z1, z2, z3, z4, z5, z6, z7, z8⟩, -⟩ := nine_blk ((hMb.chg w.heap.size hbx (fun _ e => hnb e) (fun _ e => hno e)).trans HBX.out)
      have e3 := hF.old_is 3 (by rfl) rfl
      refine QJ.quiet (x := x) hsz hC hi hF (Slots.of (by rfl)) rfl (wanted_none rfl) (show ApM W0 base 56 9 ob (oo + 5) (.slice a n c) n xs z9.toList y.cells ((listed.setIfInBounds 3 true).getD 5 false) ((listed.setIfInBounds 3 true).getD 6 false) ((listed.setIfInBounds 3 true).getD 8 false) ((listed.setIfInBounds 3 true).getD 10 false) x v by rw [getD_setN (show 3 ≠ 5 by decide), getD_setN (show 3 ≠ 6 by decide), getD_setN (show 3 ≠ 8 by decide), getD_setN (show 3 ≠ 10 by decide)]; exact hMb) ?_
      show _ = Result.ok (Next.value (.agg #[.int .i64 y.k, .int .i64 y.at_, .string y.s, .string y.name, .slice y.pa y.pl y.pc, .slice y.ba y.bl y.bc, .slice y.ea y.el y.ec, .bool y.h, .slice y.ca y.cl y.cc])) v
      simp [execOp, go_sem, e3, z0, z1, z2, z3, z4, z5, z6, z7, z8]
    · cases ho
      have e43 : b.tmps[43]? = some (.slice a n c) := hF.up 2 43 rfl (hdeps ⟨2, .data⟩ (by simp) rfl)
      refine QJ.quiet (x := x) hsz hC hi hF (Slots.of (by rfl)) rfl (wanted_none rfl) (show ApM W0 base 56 9 ob (oo + 5) (.slice a n c) n xs z9.toList y.cells ((listed.setIfInBounds 4 true).getD 5 false) ((listed.setIfInBounds 4 true).getD 6 false) ((listed.setIfInBounds 4 true).getD 8 false) ((listed.setIfInBounds 4 true).getD 10 false) x v by rw [getD_setN (show 4 ≠ 5 by decide), getD_setN (show 4 ≠ 6 by decide), getD_setN (show 4 ≠ 8 by decide), getD_setN (show 4 ≠ 10 by decide)]; exact hMb) ?_
      show _ = Result.ok (Next.value (.int .i64 n)) v
      simp [execOp, go_sem, e43]
    · cases ho
      have l6 : listed.getD 6 false = false := by
        cases hh : listed.getD 6 false
        · rfl
        · have y0 := hC 6 _ rfl hh ⟨5, .data⟩ (by simp) rfl; rw [hl1] at y0; cases y0
      have l10 : listed.getD 10 false = false := by
        cases hh : listed.getD 10 false
        · rfl
        · have y0 := hC 10 _ rfl hh ⟨5, .phase⟩ (by simp) rfl; rw [hl1] at y0; cases y0
      have m := hMb
      rw [hl1, l6, l10] at m
      refine QJ.make (v' := v.alloc (.cells #[.int .i64 0, .int .i64 0, .string ⟨#[]⟩, .string ⟨#[]⟩, .slice none 0 0, .slice none 0 0, .slice none 0 0, .bool false, .slice none 0 0] 56)) (x := x) (x' := (v.heap.size, x.2)) hsz hC hi hF (Slots.of (by rfl)) rfl (wanted_none rfl) (fun q hq => match q, (show q ≠ 5 by rintro rfl; rw [hl1] at hq; cases hq) with | 0, _ => rfl | 1, _ => rfl | 2, _ => rfl | 3, _ => rfl | 4, _ => rfl | 5, h => absurd rfl h | 6, _ => rfl | 7, _ => rfl | 8, _ => rfl | 9, _ => rfl | 10, _ => rfl | _ + 11, _ => rfl) (show ApM W0 base 56 9 ob (oo + 5) (.slice a n c) n xs z9.toList y.cells ((listed.setIfInBounds 5 true).getD 5 false) ((listed.setIfInBounds 5 true).getD 6 false) ((listed.setIfInBounds 5 true).getD 8 false) ((listed.setIfInBounds 5 true).getD 10 false) (v.heap.size, x.2) (v.alloc (.cells #[.int .i64 0, .int .i64 0, .string ⟨#[]⟩, .string ⟨#[]⟩, .slice none 0 0, .slice none 0 0, .slice none 0 0, .bool false, .slice none 0 0] 56)) by rw [getD_setS (by rw [hsz]; decide), getD_setN (show 5 ≠ 6 by decide), getD_setN (show 5 ≠ 8 by decide), getD_setN (show 5 ≠ 10 by decide), l6, l10]; exact m.lay) ?_
      show _ = Result.ok (Next.value (.slice (some ⟨v.heap.size, 0, none⟩) 1 1)) _
      simp [execOp, go_sem]
    · cases ho
      have l5 := hdeps ⟨5, .data⟩ (by simp) rfl
      have l7 : listed.getD 7 false = false := by
        cases hh : listed.getD 7 false
        · rfl
        · have y0 := hC 7 _ rfl hh ⟨6, .data⟩ (by simp) rfl; rw [hl1] at y0; cases y0
      have l8 : listed.getD 8 false = false := by
        cases hh : listed.getD 8 false
        · rfl
        · have y0 := hC 8 _ rfl hh ⟨6, .chain⟩ (by simp) rfl; rw [hl1] at y0; cases y0
      have l10 : listed.getD 10 false = false := by
        cases hh : listed.getD 10 false
        · rfl
        · have y0 := hC 10 _ rfl hh ⟨6, .data⟩ (by simp) rfl; rw [hl1] at y0; cases y0
      have m := hMb
      rw [hl1, l5, l8, l10] at m
      obtain ⟨hlit, hlx⟩ := m.lit rfl rfl
      have e43 : b.tmps[43]? = some (.slice a n c) := hF.up 2 43 rfl (hdeps ⟨2, .data⟩ (by simp) rfl)
      have e46 : b.tmps[46]? = some (.slice (some ⟨x.1, 0, none⟩) 1 1) := hF.up 5 46 rfl (hdeps ⟨5, .data⟩ (by simp) rfl)
      refine wpOp_wpG rfl (wanted_none rfl) ?_
      refine wp_append_fresh (.tmp 43) (.tmp 46) 50 rfl base 56 i0 (.agg #[.int .i64 0, .int .i64 0, .string ⟨#[]⟩, .string ⟨#[]⟩, .slice none 0 0, .slice none 0 0, .slice none 0 0, .bool false, .slice none 0 0]) 9 152 Tryz.underlying50 hi0 hz0' hz1' hz2' rfl (by decide) (.slice a n c) n xs (by simp [Act.eval, e43]) (m.row HOW.out) ⟨x.1, 0, none⟩ 1 1 z9.toList (by simp [Act.eval, e46]) rfl (lit_read hlit) (fun u hu => z9_one u hu) (by simp [maxLen]; omega) (by omega) (by have := m.size; omega) ?_
      intro v2 w2 h1 h2 h3
      obtain ⟨g2, c2, rfl⟩ := own_some h1
      exact ⟨by simp [hsz], hC.put hi, (x.1, g2, c2), (hF.congr (fun q hq => match q, (show q ≠ 6 by rintro rfl; rw [hl1] at hq; cases hq), (show q ≠ 7 by rintro rfl; rw [l7] at hq; cases hq) with | 0, _, _ => rfl | 1, _, _ => rfl | 2, _, _ => rfl | 3, _, _ => rfl | 4, _, _ => rfl | 5, _, _ => rfl | 6, h, _ => absurd rfl h | 7, _, h => absurd rfl h | 8, _, _ => rfl | 9, _, _ => rfl | 10, _, _ => rfl | _ + 11, _, _ => rfl)).put (Slots.of (by rfl)) hsz rfl, (show ApM W0 base 56 9 ob (oo + 5) (.slice a n c) n xs z9.toList y.cells ((listed.setIfInBounds 6 true).getD 5 false) ((listed.setIfInBounds 6 true).getD 6 false) ((listed.setIfInBounds 6 true).getD 8 false) ((listed.setIfInBounds 6 true).getD 10 false) (x.1, g2, c2) w2 by rw [getD_setS (by rw [hsz]; decide), getD_setN (show 6 ≠ 5 by decide), getD_setN (show 6 ≠ 8 by decide), getD_setN (show 6 ≠ 10 by decide), l5, l8, l10]; exact m.app h1 h2 (h3 g2 rfl))⟩
    · cases ho
      have e47 : b.tmps[47]? = some (.slice (some ⟨x.2.1, 0, none⟩) (n + 1) x.2.2) := hF.up 6 47 rfl (hdeps ⟨6, .data⟩ (by simp) rfl)
      have e45 : b.tmps[45]? = some (.int .i64 n) := hF.up 4 45 rfl (hdeps ⟨4, .data⟩ (by simp) rfl)
      refine QJ.quiet (x := x) hsz hC hi hF (Slots.of (by rfl)) rfl (wanted_none rfl) (show ApM W0 base 56 9 ob (oo + 5) (.slice a n c) n xs z9.toList y.cells ((listed.setIfInBounds 7 true).getD 5 false) ((listed.setIfInBounds 7 true).getD 6 false) ((listed.setIfInBounds 7 true).getD 8 false) ((listed.setIfInBounds 7 true).getD 10 false) x v by rw [getD_setN (show 7 ≠ 5 by decide), getD_setN (show 7 ≠ 6 by decide), getD_setN (show 7 ≠ 8 by decide), getD_setN (show 7 ≠ 10 by decide)]; exact hMb) ?_
      show _ = Result.ok (Next.value (.pointer (some ⟨x.2.1, n * 9, none⟩))) v
      simp [execOp, go_sem, e47, e45]
      intro hh; omega
    · cases ho
      have l6 := hdeps ⟨6, .chain⟩ (by simp) rfl
      have m := hMb
      rw [hl1, l6] at m
      have hown := m.own rfl
      simp only [Bool.false_eq_true, if_false] at hown
      obtain ⟨cur, hcur⟩ := own_blk hown
      obtain ⟨hnew, hfit⟩ := last_stored hown hcur hxl #[.int .i64 y.k, .int .i64 y.at_, .string y.s, .string y.name, .slice y.pa y.pl y.pc, .slice y.ba y.bl y.bc, .slice y.ea y.el y.ec, .bool y.h, .slice y.ca y.cl y.cc] rfl
      have e48 : b.tmps[48]? = some (.pointer (some ⟨x.2.1, n * 9, none⟩)) := hF.up 7 48 rfl (hdeps ⟨7, .data⟩ (by simp) rfl)
      have e44 : b.tmps[44]? = some (.agg #[.int .i64 y.k, .int .i64 y.at_, .string y.s, .string y.name, .slice y.pa y.pl y.pc, .slice y.ba y.bl y.bc, .slice y.ea y.el y.ec, .bool y.h, .slice y.ca y.cl y.cc]) := hF.up 3 44 rfl (hdeps ⟨3, .data⟩ (by simp) rfl)
      refine QJ.store (v' := v.setRow x.2.1 (cur.toList.take (n * 9) ++ (#[.int .i64 y.k, .int .i64 y.at_, .string y.s, .string y.name, .slice y.pa y.pl y.pc, .slice y.ba y.bl y.bc, .slice y.ea y.el y.ec, .bool y.h, .slice y.ca y.cl y.cc] : Array Value).toList ++ cur.toList.drop (n * 9 + (#[.int .i64 y.k, .int .i64 y.at_, .string y.s, .string y.name, .slice y.pa y.pl y.pc, .slice y.ba y.bl y.bc, .slice y.ea y.el y.ec, .bool y.h, .slice y.ca y.cl y.cc] : Array Value).size)).toArray) (x := x) hsz hC hi hF (Slots.of (by rfl)) rfl rfl (wanted_none rfl) (show ApM W0 base 56 9 ob (oo + 5) (.slice a n c) n xs z9.toList y.cells ((listed.setIfInBounds 8 true).getD 5 false) ((listed.setIfInBounds 8 true).getD 6 false) ((listed.setIfInBounds 8 true).getD 8 false) ((listed.setIfInBounds 8 true).getD 10 false) x (v.setRow x.2.1 (cur.toList.take (n * 9) ++ (#[.int .i64 y.k, .int .i64 y.at_, .string y.s, .string y.name, .slice y.pa y.pl y.pc, .slice y.ba y.bl y.bc, .slice y.ea y.el y.ec, .bool y.h, .slice y.ca y.cl y.cc] : Array Value).toList ++ cur.toList.drop (n * 9 + (#[.int .i64 y.k, .int .i64 y.at_, .string y.s, .string y.name, .slice y.pa y.pl y.pc, .slice y.ba y.bl y.bc, .slice y.ea y.el y.ec, .bool y.h, .slice y.ca y.cl y.cc] : Array Value).size)).toArray) by rw [getD_setS (by rw [hsz]; decide), getD_setN (show 8 ≠ 5 by decide), getD_setN (show 8 ≠ 6 by decide), getD_setN (show 8 ≠ 10 by decide), l6]; exact m.node hpb0 hne hnew (setRow_only _ _ _)) ?_
      exact exec_store_at (ρ := b.eval) 56 (.tmp 48) (.tmp 44) rfl x.2.1 (n * 9) #[.int .i64 y.k, .int .i64 y.at_, .string y.s, .string y.name, .slice y.pa y.pl y.pc, .slice y.ba y.bl y.bc, .slice y.ea y.el y.ec, .bool y.h, .slice y.ca y.cl y.cc] (by simp [Act.eval, e48]) (by simp [Act.eval, e44]) 56 cur hcur (by kernel_rfl) hfit (by kernel_rfl)
    · cases ho
      have e41 : b.tmps[41]? = some (.pointer (some ⟨ob, oo + 5, none⟩)) := hF.up 0 41 rfl (hdeps ⟨0, .data⟩ (by simp) rfl)
      refine QJ.quiet (x := x) hsz hC hi hF (Slots.of (by rfl)) rfl (wanted_none rfl) (show ApM W0 base 56 9 ob (oo + 5) (.slice a n c) n xs z9.toList y.cells ((listed.setIfInBounds 9 true).getD 5 false) ((listed.setIfInBounds 9 true).getD 6 false) ((listed.setIfInBounds 9 true).getD 8 false) ((listed.setIfInBounds 9 true).getD 10 false) x v by rw [getD_setN (show 9 ≠ 5 by decide), getD_setN (show 9 ≠ 6 by decide), getD_setN (show 9 ≠ 8 by decide), getD_setN (show 9 ≠ 10 by decide)]; exact hMb) ?_
      show _ = Result.ok (Next.value (.pointer (some ⟨ob, oo + 5, none⟩))) v
      simp [execOp, go_sem, e41]
    · cases ho
      have l6 := hdeps ⟨6, .data⟩ (by simp) rfl
      have m := hMb
      rw [hl1, l6] at m
      have hbk := m.chg ob hpb0 (fun e => by cases e) (fun _ e => hne e.symm)
      have n1 : v.cell? ⟨ob, oo + 5, none⟩ = some (.slice a n c) := (World.cell?_of_block (a := ⟨ob, oo + 5, none⟩) hbk).trans hp0
      have n2 : v.frozen? ⟨ob, oo + 5, none⟩ = false := by rw [← hpf0]; simp [World.frozen?, hbk]
      have e49 : b.tmps[49]? = some (.pointer (some ⟨ob, oo + 5, none⟩)) := hF.up 9 49 rfl (hdeps ⟨9, .data⟩ (by simp) rfl)
      have e47 : b.tmps[47]? = some (.slice (some ⟨x.2.1, 0, none⟩) (n + 1) x.2.2) := hF.up 6 47 rfl (hdeps ⟨6, .data⟩ (by simp) rfl)
      refine QJ.store (v' := v.setCell ⟨ob, oo + 5, none⟩ (.slice (some ⟨x.2.1, 0, none⟩) (n + 1) x.2.2)) (x := x) hsz hC hi hF (Slots.of (by rfl)) rfl rfl (wanted_none rfl) (show ApM W0 base 56 9 ob (oo + 5) (.slice a n c) n xs z9.toList y.cells ((listed.setIfInBounds 10 true).getD 5 false) ((listed.setIfInBounds 10 true).getD 6 false) ((listed.setIfInBounds 10 true).getD 8 false) ((listed.setIfInBounds 10 true).getD 10 false) x (v.setCell ⟨ob, oo + 5, none⟩ (.slice (some ⟨x.2.1, 0, none⟩) (n + 1) x.2.2)) by rw [getD_setS (by rw [hsz]; decide), getD_setN (show 10 ≠ 5 by decide), getD_setN (show 10 ≠ 6 by decide), getD_setN (show 10 ≠ 8 by decide), l6]; exact m.put hpb0 hne) ?_
      simp [execOp, go_sem, e49, e47, n1, n2]
  intro listed b W5 hJ hr'
  obtain ⟨hsz, hC, xx, hF, hM⟩ := hJ
  have hall := all_upB2 (by rfl) hsz hr'
  have hMb : ApM W0 base 56 9 ob (oo + 5) (.slice a n c) n xs z9.toList y.cells true true true true xx W5 := by
    have h : ApM W0 base 56 9 ob (oo + 5) (.slice a n c) n xs z9.toList y.cells (listed.getD 5 false) (listed.getD 6 false) (listed.getD 8 false) (listed.getD 10 false) xx W5 := hM
    rw [hall 5 (by decide), hall 6 (by decide), hall 8 (by decide), hall 10 (by decide)] at h
    exact h
  have hb : b = putAll _ _ _ 11 := hF.done (Slots.of (by rfl)) hall
  subst hb
  simp only [putAll]
  have HFIN := Lib.hid (hMb.done HB0.out hpb)
  clear hMb hM hF hC hsz hr' hall
  simp [dstOf, Act.put]
  go_wp2
  go_end0
  exact ⟨rfl, _, _, HFIN.out⟩
set_option maxRecDepth 100000 in
set_option maxHeartbeats 8000000 in
theorem put_case (w : World) (base ob oo : Nat) (hbase : base ≤ w.heap.size) (y : C9) (hob : ob < w.heap.size) (h7 : w.cell? ⟨ob, oo + 7, none⟩ = some (.bool false)) (cg k cc : Nat) (hk : k ≤ 2000) (hpb : cg < w.heap.size) (h8 : w.cell? ⟨ob, oo + 8, none⟩ = some (.slice (some ⟨cg, 0, none⟩) (k + 1) cc)) (a : Option Addr) (n c : Nat) (xs : List Value)
    (hp : w.cell? ⟨cg, k * 2 + 1, none⟩ = some (.slice a n c)) (hpf : w.frozen? ⟨cg, k * 2 + 1, none⟩ = false) (hown : w.ownsRow base 56 9 (.slice a n c) n xs) (hn : n ≤ 2000) (hne : (Value.slice a n c).ownBlock ≠ some cg) :
    Calls Tryz.prog 104 #[.pointer (some ⟨ob, oo, none⟩), y.val] w (PutP base cg (k * 2 + 1) (.slice a n c) n (xs ++ y.cells) w) := by
  obtain ⟨W0, hW0⟩ : ∃ W0, W0 = w.alloc (.cells #[.int .i64 y.k, .int .i64 y.at_, .string y.s, .string y.name, .slice y.pa y.pl y.pc, .slice y.ba y.bl y.bc, .slice y.ea y.el y.ec, .bool y.h, .slice y.ca y.cl y.cc] 56) := ⟨_, rfl⟩
  have hb0 : Below w.heap.size w W0 := by rw [hW0]; exact (Below.refl _ _).alloc (Nat.le_refl _) _
  have hz0 : W0.heap.size = w.heap.size + 1 := by rw [hW0]; simp
  have hbx0 : W0.heap[w.heap.size]? = some (.cells #[.int .i64 y.k, .int .i64 y.at_, .string y.s, .string y.name, .slice y.pa y.pl y.pc, .slice y.ba y.bl y.bc, .slice y.ea y.el y.ec, .bool y.h, .slice y.ca y.cl y.cc] 56 (0, 0)) := by rw [hW0]; exact heap_alloc_new w _
  skip
  have hpb0 : cg < W0.heap.size := by omega
  have hob0 : ob < W0.heap.size := by omega
  have hp0 := (hb0.cell (p := ⟨cg, k * 2 + 1, none⟩) hpb).trans hp
  have hpf0 : W0.frozen? ⟨cg, k * 2 + 1, none⟩ = false := by rw [← hpf]; simp [World.frozen?, hb0.block cg hpb]
  have hbx : w.heap.size < W0.heap.size := by omega
  have hnb : w.heap.size ≠ cg := by omega
  have hno : some w.heap.size ≠ (Value.slice a n c).ownBlock := fun e => by have := (hown.lt _ e.symm).2; omega
  have how0 : W0.ownsRow base 56 9 (.slice a n c) n xs := ownsRow_same hown (fun g hg => hb0.block g (hown.lt g hg).2)
  have hbase0 : base ≤ W0.heap.size := by omega
  have hxl : xs.length = n * 9 := hown.1
  have k7 := (hb0.cell (p := ⟨ob, oo + 7, none⟩) hob).trans h7
  have k8 := (hb0.cell (p := ⟨ob, oo + 8, none⟩) hob).trans h8
  obtain ⟨i0, hi0, hz0', hz1', hz2'⟩ := info_parts info9
  have HW0 := Lib.hid hW0; have HB0 := Lib.hid hb0; have HBX := Lib.hid hbx0; have HOW := Lib.hid how0
  clear hW0 hb0 hbx0 how0 hown
  unfold C9.val
  go_enter Tryz.func104, Tryz.ntmps104
  go_upto_region 1 with fail
  rw [← HW0.out]
  have hk1 : (k : Int) < (k : Int) + 1 := by omega
  go_upto_region 5 with fail
  refine wp_region_by (QJ (fun (_ : Unit) qq => match qq with | 0 => .pointer (some ⟨ob, oo, none⟩) | 1 => .pointer (some ⟨ob, oo, none⟩) | 2 => .pointer (some ⟨ob, oo, none⟩) | 3 => .pointer (some ⟨ob, oo + 8, none⟩) | 4 => .slice (some ⟨cg, 0, none⟩) (k + 1) cc | 5 => .pointer (some ⟨ob, oo, none⟩) | 6 => .pointer (some ⟨ob, oo, none⟩) | 7 => .pointer (some ⟨ob, oo, none⟩) | 8 => .pointer (some ⟨ob, oo + 8, none⟩) | 9 => .slice (some ⟨cg, 0, none⟩) (k + 1) cc | 10 => .int .i64 ((k + 1 : Nat) : Int) | 11 => .int .i64 k | 12 => .pointer (some ⟨cg, k * 2, none⟩) | 13 => .pointer (some ⟨cg, k * 2 + 1, none⟩) | 14 => .pointer (some ⟨cg, k * 2 + 1, none⟩) | _ => undef) (fun _ _ v => v = W0.drew)) (by kernel_rfl) ?_ ?_ ?_
  · exact ⟨by simp, Closed.start _, (), Fr.start _ _ _, rfl⟩
  · intro listed b v q hJ hi
    obtain ⟨hsz, hC, x, hF, hM⟩ := hJ
    obtain ⟨hl1, hiN⟩ := not_up hsz hi
    obtain ⟨_, o, ho, hdeps⟩ := mem_ready.1 hi
    have hiN : q < 15 := hiN
    obtain rfl | rfl | rfl | rfl | rfl | rfl | rfl | rfl | rfl | rfl | rfl | rfl | rfl | rfl | rfl : q = 0 ∨ q = 1 ∨ q = 2 ∨ q = 3 ∨ q = 4 ∨ q = 5 ∨ q = 6 ∨ q = 7 ∨ q = 8 ∨ q = 9 ∨ q = 10 ∨ q = 11 ∨ q = 12 ∨ q = 13 ∨ q = 14 := by omega
    · cases ho
      have e0 := hF.old_is 0 (by rfl) rfl
      refine QJ.quiet (x := x) hsz hC hi hF (Slots.of (by rfl)) rfl (wanted_none rfl) hM ?_
      show _ = Result.ok (Next.value (.pointer (some ⟨ob, oo, none⟩))) v
      simp [execOp, go_sem, e0]
    · cases ho
      have e27 : b.tmps[27]? = some (.pointer (some ⟨ob, oo, none⟩)) := hF.up 0 27 rfl (hdeps ⟨0, .data⟩ (by simp) rfl)
      refine QJ.quiet (x := x) hsz hC hi hF (Slots.of (by rfl)) rfl (wanted_none rfl) hM ?_
      show _ = Result.ok (Next.value (.pointer (some ⟨ob, oo, none⟩))) v
      simp [execOp, go_sem, e27]
    · cases ho
      have e28 : b.tmps[28]? = some (.pointer (some ⟨ob, oo, none⟩)) := hF.up 1 28 rfl (hdeps ⟨1, .data⟩ (by simp) rfl)
      refine QJ.quiet (x := x) hsz hC hi hF (Slots.of (by rfl)) rfl (wanted_none rfl) hM ?_
      show _ = Result.ok (Next.value (.pointer (some ⟨ob, oo, none⟩))) v
      simp [execOp, go_sem, e28]
    · cases ho
      have e29 : b.tmps[29]? = some (.pointer (some ⟨ob, oo, none⟩)) := hF.up 2 29 rfl (hdeps ⟨2, .data⟩ (by simp) rfl)
      refine QJ.quiet (x := x) hsz hC hi hF (Slots.of (by rfl)) rfl (wanted_none rfl) hM ?_
      show _ = Result.ok (Next.value (.pointer (some ⟨ob, oo + 8, none⟩))) v
      simp [execOp, go_sem, e29]
    · cases ho
      have e30 : b.tmps[30]? = some (.pointer (some ⟨ob, oo + 8, none⟩)) := hF.up 3 30 rfl (hdeps ⟨3, .data⟩ (by simp) rfl)
      have k8 : v.cell? ⟨ob, oo + 8, none⟩ = some (.slice (some ⟨cg, 0, none⟩) (k + 1) cc) := by rw [hM]; exact k8
      refine QJ.quiet (x := x) hsz hC hi hF (Slots.of (by rfl)) rfl (wanted_none rfl) hM ?_
      show _ = Result.ok (Next.value (.slice (some ⟨cg, 0, none⟩) (k + 1) cc)) v
      simp [execOp, go_sem, e30, k8]
    · cases ho
      have e0 := hF.old_is 0 (by rfl) rfl
      refine QJ.quiet (x := x) hsz hC hi hF (Slots.of (by rfl)) rfl (wanted_none rfl) hM ?_
      show _ = Result.ok (Next.value (.pointer (some ⟨ob, oo, none⟩))) v
      simp [execOp, go_sem, e0]
    · cases ho
      have e32 : b.tmps[32]? = some (.pointer (some ⟨ob, oo, none⟩)) := hF.up 5 32 rfl (hdeps ⟨5, .data⟩ (by simp) rfl)
      refine QJ.quiet (x := x) hsz hC hi hF (Slots.of (by rfl)) rfl (wanted_none rfl) hM ?_
      show _ = Result.ok (Next.value (.pointer (some ⟨ob, oo, none⟩))) v
      simp [execOp, go_sem, e32]
    · cases ho
      have e33 : b.tmps[33]? = some (.pointer (some ⟨ob, oo, none⟩)) := hF.up 6 33 rfl (hdeps ⟨6, .data⟩ (by simp) rfl)
      refine QJ.quiet (x := x) hsz hC hi hF (Slots.of (by rfl)) rfl (wanted_none rfl) hM ?_
      show _ = Result.ok (Next.value (.pointer (some ⟨ob, oo, none⟩))) v
      simp [execOp, go_sem, e33]
    · cases ho
      have e34 : b.tmps[34]? = some (.pointer (some ⟨ob, oo, none⟩)) := hF.up 7 34 rfl (hdeps ⟨7, .data⟩ (by simp) rfl)
      refine QJ.quiet (x := x) hsz hC hi hF (Slots.of (by rfl)) rfl (wanted_none rfl) hM ?_
      show _ = Result.ok (Next.value (.pointer (some ⟨ob, oo + 8, none⟩))) v
      simp [execOp, go_sem, e34]
    · cases ho
      have e35 : b.tmps[35]? = some (.pointer (some ⟨ob, oo + 8, none⟩)) := hF.up 8 35 rfl (hdeps ⟨8, .data⟩ (by simp) rfl)
      have k8 : v.cell? ⟨ob, oo + 8, none⟩ = some (.slice (some ⟨cg, 0, none⟩) (k + 1) cc) := by rw [hM]; exact k8
      refine QJ.quiet (x := x) hsz hC hi hF (Slots.of (by rfl)) rfl (wanted_none rfl) hM ?_
      show _ = Result.ok (Next.value (.slice (some ⟨cg, 0, none⟩) (k + 1) cc)) v
      simp [execOp, go_sem, e35, k8]
    · cases ho
      have e36 : b.tmps[36]? = some (.slice (some ⟨cg, 0, none⟩) (k + 1) cc) := hF.up 9 36 rfl (hdeps ⟨9, .data⟩ (by simp) rfl)
      refine QJ.quiet (x := x) hsz hC hi hF (Slots.of (by rfl)) rfl (wanted_none rfl) hM ?_
      show _ = Result.ok (Next.value (.int .i64 ((k + 1 : Nat) : Int))) v
      simp [execOp, go_sem, e36]
    · cases ho
      have e37 : b.tmps[37]? = some (.int .i64 ((k + 1 : Nat) : Int)) := hF.up 10 37 rfl (hdeps ⟨10, .data⟩ (by simp) rfl)
      refine QJ.quiet (x := x) hsz hC hi hF (Slots.of (by rfl)) rfl (wanted_none rfl) hM ?_
      show _ = Result.ok (Next.value (.int .i64 k)) v
      simp [execOp, go_sem, e37]
      exact wrap_sub k hk
    · cases ho
      have e31 : b.tmps[31]? = some (.slice (some ⟨cg, 0, none⟩) (k + 1) cc) := hF.up 4 31 rfl (hdeps ⟨4, .data⟩ (by simp) rfl)
      have e38 : b.tmps[38]? = some (.int .i64 k) := hF.up 11 38 rfl (hdeps ⟨11, .data⟩ (by simp) rfl)
      refine QJ.quiet (x := x) hsz hC hi hF (Slots.of (by rfl)) rfl (wanted_none rfl) hM ?_
      show _ = Result.ok (Next.value (.pointer (some ⟨cg, k * 2, none⟩))) v
      simp [execOp, go_sem, e31, e38]
      intro hh; omega
    · cases ho
      have e39 : b.tmps[39]? = some (.pointer (some ⟨cg, k * 2, none⟩)) := hF.up 12 39 rfl (hdeps ⟨12, .data⟩ (by simp) rfl)
      refine QJ.quiet (x := x) hsz hC hi hF (Slots.of (by rfl)) rfl (wanted_none rfl) hM ?_
      show _ = Result.ok (Next.value (.pointer (some ⟨cg, k * 2 + 1, none⟩))) v
      simp [execOp, go_sem, e39]
    · cases ho
      have e40 : b.tmps[40]? = some (.pointer (some ⟨cg, k * 2 + 1, none⟩)) := hF.up 13 40 rfl (hdeps ⟨13, .data⟩ (by simp) rfl)
      refine QJ.quiet (x := x) hsz hC hi hF (Slots.of (by rfl)) rfl (wanted_none rfl) hM ?_
      show _ = Result.ok (Next.value (.pointer (some ⟨cg, k * 2 + 1, none⟩))) v
      simp [execOp, go_sem, e40]
  intro listed b W5 hJ hr'
  obtain ⟨hsz, hC, xx, hF, hM⟩ := hJ
  have hall := all_upB2 (by rfl) hsz hr'
  have hb : b = putAll _ _ _ 15 := hF.done (Slots.of (by rfl)) hall
  subst hb
  subst W5
  simp only [putAll]
  simp [dstOf, Act.put]
  clear hF hC hall hr' hsz
  go_upto_region 6 with fail
  refine wp_region_by (QJ (fun (x : Nat × Nat × Nat) qq => match qq with | 0 => .pointer (some ⟨cg, k * 2 + 1, none⟩) | 1 => .pointer (some ⟨cg, k * 2 + 1, none⟩) | 2 => .slice a n c | 3 => .agg #[.int .i64 y.k, .int .i64 y.at_, .string y.s, .string y.name, .slice y.pa y.pl y.pc, .slice y.ba y.bl y.bc, .slice y.ea y.el y.ec, .bool y.h, .slice y.ca y.cl y.cc] | 4 => .int .i64 n | 5 => .slice (some ⟨x.1, 0, none⟩) 1 1 | 6 => .slice (some ⟨x.2.1, 0, none⟩) (n + 1) x.2.2 | 7 => .pointer (some ⟨x.2.1, n * 9, none⟩) | 9 => .pointer (some ⟨cg, k * 2 + 1, none⟩) | _ => undef) (fun x listed v => ApM W0 base 56 9 cg (k * 2 + 1) (.slice a n c) n xs z9.toList y.cells (listed.getD 5 false) (listed.getD 6 false) (listed.getD 8 false) (listed.getD 10 false) x v)) (by kernel_rfl) ?_ ?_ ?_
  · exact ⟨by simp, Closed.start _, (0, 0, 0), Fr.start _ _ _, by simp only [rep_getDL]; first | exact ApM.startD | exact ApM.startDD⟩
  · intro listed b v q hJ hi
    obtain ⟨hsz, hC, x, hF, hM⟩ := hJ
    have hMb : ApM W0 base 56 9 cg (k * 2 + 1) (.slice a n c) n xs z9.toList y.cells (listed.getD 5 false) (listed.getD 6 false) (listed.getD 8 false) (listed.getD 10 false) x v := hM
    obtain ⟨hl1, hiN⟩ := not_up hsz hi
    obtain ⟨_, o, ho, hdeps⟩ := mem_ready.1 hi
    have hiN : q < 11 := hiN
    obtain rfl | rfl | rfl | rfl | rfl | rfl | rfl | rfl | rfl | rfl | rfl : q = 0 ∨ q = 1 ∨ q = 2 ∨ q = 3 ∨ q = 4 ∨ q = 5 ∨ q = 6 ∨ q = 7 ∨ q = 8 ∨ q = 9 ∨ q = 10 := by omega
    · cases ho
      have e4 := hF.old_is 4 (by rfl) rfl
      refine QJ.quiet (x := x) hsz hC hi hF (Slots.of (by rfl)) rfl (wanted_none rfl) (show ApM W0 base 56 9 cg (k * 2 + 1) (.slice a n c) n xs z9.toList y.cells ((listed.setIfInBounds 0 true).getD 5 false) ((listed.setIfInBounds 0 true).getD 6 false) ((listed.setIfInBounds 0 true).getD 8 false) ((listed.setIfInBounds 0 true).getD 10 false) x v by rw [getD_setN (show 0 ≠ 5 by decide), getD_setN (show 0 ≠ 6 by decide), getD_setN (show 0 ≠ 8 by decide), getD_setN (show 0 ≠ 10 by decide)]; exact hMb) ?_
      show _ = Result.ok (Next.value (.pointer (some ⟨cg, k * 2 + 1, none⟩))) v
      simp [execOp, go_sem, e4]
    · cases ho
      have e41 : b.tmps[41]? = some (.pointer (some ⟨cg, k * 2 + 1, none⟩)) := hF.up 0 41 rfl (hdeps ⟨0, .data⟩ (by simp) rfl)
      refine QJ.quiet (x := x) hsz hC hi hF (Slots.of (by rfl)) rfl (wanted_none rfl) (show ApM W0 base 56 9 cg (k * 2 + 1) (.slice a n c) n xs z9.toList y.cells ((listed.setIfInBounds 1 true).getD 5 false) ((listed.setIfInBounds 1 true).getD 6 false) ((listed.setIfInBounds 1 true).getD 8 false) ((listed.setIfInBounds 1 true).getD 10 false) x v by rw [getD_setN (show 1 ≠ 5 by decide), getD_setN (show 1 ≠ 6 by decide), getD_setN (show 1 ≠ 8 by decide), getD_setN (show 1 ≠ 10 by decide)]; exact hMb) ?_
      show _ = Result.ok (Next.value (.pointer (some ⟨cg, k * 2 + 1, none⟩))) v
      simp [execOp, go_sem, e41]
    · cases ho
      have l10 : listed.getD 10 false = false := by
        cases hh : listed.getD 10 false
        · rfl
        · have y0 := hC 10 _ rfl hh ⟨2, .phase⟩ (by simp) rfl; rw [hl1] at y0; cases y0
      have n1 : v.cell? ⟨cg, k * 2 + 1, none⟩ = some (.slice a n c) := (World.cell?_of_block (a := ⟨cg, k * 2 + 1, none⟩) (hMb.chg cg hpb0 (fun e => by rw [l10] at e; cases e) (fun _ e => hne e.symm))).trans hp0
      have e42 : b.tmps[42]? = some (.pointer (some ⟨cg, k * 2 + 1, none⟩)) := hF.up 1 42 rfl (hdeps ⟨1, .data⟩ (by simp) rfl)
      refine QJ.quiet (x := x) hsz hC hi hF (Slots.of (by rfl)) rfl (wanted_none rfl) (show ApM W0 base 56 9 cg (k * 2 + 1) (.slice a n c) n xs z9.toList y.cells ((listed.setIfInBounds 2 true).getD 5 false) ((listed.setIfInBounds 2 true).getD 6 false) ((listed.setIfInBounds 2 true).getD 8 false) ((listed.setIfInBounds 2 true).getD 10 false) x v by rw [getD_setN (show 2 ≠ 5 by decide), getD_setN (show 2 ≠ 6 by decide), getD_setN (show 2 ≠ 8 by decide), getD_setN (show 2 ≠ 10 by decide)]; exact hMb) ?_
      show _ = Result.ok (Next.value (.slice a n c)) v
      simp [execOp, go_sem, e42, n1]
    · cases ho
      obtain ⟨⟨z0, z1, z2, z3, z4, z5, z6, z7, z8⟩, -⟩ := nine_blk ((hMb.chg w.heap.size hbx (fun _ e => hnb e) (fun _ e => hno e)).trans HBX.out)
      have e3 := hF.old_is 3 (by rfl) rfl
      refine QJ.quiet (x := x) hsz hC hi hF (Slots.of (by rfl)) rfl (wanted_none rfl) (show ApM W0 base 56 9 cg (k * 2 + 1) (.slice a n c) n xs z9.toList y.cells ((listed.setIfInBounds 3 true).getD 5 false) ((listed.setIfInBounds 3 true).getD 6 false) ((listed.setIfInBounds 3 true).getD 8 false) ((listed.setIfInBounds 3 true).getD 10 false) x v by rw [getD_setN (show 3 ≠ 5 by decide), getD_setN (show 3 ≠ 6 by decide), getD_setN (show 3 ≠ 8 by decide), getD_setN (show 3 ≠ 10 by decide)]; exact hMb) ?_
      show _ = Result.ok (Next.value (.agg #[.int .i64 y.k, .int .i64 y.at_, .string y.s, .string y.name, .slice y.pa y.pl y.pc, .slice y.ba y.bl y.bc, .slice y.ea y.el y.ec, .bool y.h, .slice y.ca y.cl y.cc])) v
      simp [execOp, go_sem, e3, z0, z1, z2, z3, z4, z5, z6, z7, z8]
    · cases ho
      have e43 : b.tmps[43]? = some (.slice a n c) := hF.up 2 43 rfl (hdeps ⟨2, .data⟩ (by simp) rfl)
      refine QJ.quiet (x := x) hsz hC hi hF (Slots.of (by rfl)) rfl (wanted_none rfl) (show ApM W0 base 56 9 cg (k * 2 + 1) (.slice a n c) n xs z9.toList y.cells ((listed.setIfInBounds 4 true).getD 5 false) ((listed.setIfInBounds 4 true).getD 6 false) ((listed.setIfInBounds 4 true).getD 8 false) ((listed.setIfInBounds 4 true).getD 10 false) x v by rw [getD_setN (show 4 ≠ 5 by decide), getD_setN (show 4 ≠ 6 by decide), getD_setN (show 4 ≠ 8 by decide), getD_setN (show 4 ≠ 10 by decide)]; exact hMb) ?_
      show _ = Result.ok (Next.value (.int .i64 n)) v
      simp [execOp, go_sem, e43]
    · cases ho
      have l6 : listed.getD 6 false = false := by
        cases hh : listed.getD 6 false
        · rfl
        · have y0 := hC 6 _ rfl hh ⟨5, .data⟩ (by simp) rfl; rw [hl1] at y0; cases y0
      have l10 : listed.getD 10 false = false := by
        cases hh : listed.getD 10 false
        · rfl
        · have y0 := hC 10 _ rfl hh ⟨5, .phase⟩ (by simp) rfl; rw [hl1] at y0; cases y0
      have m := hMb
      rw [hl1, l6, l10] at m
      refine QJ.make (v' := v.alloc (.cells #[.int .i64 0, .int .i64 0, .string ⟨#[]⟩, .string ⟨#[]⟩, .slice none 0 0, .slice none 0 0, .slice none 0 0, .bool false, .slice none 0 0] 56)) (x := x) (x' := (v.heap.size, x.2)) hsz hC hi hF (Slots.of (by rfl)) rfl (wanted_none rfl) (fun q hq => match q, (show q ≠ 5 by rintro rfl; rw [hl1] at hq; cases hq) with | 0, _ => rfl | 1, _ => rfl | 2, _ => rfl | 3, _ => rfl | 4, _ => rfl | 5, h => absurd rfl h | 6, _ => rfl | 7, _ => rfl | 8, _ => rfl | 9, _ => rfl | 10, _ => rfl | _ + 11, _ => rfl) (show ApM W0 base 56 9 cg (k * 2 + 1) (.slice a n c) n xs z9.toList y.cells ((listed.setIfInBounds 5 true).getD 5 false) ((listed.setIfInBounds 5 true).getD 6 false) ((listed.setIfInBounds 5 true).getD 8 false) ((listed.setIfInBounds 5 true).getD 10 false) (v.heap.size, x.2) (v.alloc (.cells #[.int .i64 0, .int .i64 0, .string ⟨#[]⟩, .string ⟨#[]⟩, .slice none 0 0, .slice none 0 0, .slice none 0 0, .bool false, .slice none 0 0] 56)) by rw [getD_setS (by rw [hsz]; decide), getD_setN (show 5 ≠ 6 by decide), getD_setN (show 5 ≠ 8 by decide), getD_setN (show 5 ≠ 10 by decide), l6, l10]; exact m.lay) ?_
      show _ = Result.ok (Next.value (.slice (some ⟨v.heap.size, 0, none⟩) 1 1)) _
      simp [execOp, go_sem]
    · cases ho
      have l5 := hdeps ⟨5, .data⟩ (by simp) rfl
      have l7 : listed.getD 7 false = false := by
        cases hh : listed.getD 7 false
        · rfl
        · have y0 := hC 7 _ rfl hh ⟨6, .data⟩ (by simp) rfl; rw [hl1] at y0; cases y0
      have l8 : listed.getD 8 false = false := by
        cases hh : listed.getD 8 false
        · rfl
        · have y0 := hC 8 _ rfl hh ⟨6, .chain⟩ (by simp) rfl; rw [hl1] at y0; cases y0
      have l10 : listed.getD 10 false = false := by
        cases hh : listed.getD 10 false
        · rfl
        · have y0 := hC 10 _ rfl hh ⟨6, .data⟩ (by simp) rfl; rw [hl1] at y0; cases y0
      have m := hMb
      rw [hl1, l5, l8, l10] at m
      obtain ⟨hlit, hlx⟩ := m.lit rfl rfl
      have e43 : b.tmps[43]? = some (.slice a n c) := hF.up 2 43 rfl (hdeps ⟨2, .data⟩ (by simp) rfl)
      have e46 : b.tmps[46]? = some (.slice (some ⟨x.1, 0, none⟩) 1 1) := hF.up 5 46 rfl (hdeps ⟨5, .data⟩ (by simp) rfl)
      refine wpOp_wpG rfl (wanted_none rfl) ?_
      refine wp_append_fresh (.tmp 43) (.tmp 46) 50 rfl base 56 i0 (.agg #[.int .i64 0, .int .i64 0, .string ⟨#[]⟩, .string ⟨#[]⟩, .slice none 0 0, .slice none 0 0, .slice none 0 0, .bool false, .slice none 0 0]) 9 152 Tryz.underlying50 hi0 hz0' hz1' hz2' rfl (by decide) (.slice a n c) n xs (by simp [Act.eval, e43]) (m.row HOW.out) ⟨x.1, 0, none⟩ 1 1 z9.toList (by simp [Act.eval, e46]) rfl (lit_read hlit) (fun u hu => z9_one u hu) (by simp [maxLen]; omega) (by omega) (by have := m.size; omega) ?_
      intro v2 w2 h1 h2 h3
      obtain ⟨g2, c2, rfl⟩ := own_some h1
      exact ⟨by simp [hsz], hC.put hi, (x.1, g2, c2), (hF.congr (fun q hq => match q, (show q ≠ 6 by rintro rfl; rw [hl1] at hq; cases hq), (show q ≠ 7 by rintro rfl; rw [l7] at hq; cases hq) with | 0, _, _ => rfl | 1, _, _ => rfl | 2, _, _ => rfl | 3, _, _ => rfl | 4, _, _ => rfl | 5, _, _ => rfl | 6, h, _ => absurd rfl h | 7, _, h => absurd rfl h | 8, _, _ => rfl | 9, _, _ => rfl | 10, _, _ => rfl | _ + 11, _, _ => rfl)).put (Slots.of (by rfl)) hsz rfl, (show ApM W0 base 56 9 cg (k * 2 + 1) (.slice a n c) n xs z9.toList y.cells ((listed.setIfInBounds 6 true).getD 5 false) ((listed.setIfInBounds 6 true).getD 6 false) ((listed.setIfInBounds 6 true).getD 8 false) ((listed.setIfInBounds 6 true).getD 10 false) (x.1, g2, c2) w2 by rw [getD_setS (by rw [hsz]; decide), getD_setN (show 6 ≠ 5 by decide), getD_setN (show 6 ≠ 8 by decide), getD_setN (show 6 ≠ 10 by decide), l5, l8, l10]; exact m.app h1 h2 (h3 g2 rfl))⟩
    · cases ho
      have e47 : b.tmps[47]? = some (.slice (some ⟨x.2.1, 0, none⟩) (n + 1) x.2.2) := hF.up 6 47 rfl (hdeps ⟨6, .data⟩ (by simp) rfl)
      have e45 : b.tmps[45]? = some (.int .i64 n) := hF.up 4 45 rfl (hdeps ⟨4, .data⟩ (by simp) rfl)
      refine QJ.quiet (x := x) hsz hC hi hF (Slots.of (by rfl)) rfl (wanted_none rfl) (show ApM W0 base 56 9 cg (k * 2 + 1) (.slice a n c) n xs z9.toList y.cells ((listed.setIfInBounds 7 true).getD 5 false) ((listed.setIfInBounds 7 true).getD 6 false) ((listed.setIfInBounds 7 true).getD 8 false) ((listed.setIfInBounds 7 true).getD 10 false) x v by rw [getD_setN (show 7 ≠ 5 by decide), getD_setN (show 7 ≠ 6 by decide), getD_setN (show 7 ≠ 8 by decide), getD_setN (show 7 ≠ 10 by decide)]; exact hMb) ?_
      show _ = Result.ok (Next.value (.pointer (some ⟨x.2.1, n * 9, none⟩))) v
      simp [execOp, go_sem, e47, e45]
      intro hh; omega
    · cases ho
      have l6 := hdeps ⟨6, .chain⟩ (by simp) rfl
      have m := hMb
      rw [hl1, l6] at m
      have hown := m.own rfl
      simp only [Bool.false_eq_true, if_false] at hown
      obtain ⟨cur, hcur⟩ := own_blk hown
      obtain ⟨hnew, hfit⟩ := last_stored hown hcur hxl #[.int .i64 y.k, .int .i64 y.at_, .string y.s, .string y.name, .slice y.pa y.pl y.pc, .slice y.ba y.bl y.bc, .slice y.ea y.el y.ec, .bool y.h, .slice y.ca y.cl y.cc] rfl
      have e48 : b.tmps[48]? = some (.pointer (some ⟨x.2.1, n * 9, none⟩)) := hF.up 7 48 rfl (hdeps ⟨7, .data⟩ (by simp) rfl)
      have e44 : b.tmps[44]? = some (.agg #[.int .i64 y.k, .int .i64 y.at_, .string y.s, .string y.name, .slice y.pa y.pl y.pc, .slice y.ba y.bl y.bc, .slice y.ea y.el y.ec, .bool y.h, .slice y.ca y.cl y.cc]) := hF.up 3 44 rfl (hdeps ⟨3, .data⟩ (by simp) rfl)
      refine QJ.store (v' := v.setRow x.2.1 (cur.toList.take (n * 9) ++ (#[.int .i64 y.k, .int .i64 y.at_, .string y.s, .string y.name, .slice y.pa y.pl y.pc, .slice y.ba y.bl y.bc, .slice y.ea y.el y.ec, .bool y.h, .slice y.ca y.cl y.cc] : Array Value).toList ++ cur.toList.drop (n * 9 + (#[.int .i64 y.k, .int .i64 y.at_, .string y.s, .string y.name, .slice y.pa y.pl y.pc, .slice y.ba y.bl y.bc, .slice y.ea y.el y.ec, .bool y.h, .slice y.ca y.cl y.cc] : Array Value).size)).toArray) (x := x) hsz hC hi hF (Slots.of (by rfl)) rfl rfl (wanted_none rfl) (show ApM W0 base 56 9 cg (k * 2 + 1) (.slice a n c) n xs z9.toList y.cells ((listed.setIfInBounds 8 true).getD 5 false) ((listed.setIfInBounds 8 true).getD 6 false) ((listed.setIfInBounds 8 true).getD 8 false) ((listed.setIfInBounds 8 true).getD 10 false) x (v.setRow x.2.1 (cur.toList.take (n * 9) ++ (#[.int .i64 y.k, .int .i64 y.at_, .string y.s, .string y.name, .slice y.pa y.pl y.pc, .slice y.ba y.bl y.bc, .slice y.ea y.el y.ec, .bool y.h, .slice y.ca y.cl y.cc] : Array Value).toList ++ cur.toList.drop (n * 9 + (#[.int .i64 y.k, .int .i64 y.at_, .string y.s, .string y.name, .slice y.pa y.pl y.pc, .slice y.ba y.bl y.bc, .slice y.ea y.el y.ec, .bool y.h, .slice y.ca y.cl y.cc] : Array Value).size)).toArray) by rw [getD_setS (by rw [hsz]; decide), getD_setN (show 8 ≠ 5 by decide), getD_setN (show 8 ≠ 6 by decide), getD_setN (show 8 ≠ 10 by decide), l6]; exact m.node hpb0 hne hnew (setRow_only _ _ _)) ?_
      exact exec_store_at (ρ := b.eval) 56 (.tmp 48) (.tmp 44) rfl x.2.1 (n * 9) #[.int .i64 y.k, .int .i64 y.at_, .string y.s, .string y.name, .slice y.pa y.pl y.pc, .slice y.ba y.bl y.bc, .slice y.ea y.el y.ec, .bool y.h, .slice y.ca y.cl y.cc] (by simp [Act.eval, e48]) (by simp [Act.eval, e44]) 56 cur hcur (by kernel_rfl) hfit (by kernel_rfl)
    · cases ho
      have e41 : b.tmps[41]? = some (.pointer (some ⟨cg, k * 2 + 1, none⟩)) := hF.up 0 41 rfl (hdeps ⟨0, .data⟩ (by simp) rfl)
      refine QJ.quiet (x := x) hsz hC hi hF (Slots.of (by rfl)) rfl (wanted_none rfl) (show ApM W0 base 56 9 cg (k * 2 + 1) (.slice a n c) n xs z9.toList y.cells ((listed.setIfInBounds 9 true).getD 5 false) ((listed.setIfInBounds 9 true).getD 6 false) ((listed.setIfInBounds 9 true).getD 8 false) ((listed.setIfInBounds 9 true).getD 10 false) x v by rw [getD_setN (show 9 ≠ 5 by decide), getD_setN (show 9 ≠ 6 by decide), getD_setN (show 9 ≠ 8 by decide), getD_setN (show 9 ≠ 10 by decide)]; exact hMb) ?_
      show _ = Result.ok (Next.value (.pointer (some ⟨cg, k * 2 + 1, none⟩))) v
      simp [execOp, go_sem, e41]
    · cases ho
      have l6 := hdeps ⟨6, .data⟩ (by simp) rfl
      have m := hMb
      rw [hl1, l6] at m
      have hbk := m.chg cg hpb0 (fun e => by cases e) (fun _ e => hne e.symm)
      have n1 : v.cell? ⟨cg, k * 2 + 1, none⟩ = some (.slice a n c) := (World.cell?_of_block (a := ⟨cg, k * 2 + 1, none⟩) hbk).trans hp0
      have n2 : v.frozen? ⟨cg, k * 2 + 1, none⟩ = false := by rw [← hpf0]; simp [World.frozen?, hbk]
      have e49 : b.tmps[49]? = some (.pointer (some ⟨cg, k * 2 + 1, none⟩)) := hF.up 9 49 rfl (hdeps ⟨9, .data⟩ (by simp) rfl)
      have e47 : b.tmps[47]? = some (.slice (some ⟨x.2.1, 0, none⟩) (n + 1) x.2.2) := hF.up 6 47 rfl (hdeps ⟨6, .data⟩ (by simp) rfl)
      refine QJ.store (v' := v.setCell ⟨cg, k * 2 + 1, none⟩ (.slice (some ⟨x.2.1, 0, none⟩) (n + 1) x.2.2)) (x := x) hsz hC hi hF (Slots.of (by rfl)) rfl rfl (wanted_none rfl) (show ApM W0 base 56 9 cg (k * 2 + 1) (.slice a n c) n xs z9.toList y.cells ((listed.setIfInBounds 10 true).getD 5 false) ((listed.setIfInBounds 10 true).getD 6 false) ((listed.setIfInBounds 10 true).getD 8 false) ((listed.setIfInBounds 10 true).getD 10 false) x (v.setCell ⟨cg, k * 2 + 1, none⟩ (.slice (some ⟨x.2.1, 0, none⟩) (n + 1) x.2.2)) by rw [getD_setS (by rw [hsz]; decide), getD_setN (show 10 ≠ 5 by decide), getD_setN (show 10 ≠ 6 by decide), getD_setN (show 10 ≠ 8 by decide), l6]; exact m.put hpb0 hne) ?_
      simp [execOp, go_sem, e49, e47, n1, n2]
  intro listed b W5 hJ hr'
  obtain ⟨hsz, hC, xx, hF, hM⟩ := hJ
  have hall := all_upB2 (by rfl) hsz hr'
  have hMb : ApM W0 base 56 9 cg (k * 2 + 1) (.slice a n c) n xs z9.toList y.cells true true true true xx W5 := by
    have h : ApM W0 base 56 9 cg (k * 2 + 1) (.slice a n c) n xs z9.toList y.cells (listed.getD 5 false) (listed.getD 6 false) (listed.getD 8 false) (listed.getD 10 false) xx W5 := hM
    rw [hall 5 (by decide), hall 6 (by decide), hall 8 (by decide), hall 10 (by decide)] at h
    exact h
  have hb : b = putAll _ _ _ 11 := hF.done (Slots.of (by rfl)) hall
  subst hb
  simp only [putAll]
  have HFIN := Lib.hid (hMb.done HB0.out hpb)
  clear hMb hM hF hC hsz hr' hall
  simp [dstOf, Act.put]
  go_wp2
  go_end0
  exact ⟨rfl, _, _, HFIN.out⟩
end Tr
end Go.Proofs.YtlfbcaenlifmkaaGreatDoor
