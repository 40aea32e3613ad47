/- node: a key told as a node, its lists its own. Written by gen_knode.py. -/
import Derived.Test.YtdophmlnmbcjlaaT43
import Derived.StillTail
import Derived.Laws.Rows
namespace Go.Proofs.Ytdophmlnmbcjlaa
open Go.RowKit
namespace Sp
open Sc
set_option maxRecDepth 100000
theorem infoNd : (Try.prog.info? 59).map (fun i => (i.zero, i.size, i.bytes)) = some (some (.agg nodZ), 4, 72) := by kernel_rfl
/-- What node answers. -/
def NodeP (k : Kz) (w : World) (e : Ending) (w' : World) : Prop := ∃ an cn ak ck, e = .returned (.agg #[.int .i64 k.kind, .string ⟨k.name.toArray⟩, .slice an k.names.length cn, .slice ak k.kids.length ck]) ∧
  RowV w' (fun g => w.heap.size ≤ g ∧ g < w'.heap.size) an 1 (k.names.map fun n => [str n]) ∧ RowV w' (fun g => w.heap.size ≤ g ∧ g < w'.heap.size) ak 1 (k.kids.map fun (j : Nat) => [Value.int .i64 (j : Nat)]) ∧ Below w.heap.size w w'
set_option maxHeartbeats 8000000 in
theorem knode_any (k : Kz) (w : World) (kb o : Nat) (hkb0 : kb < w.heap.size) (hK : KeyAt w kb o k) (hwf : WfK k) :
    Calls Try.prog 37 #[.pointer (some ⟨kb, o, none⟩)] w (NodeP k w) := by
  obtain ⟨W0, hW0⟩ : ∃ W0, W0 = w.alloc (.cells nodZ 59) := ⟨_, rfl⟩
  have hz0 : W0.heap.size = w.heap.size + 1 := by rw [hW0]; simp
  have hb0 : Below w.heap.size w W0 := by rw [hW0]; exact (Below.refl _ _).alloc (Nat.le_refl _) _
  have hn0 : W0.heap[w.heap.size]? = some (.cells nodZ 59 (0, 0)) := by rw [hW0]; exact heap_alloc_new w _
  have hk0 := hK.keep (hb0.block kb hkb0)
  have hk8 : k.kids.length ≤ 8 := hwf.few
  have hk8z : (k.kids.length : Int) ≤ 8 := by omega
  have hkb : kb < W0.heap.size := by omega
  obtain ⟨ii, hii, ji, ki, li⟩ := info_parts infoI
  obtain ⟨id, hid, jd, kd, ld⟩ := info_parts infoNd
  have HIi := Lib.hid hii; have HJi := Lib.hid ji; have HKi := Lib.hid ki; have HLi := Lib.hid li
  have HW0 := Lib.hid hW0; have HB0 := Lib.hid hb0; have HN0 := Lib.hid hn0; have HK := Lib.hid hk0; have HWF := Lib.hid hwf
  clear hW0 hb0 hn0 hk0 hwf hK hii ji ki li hid jd kd ld
  go_enter Try.func37, Try.ntmps37
  go_upto_region 1 with fail
  rw [show w.alloc (.cells #[.int .i64 0, .string ⟨#[]⟩, .slice none 0 0, .slice none 0 0] 59) = W0 from HW0.out.symm]
  refine wp_region_by (QJ (fun (x : Nat × Value) i => match i with | 0 => .pointer (some ⟨kb, o, none⟩) | 1 => .pointer (some ⟨kb, o, none⟩) | 2 => .pointer (some ⟨kb, o, none⟩) | 3 => .int .i64 k.kind | 4 => .pointer (some ⟨kb, o, none⟩) | 5 => .pointer (some ⟨kb, o, none⟩) | 6 => .pointer (some ⟨kb, o + 1, none⟩) | 7 => .string ⟨k.name.toArray⟩ | 8 => .pointer (some ⟨kb, o, none⟩) | 9 => .pointer (some ⟨kb, o, none⟩) | 10 => .pointer (some ⟨kb, o + 11, none⟩) | 11 => .pointer (some ⟨kb, o, none⟩) | 12 => .pointer (some ⟨kb, o, none⟩) | 13 => .pointer (some ⟨kb, o + 2, none⟩) | 14 => .int .i64 (k.kids.length : Nat) | 15 => .slice (some ⟨kb, o + 11, none⟩) k.kids.length 8 | 16 => x.2 | 17 => .agg (nodC k x.2) | 18 => .pointer (some ⟨x.1, 0, none⟩) | 19 => undef | _ => undef) (fun x listed v => NdM W0 k (listed.getD 16 false) (listed.getD 18 false) (listed.getD 19 false) x v)) (by kernel_rfl) ?_ ?_ ?_
  · exact ⟨by simp, Closed.start _, (0, undef), Fr.start _ _ _, ⟨Below.drew (Below.refl _ _), (fun h => by simp at h), (fun h => by simp at h)⟩⟩
  · intro listed b v q hJ hi
    obtain ⟨hsz, hC, x, hF, hM⟩ := hJ
    have hMb : NdM W0 k (listed.getD 16 false) (listed.getD 18 false) (listed.getD 19 false) x v := hM
    obtain ⟨hl1, hiN⟩ := not_up hsz hi
    obtain ⟨_, o, ho, hdeps⟩ := mem_ready.1 hi
    have hiN : q < 20 := hiN
    obtain rfl | rfl | rfl | rfl | rfl | rfl | rfl | rfl | rfl | rfl | rfl | rfl | rfl | rfl | rfl | rfl | rfl | rfl | rfl | rfl : q = 0 ∨ q = 1 ∨ q = 2 ∨ q = 3 ∨ q = 4 ∨ q = 5 ∨ q = 6 ∨ q = 7 ∨ q = 8 ∨ q = 9 ∨ q = 10 ∨ q = 11 ∨ q = 12 ∨ q = 13 ∨ q = 14 ∨ q = 15 ∨ q = 16 ∨ q = 17 ∨ q = 18 ∨ q = 19 := by omega
    · cases ho
      have e0 := hF.old_is 0 (by rfl) rfl
      refine QJ.quiet (x := x) hsz hC hi hF (Slots.of (by rfl)) rfl (wanted_none rfl) (show NdM W0 k ((listed.setIfInBounds 0 true).getD 16 false) ((listed.setIfInBounds 0 true).getD 18 false) ((listed.setIfInBounds 0 true).getD 19 false) x v by rw [getD_setN (show 0 ≠ 16 by decide), getD_setN (show 0 ≠ 18 by decide), getD_setN (show 0 ≠ 19 by decide)]; exact hM) ?_
      show _ = Result.ok (Next.value (.pointer (some ⟨kb, o, none⟩))) v
      simp [execOp, go_sem, e0]
    · cases ho
      have e4 : b.tmps[4]? = some (.pointer (some ⟨kb, o, none⟩)) := hF.up 0 4 rfl (hdeps ⟨0, .data⟩ (by simp) rfl)
      refine QJ.quiet (x := x) hsz hC hi hF (Slots.of (by rfl)) rfl (wanted_none rfl) (show NdM W0 k ((listed.setIfInBounds 1 true).getD 16 false) ((listed.setIfInBounds 1 true).getD 18 false) ((listed.setIfInBounds 1 true).getD 19 false) x v by rw [getD_setN (show 1 ≠ 16 by decide), getD_setN (show 1 ≠ 18 by decide), getD_setN (show 1 ≠ 19 by decide)]; exact hM) ?_
      show _ = Result.ok (Next.value (.pointer (some ⟨kb, o, none⟩))) v
      simp [execOp, go_sem, e4]
    · cases ho
      have e5 : b.tmps[5]? = some (.pointer (some ⟨kb, o, none⟩)) := hF.up 1 5 rfl (hdeps ⟨1, .data⟩ (by simp) rfl)
      refine QJ.quiet (x := x) hsz hC hi hF (Slots.of (by rfl)) rfl (wanted_none rfl) (show NdM W0 k ((listed.setIfInBounds 2 true).getD 16 false) ((listed.setIfInBounds 2 true).getD 18 false) ((listed.setIfInBounds 2 true).getD 19 false) x v by rw [getD_setN (show 2 ≠ 16 by decide), getD_setN (show 2 ≠ 18 by decide), getD_setN (show 2 ≠ 19 by decide)]; exact hM) ?_
      show _ = Result.ok (Next.value (.pointer (some ⟨kb, o, none⟩))) v
      simp [execOp, go_sem, e5]
    · cases ho
      obtain ⟨c0, c1, c2⟩ := (HK.out.keep (hMb.below.block kb hkb)).three
      have e6 : b.tmps[6]? = some (.pointer (some ⟨kb, o, none⟩)) := hF.up 2 6 rfl (hdeps ⟨2, .data⟩ (by simp) rfl)
      refine QJ.quiet (x := x) hsz hC hi hF (Slots.of (by rfl)) rfl (wanted_none rfl) (show NdM W0 k ((listed.setIfInBounds 3 true).getD 16 false) ((listed.setIfInBounds 3 true).getD 18 false) ((listed.setIfInBounds 3 true).getD 19 false) x v by rw [getD_setN (show 3 ≠ 16 by decide), getD_setN (show 3 ≠ 18 by decide), getD_setN (show 3 ≠ 19 by decide)]; exact hM) ?_
      show _ = Result.ok (Next.value (.int .i64 k.kind)) v
      simp [execOp, go_sem, e6, c0]
    · cases ho
      have e0 := hF.old_is 0 (by rfl) rfl
      refine QJ.quiet (x := x) hsz hC hi hF (Slots.of (by rfl)) rfl (wanted_none rfl) (show NdM W0 k ((listed.setIfInBounds 4 true).getD 16 false) ((listed.setIfInBounds 4 true).getD 18 false) ((listed.setIfInBounds 4 true).getD 19 false) x v by rw [getD_setN (show 4 ≠ 16 by decide), getD_setN (show 4 ≠ 18 by decide), getD_setN (show 4 ≠ 19 by decide)]; exact hM) ?_
      show _ = Result.ok (Next.value (.pointer (some ⟨kb, o, none⟩))) v
      simp [execOp, go_sem, e0]
    · cases ho
      have e8 : b.tmps[8]? = some (.pointer (some ⟨kb, o, none⟩)) := hF.up 4 8 rfl (hdeps ⟨4, .data⟩ (by simp) rfl)
      refine QJ.quiet (x := x) hsz hC hi hF (Slots.of (by rfl)) rfl (wanted_none rfl) (show NdM W0 k ((listed.setIfInBounds 5 true).getD 16 false) ((listed.setIfInBounds 5 true).getD 18 false) ((listed.setIfInBounds 5 true).getD 19 false) x v by rw [getD_setN (show 5 ≠ 16 by decide), getD_setN (show 5 ≠ 18 by decide), getD_setN (show 5 ≠ 19 by decide)]; exact hM) ?_
      show _ = Result.ok (Next.value (.pointer (some ⟨kb, o, none⟩))) v
      simp [execOp, go_sem, e8]
    · cases ho
      have e9 : b.tmps[9]? = some (.pointer (some ⟨kb, o, none⟩)) := hF.up 5 9 rfl (hdeps ⟨5, .data⟩ (by simp) rfl)
      refine QJ.quiet (x := x) hsz hC hi hF (Slots.of (by rfl)) rfl (wanted_none rfl) (show NdM W0 k ((listed.setIfInBounds 6 true).getD 16 false) ((listed.setIfInBounds 6 true).getD 18 false) ((listed.setIfInBounds 6 true).getD 19 false) x v by rw [getD_setN (show 6 ≠ 16 by decide), getD_setN (show 6 ≠ 18 by decide), getD_setN (show 6 ≠ 19 by decide)]; exact hM) ?_
      show _ = Result.ok (Next.value (.pointer (some ⟨kb, o + 1, none⟩))) v
      simp [execOp, go_sem, e9]
    · cases ho
      obtain ⟨c0, c1, c2⟩ := (HK.out.keep (hMb.below.block kb hkb)).three
      have e10 : b.tmps[10]? = some (.pointer (some ⟨kb, o + 1, none⟩)) := hF.up 6 10 rfl (hdeps ⟨6, .data⟩ (by simp) rfl)
      refine QJ.quiet (x := x) hsz hC hi hF (Slots.of (by rfl)) rfl (wanted_none rfl) (show NdM W0 k ((listed.setIfInBounds 7 true).getD 16 false) ((listed.setIfInBounds 7 true).getD 18 false) ((listed.setIfInBounds 7 true).getD 19 false) x v by rw [getD_setN (show 7 ≠ 16 by decide), getD_setN (show 7 ≠ 18 by decide), getD_setN (show 7 ≠ 19 by decide)]; exact hM) ?_
      show _ = Result.ok (Next.value (.string ⟨k.name.toArray⟩)) v
      simp [execOp, go_sem, e10, c1]
    · cases ho
      have e0 := hF.old_is 0 (by rfl) rfl
      refine QJ.quiet (x := x) hsz hC hi hF (Slots.of (by rfl)) rfl (wanted_none rfl) (show NdM W0 k ((listed.setIfInBounds 8 true).getD 16 false) ((listed.setIfInBounds 8 true).getD 18 false) ((listed.setIfInBounds 8 true).getD 19 false) x v by rw [getD_setN (show 8 ≠ 16 by decide), getD_setN (show 8 ≠ 18 by decide), getD_setN (show 8 ≠ 19 by decide)]; exact hM) ?_
      show _ = Result.ok (Next.value (.pointer (some ⟨kb, o, none⟩))) v
      simp [execOp, go_sem, e0]
    · cases ho
      have e12 : b.tmps[12]? = some (.pointer (some ⟨kb, o, none⟩)) := hF.up 8 12 rfl (hdeps ⟨8, .data⟩ (by simp) rfl)
      refine QJ.quiet (x := x) hsz hC hi hF (Slots.of (by rfl)) rfl (wanted_none rfl) (show NdM W0 k ((listed.setIfInBounds 9 true).getD 16 false) ((listed.setIfInBounds 9 true).getD 18 false) ((listed.setIfInBounds 9 true).getD 19 false) x v by rw [getD_setN (show 9 ≠ 16 by decide), getD_setN (show 9 ≠ 18 by decide), getD_setN (show 9 ≠ 19 by decide)]; exact hM) ?_
      show _ = Result.ok (Next.value (.pointer (some ⟨kb, o, none⟩))) v
      simp [execOp, go_sem, e12]
    · cases ho
      have e13 : b.tmps[13]? = some (.pointer (some ⟨kb, o, none⟩)) := hF.up 9 13 rfl (hdeps ⟨9, .data⟩ (by simp) rfl)
      refine QJ.quiet (x := x) hsz hC hi hF (Slots.of (by rfl)) rfl (wanted_none rfl) (show NdM W0 k ((listed.setIfInBounds 10 true).getD 16 false) ((listed.setIfInBounds 10 true).getD 18 false) ((listed.setIfInBounds 10 true).getD 19 false) x v by rw [getD_setN (show 10 ≠ 16 by decide), getD_setN (show 10 ≠ 18 by decide), getD_setN (show 10 ≠ 19 by decide)]; exact hM) ?_
      show _ = Result.ok (Next.value (.pointer (some ⟨kb, o + 11, none⟩))) v
      simp [execOp, go_sem, e13]
    · cases ho
      have e0 := hF.old_is 0 (by rfl) rfl
      refine QJ.quiet (x := x) hsz hC hi hF (Slots.of (by rfl)) rfl (wanted_none rfl) (show NdM W0 k ((listed.setIfInBounds 11 true).getD 16 false) ((listed.setIfInBounds 11 true).getD 18 false) ((listed.setIfInBounds 11 true).getD 19 false) x v by rw [getD_setN (show 11 ≠ 16 by decide), getD_setN (show 11 ≠ 18 by decide), getD_setN (show 11 ≠ 19 by decide)]; exact hM) ?_
      show _ = Result.ok (Next.value (.pointer (some ⟨kb, o, none⟩))) v
      simp [execOp, go_sem, e0]
    · cases ho
      have e15 : b.tmps[15]? = some (.pointer (some ⟨kb, o, none⟩)) := hF.up 11 15 rfl (hdeps ⟨11, .data⟩ (by simp) rfl)
      refine QJ.quiet (x := x) hsz hC hi hF (Slots.of (by rfl)) rfl (wanted_none rfl) (show NdM W0 k ((listed.setIfInBounds 12 true).getD 16 false) ((listed.setIfInBounds 12 true).getD 18 false) ((listed.setIfInBounds 12 true).getD 19 false) x v by rw [getD_setN (show 12 ≠ 16 by decide), getD_setN (show 12 ≠ 18 by decide), getD_setN (show 12 ≠ 19 by decide)]; exact hM) ?_
      show _ = Result.ok (Next.value (.pointer (some ⟨kb, o, none⟩))) v
      simp [execOp, go_sem, e15]
    · cases ho
      have e16 : b.tmps[16]? = some (.pointer (some ⟨kb, o, none⟩)) := hF.up 12 16 rfl (hdeps ⟨12, .data⟩ (by simp) rfl)
      refine QJ.quiet (x := x) hsz hC hi hF (Slots.of (by rfl)) rfl (wanted_none rfl) (show NdM W0 k ((listed.setIfInBounds 13 true).getD 16 false) ((listed.setIfInBounds 13 true).getD 18 false) ((listed.setIfInBounds 13 true).getD 19 false) x v by rw [getD_setN (show 13 ≠ 16 by decide), getD_setN (show 13 ≠ 18 by decide), getD_setN (show 13 ≠ 19 by decide)]; exact hM) ?_
      show _ = Result.ok (Next.value (.pointer (some ⟨kb, o + 2, none⟩))) v
      simp [execOp, go_sem, e16]
    · cases ho
      obtain ⟨c0, c1, c2⟩ := (HK.out.keep (hMb.below.block kb hkb)).three
      have e17 : b.tmps[17]? = some (.pointer (some ⟨kb, o + 2, none⟩)) := hF.up 13 17 rfl (hdeps ⟨13, .data⟩ (by simp) rfl)
      refine QJ.quiet (x := x) hsz hC hi hF (Slots.of (by rfl)) rfl (wanted_none rfl) (show NdM W0 k ((listed.setIfInBounds 14 true).getD 16 false) ((listed.setIfInBounds 14 true).getD 18 false) ((listed.setIfInBounds 14 true).getD 19 false) x v by rw [getD_setN (show 14 ≠ 16 by decide), getD_setN (show 14 ≠ 18 by decide), getD_setN (show 14 ≠ 19 by decide)]; exact hM) ?_
      show _ = Result.ok (Next.value (.int .i64 (k.kids.length : Nat))) v
      simp [execOp, go_sem, e17, c2]
    · cases ho
      have e14 : b.tmps[14]? = some (.pointer (some ⟨kb, o + 11, none⟩)) := hF.up 10 14 rfl (hdeps ⟨10, .data⟩ (by simp) rfl)
      have e18 : b.tmps[18]? = some (.int .i64 (k.kids.length : Nat)) := hF.up 14 18 rfl (hdeps ⟨14, .data⟩ (by simp) rfl)
      refine QJ.quiet (x := x) hsz hC hi hF (Slots.of (by rfl)) rfl (wanted_none rfl) (show NdM W0 k ((listed.setIfInBounds 15 true).getD 16 false) ((listed.setIfInBounds 15 true).getD 18 false) ((listed.setIfInBounds 15 true).getD 19 false) x v by rw [getD_setN (show 15 ≠ 16 by decide), getD_setN (show 15 ≠ 18 by decide), getD_setN (show 15 ≠ 19 by decide)]; exact hM) ?_
      show _ = Result.ok (Next.value (.slice (some ⟨kb, o + 11, none⟩) k.kids.length 8)) v
      simp [execOp, go_sem, e14, e18, hk8z]
    · cases ho
      have l19 : listed.getD 19 false = false := by
        cases hh : listed.getD 19 false
        · rfl
        · have y0 := hC 19 _ rfl hh ⟨16, .chain⟩ (by simp) rfl; rw [hl1] at y0; cases y0
      have l17 : listed.getD 17 false = false := by
        cases hh : listed.getD 17 false
        · rfl
        · have y0 := hC 17 _ rfl hh ⟨16, .data⟩ (by simp) rfl; rw [hl1] at y0; cases y0
      have hM0 : NdM W0 k false (listed.getD 18 false) false x v := by have h := hMb; rw [hl1, l19] at h; exact h
      have e19 : b.tmps[19]? = some (.slice (some ⟨kb, o + 11, none⟩) k.kids.length 8) := hF.up 15 19 rfl (hdeps ⟨15, .data⟩ (by simp) rfl)
      obtain ⟨s, w', hr, hown, hg, -⟩ := Sh.run_append_fresh (P := Try.prog) v v.heap.size 39 39 3 ii (.int .i64 0) 1 8 Try.underlying39 HIi.out HJi.out HKi.out HLi.out rfl (by decide) (.slice none 0 0) 0 [] (World.ownsRow_nil _ _ _ _) ⟨kb, o + 11, none⟩ k.kids.length 8 (k.kids.map fun (j : Nat) => Value.int .i64 (j : Nat)) (by simp) ((HK.out.keep (hMb.below.block kb hkb)).kids HWF.out) (fun u hu => by obtain ⟨y, _, rfl⟩ := List.mem_map.1 hu; rfl) (by unfold maxLen; omega) (by omega) (Nat.le_refl _)
      rw [Nat.zero_add, List.nil_append] at hown
      refine QJ.make (v' := w') (x := x) (x' := (x.1, s)) hsz hC hi hF (Slots.of (by rfl)) rfl (wanted_none rfl) (fun q hq => match q, (show q ≠ 16 by rintro rfl; rw [hl1] at hq; cases hq), (show q ≠ 17 by rintro rfl; rw [l17] at hq; cases hq) with | 0, h16, h17 => rfl | 1, h16, h17 => rfl | 2, h16, h17 => rfl | 3, h16, h17 => rfl | 4, h16, h17 => rfl | 5, h16, h17 => rfl | 6, h16, h17 => rfl | 7, h16, h17 => rfl | 8, h16, h17 => rfl | 9, h16, h17 => rfl | 10, h16, h17 => rfl | 11, h16, h17 => rfl | 12, h16, h17 => rfl | 13, h16, h17 => rfl | 14, h16, h17 => rfl | 15, h16, h17 => rfl | 16, h16, h17 => absurd rfl h16 | 17, h16, h17 => absurd rfl h17 | 18, h16, h17 => rfl | 19, h16, h17 => rfl | _ + 20, _, _ => rfl) (show NdM W0 k ((listed.setIfInBounds 16 true).getD 16 false) ((listed.setIfInBounds 16 true).getD 18 false) ((listed.setIfInBounds 16 true).getD 19 false) (x.1, s) w' by rw [getD_setS (by rw [hsz]; decide), getD_setN (show 16 ≠ 18 by decide), getD_setN (show 16 ≠ 19 by decide), l19]; exact hM0.add hown hg) ?_
      have hx : b.eval (.tmp 19) = .slice (some ⟨kb, o + 11, none⟩) k.kids.length 8 := hF.eval (i := 15) rfl (hdeps ⟨15, .data⟩ (by simp) rfl)
      have hs0 : b.eval (.const (.slice none 0 0)) = .slice none 0 0 := rfl
      have hgo : ∀ p af g, (execOp b.eval { dst := some 20, op := .call { callee := .builtin .append, args := #[.const (.slice none 0 0), .tmp 19], argTypes := #[39, 39] }, type := 39, pos := p, after := af, guard := g }).run Try.prog v = .ok (.value s) w' := fun p af g => by
        simp only [execOp, resolve, invoke, builtin, Sem.run_bind, Sem.run_pure, Result.andThen_ok, List.map_toArray, List.map_cons, List.map_nil, hs0, hx, hr]
      exact hgo _ _ _
    · cases ho
      obtain ⟨ax, cx, ex2, -⟩ := hMb.app (hdeps ⟨16, .data⟩ (by simp) rfl)
      have e7 : b.tmps[7]? = some (.int .i64 k.kind) := hF.up 3 7 rfl (hdeps ⟨3, .data⟩ (by simp) rfl)
      have e11 : b.tmps[11]? = some (.string ⟨k.name.toArray⟩) := hF.up 7 11 rfl (hdeps ⟨7, .data⟩ (by simp) rfl)
      have e20 : b.tmps[20]? = some (x.2) := hF.up 16 20 rfl (hdeps ⟨16, .data⟩ (by simp) rfl)
      refine QJ.quiet (x := x) hsz hC hi hF (Slots.of (by rfl)) rfl (wanted_none rfl) (show NdM W0 k ((listed.setIfInBounds 17 true).getD 16 false) ((listed.setIfInBounds 17 true).getD 18 false) ((listed.setIfInBounds 17 true).getD 19 false) x v by rw [getD_setN (show 17 ≠ 16 by decide), getD_setN (show 17 ≠ 18 by decide), getD_setN (show 17 ≠ 19 by decide)]; exact hM) ?_
      show _ = Result.ok (Next.value (.agg (nodC k x.2))) v
      simp [execOp, go_sem, e7, e11, e20, nodC, ex2]
    · cases ho
      have l19 : listed.getD 19 false = false := by
        cases hh : listed.getD 19 false
        · rfl
        · have y0 := hC 19 _ rfl hh ⟨18, .data⟩ (by simp) rfl; rw [hl1] at y0; cases y0
      have hM0 : NdM W0 k (listed.getD 16 false) false false x v := by have h := hMb; rw [hl1, l19] at h; exact h
      refine QJ.make (v' := v.alloc (.cells nodZ 59)) (x := x) (x' := (v.heap.size, x.2)) hsz hC hi hF (Slots.of (by rfl)) rfl (wanted_none rfl) (fun q hq => match q, (show q ≠ 18 by rintro rfl; rw [hl1] at hq; cases hq) with | 0, h18 => rfl | 1, h18 => rfl | 2, h18 => rfl | 3, h18 => rfl | 4, h18 => rfl | 5, h18 => rfl | 6, h18 => rfl | 7, h18 => rfl | 8, h18 => rfl | 9, h18 => rfl | 10, h18 => rfl | 11, h18 => rfl | 12, h18 => rfl | 13, h18 => rfl | 14, h18 => rfl | 15, h18 => rfl | 16, h18 => rfl | 17, h18 => rfl | 18, h18 => absurd rfl h18 | 19, h18 => rfl | _ + 20, _ => rfl) (show NdM W0 k ((listed.setIfInBounds 18 true).getD 16 false) ((listed.setIfInBounds 18 true).getD 18 false) ((listed.setIfInBounds 18 true).getD 19 false) (v.heap.size, x.2) (v.alloc (.cells nodZ 59)) by rw [getD_setS (by rw [hsz]; decide), getD_setN (show 18 ≠ 16 by decide), getD_setN (show 18 ≠ 19 by decide), l19]; exact hM0.make) ?_
      simp [execOp, go_sem, nodZ]
    · cases ho
      have l16 := hdeps ⟨16, .phase⟩ (by simp) rfl
      have l18 := hdeps ⟨18, .phase⟩ (by simp) rfl
      have hM0 : NdM W0 k true true false x v := by have h := hMb; rw [hl1, l16, l18] at h; exact h
      have e3 : b.tmps[3]? = some (.pointer (some ⟨x.1, 0, none⟩)) := hF.up 18 3 rfl (hdeps ⟨18, .data⟩ (by simp) rfl)
      have e21 : b.tmps[21]? = some (.agg (nodC k x.2)) := hF.up 17 21 rfl (hdeps ⟨17, .data⟩ (by simp) rfl)
      obtain ⟨m1, m2, m3⟩ := hM0.box rfl
      rw [if_neg (by decide)] at m3
      obtain ⟨⟨z0, z1, z2, z3⟩, ⟨g0, g1, g2, g3⟩⟩ := four_blk m3
      obtain ⟨ax, cx, ex2, -⟩ := hM0.app rfl
      refine QJ.store (x := x) hsz hC hi hF (Slots.of (by rfl)) rfl rfl (wanted_none rfl) (show NdM W0 k ((listed.setIfInBounds 19 true).getD 16 false) ((listed.setIfInBounds 19 true).getD 18 false) ((listed.setIfInBounds 19 true).getD 19 false) x ((((v.setCell ⟨x.1, 0, none⟩ (.int .i64 k.kind)).setCell ⟨x.1, 1, none⟩ (.string ⟨k.name.toArray⟩)).setCell ⟨x.1, 2, none⟩ (.slice none 0 0)).setCell ⟨x.1, 3, none⟩ x.2) by rw [getD_setS (by rw [hsz]; decide), getD_setN (show 19 ≠ 16 by decide), getD_setN (show 19 ≠ 18 by decide), l16, l18]; exact hM0.put) ?_
      simp [execOp, go_sem, e3, e21, nodC, ex2, z0, z1, z2, z3, g0, g1, g2, g3]
  · intro listed b W1 hJ hr
    obtain ⟨hsz, hC, x, hF, hM⟩ := hJ
    have hall := all_upB (by rfl) hsz hr
    have hMb : NdM W0 k true true true x W1 := by
      have h : NdM W0 k (listed.getD 16 false) (listed.getD 18 false) (listed.getD 19 false) x W1 := hM
      rw [hall 16 (by decide), hall 18 (by decide), hall 19 (by decide)] at h
      exact h
    have hb : b = putAll _ _ _ 20 := hF.done (Slots.of (by rfl)) hall
    subst hb
    simp only [putAll]
    simp [dstOf, Act.put]
    obtain ⟨xb, xs⟩ := x
    obtain ⟨m1, m2, m3⟩ := hMb.box rfl
    obtain ⟨a, cc, e2, hrow⟩ := hMb.app rfl
    dsimp only at m1 m2 m3 e2 hrow
    subst e2
    rw [if_pos rfl] at m3
    have hk1 := HK.out.keep (hMb.below.block kb hkb)
    have hn1 := (hMb.below.block w.heap.size (by omega)).trans HN0.out
    have hb1 := HB0.out.trans (hMb.below.mono (by omega))
    have hw1 := hMb.below.size
    have HM3 := Lib.hid m3; have HROW := Lib.hid hrow; have HK1 := Lib.hid hk1; have HN1 := Lib.hid hn1; have HB1 := Lib.hid hb1
    obtain ⟨c0, c1, c2⟩ := hk1.three
    clear hM hF hC hall hr hsz hMb m3 hrow hk1 hn1 hb1 HK
    obtain ⟨⟨z0, z1, z2, z3⟩, ⟨g0, g1, g2, g3⟩⟩ := four_blk HM3.out
    obtain ⟨⟨y0, y1, y2, y3⟩, ⟨f0, f1, f2, f3⟩⟩ := four_blk HN1.out
    by_cases hkd : k.kind = 7 ∨ k.kind = 8
    · have hnl : k.names.length = k.kids.length := by have := HWF.out.form; rw [if_pos hkd] at this; exact this
      have HNL := Lib.hid hnl
      obtain ⟨is, his, js, ks, ls⟩ := info_parts infoS
      have HIs := Lib.hid his; have HJs := Lib.hid js; have HKs := Lib.hid ks; have HLs := Lib.hid ls
      clear hnl his js ks ls
      rcases hkd with hkd | hkd
      · have t7 : (k.kind == 7) = true := by simpa using hkd
        have hc0 := hkd
        go_upto_region 3 with fail
        refine wp_region_still_tail 8 (by kernel_rfl) (by kernel_rfl) ?_
        obtain ⟨Wd, hWd⟩ : ∃ Wd : World, Wd = { W1 with drawn := W1.drawn + 1 } := ⟨_, rfl⟩
        rw [← hWd]
        have hsd : ∀ g : Nat, Wd.heap[g]? = W1.heap[g]? := fun g => by rw [hWd]
        have hzd : Wd.heap.size = W1.heap.size := by rw [hWd]
        have hbd : Below W1.heap.size W1 Wd := by rw [hWd]; exact Below.drew (Below.refl _ _)
        have hkd1 := HK1.out.keep (hsd kb)
        have hxd := (hsd xb).trans HM3.out
        have hnd := (hsd w.heap.size).trans HN1.out
        clear c0 c1 c2 z0 z1 z2 z3 g0 g1 g2 g3 y0 y1 y2 y3 f0 f1 f2 f3 hWd
        obtain ⟨c0, c1, c2⟩ := hkd1.three
        have HKD := Lib.hid hkd1; have HXD := Lib.hid hxd; have HND := Lib.hid hnd; have HSD := Lib.hid hsd; have HBD := Lib.hid hbd
        clear hkd1 hxd hnd hsd hbd
        simp only [List.take_succ_cons, List.take_zero, List.drop_succ_cons, List.drop_zero]
        iterate 8 still_step
        refine wpStill_nil ?_
        refine Sh.wpList_append_fresh rfl _ _ 27 rfl Wd.heap.size 9 is (.string ⟨#[]⟩) 1 16 Try.underlying27 HIs.out HJs.out HKs.out HLs.out rfl (by decide) (.slice none 0 0) 0 [] rfl (World.ownsRow_nil _ _ _ _) ⟨kb, o + 3, none⟩ k.kids.length 8 (k.names.map str) rfl (by simp [HNL.out]) (HKD.out.names HWF.out) (fun u hu => by obtain ⟨y, _, rfl⟩ := List.mem_map.1 hu; rfl) (by unfold maxLen; omega) (by omega) (Nat.le_refl _) ?_
        intro sv w5 hown hg _
        rw [Nat.zero_add, List.nil_append] at hown
        have hb5 := below_grown (B := Wd.heap.size) hg (fun g e => by cases e) (Nat.le_refl _)
        have hz5 := hb5.size
        obtain ⟨an, cn, rfl, hrn⟩ := RowV.own (l := k.names.map fun n => [str n]) (S := fun g => Wd.heap.size ≤ g ∧ g < w5.heap.size) (by rw [show (k.names.map fun n => [str n]).flatten = k.names.map str by induction k.names with | nil => rfl | cons a l ih => simp [ih]]; exact hown) (str1_len k.names) (by simp [HNL.out]) (fun g e => hown.lt g e)
        have hx5 := (hb5.block xb (by omega)).trans HXD.out
        have hn5 := (hb5.block w.heap.size (by omega)).trans HND.out
        obtain ⟨⟨z0, z1, z2, z3⟩, ⟨g0, g1, g2, g3⟩⟩ := four_blk hx5
        have HB5 := Lib.hid hb5; have HRN := Lib.hid hrn; have HN5 := Lib.hid hn5; have HX5 := Lib.hid hx5
        clear hb5 hrn hn5 hx5 hown hg c0 c1 c2
        simp only [Act.put]
        refine wpList_runV (w' := w5) rfl (.pointer (some ⟨xb, 2, none⟩)) (by simp [execOp, go_sem]) ?_
        refine wpList_runU (w' := w5.setCell ⟨xb, 2, none⟩ (.slice an k.kids.length cn)) rfl (by simp [execOp, go_sem, z2, g2]) ?_
        refine wpList_nil ?_
        simp only [Act.put]
        obtain ⟨W6, hW6⟩ : ∃ W6, W6 = w5.setCell ⟨xb, 2, none⟩ (.slice an k.kids.length cn) := ⟨_, rfl⟩
        have hx6 : W6.heap[xb]? = some (.cells #[.int .i64 k.kind, .string ⟨k.name.toArray⟩, .slice an k.kids.length cn, .slice a k.kids.length cc] 59 (0, 0)) := by rw [hW6]; exact set_four2 HX5.out _
        have hk6 : Keeps (fun g => g = xb) w5 W6 := by rw [hW6]; exact (Keeps.refl (fun g => g = xb) _).setCell 2 _ rfl
        have hn6 := (hk6.block w.heap.size (by omega) (by omega)).trans HN5.out
        have hz6 := hk6.size
        rw [← hW6]
        clear hW6 z0 z1 z2 z3 g0 g1 g2 g3
        obtain ⟨⟨z0, z1, z2, z3⟩, ⟨g0, g1, g2, g3⟩⟩ := four_blk hx6
        obtain ⟨⟨y0, y1, y2, y3⟩, ⟨f0, f1, f2, f3⟩⟩ := four_blk hn6
        have HK6 := Lib.hid hk6; have HN6 := Lib.hid hn6
        clear hk6 hn6 hx6
        go_wp2
        obtain ⟨W2, hW2⟩ : ∃ W2, W2 = (((W6.setCell ⟨w.heap.size, 0, none⟩ (.int .i64 7)).setCell ⟨w.heap.size, 1, none⟩ (.string ⟨k.name.toArray⟩)).setCell ⟨w.heap.size, 2, none⟩ (.slice an k.kids.length cn)).setCell ⟨w.heap.size, 3, none⟩ (.slice a k.kids.length cc) := ⟨_, rfl⟩
        have hx2 : W2.heap[w.heap.size]? = some (.cells #[.int .i64 7, .string ⟨k.name.toArray⟩, .slice an k.kids.length cn, .slice a k.kids.length cc] 59 (0, 0)) := by rw [hW2]; exact set_four HN6.out
        have hk2 : Keeps (fun g => g = w.heap.size) W6 W2 := by rw [hW2]; exact ((((Keeps.refl (fun g => g = w.heap.size) _).setCell 0 _ rfl).setCell 1 _ rfl).setCell 2 _ rfl).setCell 3 _ rfl
        rw [← hW2]
        refine bodyPost_ret (results_cell_row rfl _ W2 w.heap.size 59 _ (0, 0) _ rfl hx2 Try.underlying59 rfl (by kernel_rfl)) rfl ?_
        have hz2 := hk2.size
        refine ⟨an, cn, a, cc, by rw [HNL.out, hkd], ?_, ?_, ?_⟩
        · exact HRN.out.keep (fun g hg => ⟨by have := hg.1; omega, by have := hg.2; omega⟩) (fun g hg => (hk2.block g (by have := hg.2; omega) (by have := hg.1; omega)).trans (HK6.out.block g hg.2 (by have := hg.1; omega)))
        · exact HROW.out.keep (fun g hg => ⟨by have := hg.1; omega, by have := hg.2.1; omega⟩) (fun g hg => (hk2.block g (by have := hg.2.1; omega) (by have := hg.1; omega)).trans ((HK6.out.block g (by have := hg.2.1; omega) (hg.2.2 (by trivial))).trans ((HB5.out.block g (by have := hg.2.1; omega)).trans (HSD.out g))))
        · exact HB1.out.trans ((HBD.out.mono (by omega)).trans ((HB5.out.mono (by omega)).trans ((HK6.out.below (by omega) (fun g e => by omega)).trans (hk2.below (by omega) (fun g e => by omega)))))
      · have t7 : (k.kind == 7) = false := by rw [beq_eq_false_iff_ne]; omega
        have h7 : ¬ k.kind = 7 := by omega
        have t8 : (k.kind == 8) = true := by simpa using hkd
        have hc0 := hkd
        go_upto_region 3 with fail
        refine wp_region_still_tail 8 (by kernel_rfl) (by kernel_rfl) ?_
        obtain ⟨Wd, hWd⟩ : ∃ Wd : World, Wd = { W1 with drawn := W1.drawn + 1 } := ⟨_, rfl⟩
        rw [← hWd]
        have hsd : ∀ g : Nat, Wd.heap[g]? = W1.heap[g]? := fun g => by rw [hWd]
        have hzd : Wd.heap.size = W1.heap.size := by rw [hWd]
        have hbd : Below W1.heap.size W1 Wd := by rw [hWd]; exact Below.drew (Below.refl _ _)
        have hkd1 := HK1.out.keep (hsd kb)
        have hxd := (hsd xb).trans HM3.out
        have hnd := (hsd w.heap.size).trans HN1.out
        clear c0 c1 c2 z0 z1 z2 z3 g0 g1 g2 g3 y0 y1 y2 y3 f0 f1 f2 f3 hWd
        obtain ⟨c0, c1, c2⟩ := hkd1.three
        have HKD := Lib.hid hkd1; have HXD := Lib.hid hxd; have HND := Lib.hid hnd; have HSD := Lib.hid hsd; have HBD := Lib.hid hbd
        clear hkd1 hxd hnd hsd hbd
        simp only [List.take_succ_cons, List.take_zero, List.drop_succ_cons, List.drop_zero]
        iterate 8 still_step
        refine wpStill_nil ?_
        refine Sh.wpList_append_fresh rfl _ _ 27 rfl Wd.heap.size 9 is (.string ⟨#[]⟩) 1 16 Try.underlying27 HIs.out HJs.out HKs.out HLs.out rfl (by decide) (.slice none 0 0) 0 [] rfl (World.ownsRow_nil _ _ _ _) ⟨kb, o + 3, none⟩ k.kids.length 8 (k.names.map str) rfl (by simp [HNL.out]) (HKD.out.names HWF.out) (fun u hu => by obtain ⟨y, _, rfl⟩ := List.mem_map.1 hu; rfl) (by unfold maxLen; omega) (by omega) (Nat.le_refl _) ?_
        intro sv w5 hown hg _
        rw [Nat.zero_add, List.nil_append] at hown
        have hb5 := below_grown (B := Wd.heap.size) hg (fun g e => by cases e) (Nat.le_refl _)
        have hz5 := hb5.size
        obtain ⟨an, cn, rfl, hrn⟩ := RowV.own (l := k.names.map fun n => [str n]) (S := fun g => Wd.heap.size ≤ g ∧ g < w5.heap.size) (by rw [show (k.names.map fun n => [str n]).flatten = k.names.map str by induction k.names with | nil => rfl | cons a l ih => simp [ih]]; exact hown) (str1_len k.names) (by simp [HNL.out]) (fun g e => hown.lt g e)
        have hx5 := (hb5.block xb (by omega)).trans HXD.out
        have hn5 := (hb5.block w.heap.size (by omega)).trans HND.out
        obtain ⟨⟨z0, z1, z2, z3⟩, ⟨g0, g1, g2, g3⟩⟩ := four_blk hx5
        have HB5 := Lib.hid hb5; have HRN := Lib.hid hrn; have HN5 := Lib.hid hn5; have HX5 := Lib.hid hx5
        clear hb5 hrn hn5 hx5 hown hg c0 c1 c2
        simp only [Act.put]
        refine wpList_runV (w' := w5) rfl (.pointer (some ⟨xb, 2, none⟩)) (by simp [execOp, go_sem]) ?_
        refine wpList_runU (w' := w5.setCell ⟨xb, 2, none⟩ (.slice an k.kids.length cn)) rfl (by simp [execOp, go_sem, z2, g2]) ?_
        refine wpList_nil ?_
        simp only [Act.put]
        obtain ⟨W6, hW6⟩ : ∃ W6, W6 = w5.setCell ⟨xb, 2, none⟩ (.slice an k.kids.length cn) := ⟨_, rfl⟩
        have hx6 : W6.heap[xb]? = some (.cells #[.int .i64 k.kind, .string ⟨k.name.toArray⟩, .slice an k.kids.length cn, .slice a k.kids.length cc] 59 (0, 0)) := by rw [hW6]; exact set_four2 HX5.out _
        have hk6 : Keeps (fun g => g = xb) w5 W6 := by rw [hW6]; exact (Keeps.refl (fun g => g = xb) _).setCell 2 _ rfl
        have hn6 := (hk6.block w.heap.size (by omega) (by omega)).trans HN5.out
        have hz6 := hk6.size
        rw [← hW6]
        clear hW6 z0 z1 z2 z3 g0 g1 g2 g3
        obtain ⟨⟨z0, z1, z2, z3⟩, ⟨g0, g1, g2, g3⟩⟩ := four_blk hx6
        obtain ⟨⟨y0, y1, y2, y3⟩, ⟨f0, f1, f2, f3⟩⟩ := four_blk hn6
        have HK6 := Lib.hid hk6; have HN6 := Lib.hid hn6
        clear hk6 hn6 hx6
        go_wp2
        obtain ⟨W2, hW2⟩ : ∃ W2, W2 = (((W6.setCell ⟨w.heap.size, 0, none⟩ (.int .i64 8)).setCell ⟨w.heap.size, 1, none⟩ (.string ⟨k.name.toArray⟩)).setCell ⟨w.heap.size, 2, none⟩ (.slice an k.kids.length cn)).setCell ⟨w.heap.size, 3, none⟩ (.slice a k.kids.length cc) := ⟨_, rfl⟩
        have hx2 : W2.heap[w.heap.size]? = some (.cells #[.int .i64 8, .string ⟨k.name.toArray⟩, .slice an k.kids.length cn, .slice a k.kids.length cc] 59 (0, 0)) := by rw [hW2]; exact set_four HN6.out
        have hk2 : Keeps (fun g => g = w.heap.size) W6 W2 := by rw [hW2]; exact ((((Keeps.refl (fun g => g = w.heap.size) _).setCell 0 _ rfl).setCell 1 _ rfl).setCell 2 _ rfl).setCell 3 _ rfl
        rw [← hW2]
        refine bodyPost_ret (results_cell_row rfl _ W2 w.heap.size 59 _ (0, 0) _ rfl hx2 Try.underlying59 rfl (by kernel_rfl)) rfl ?_
        have hz2 := hk2.size
        refine ⟨an, cn, a, cc, by rw [HNL.out, hkd], ?_, ?_, ?_⟩
        · exact HRN.out.keep (fun g hg => ⟨by have := hg.1; omega, by have := hg.2; omega⟩) (fun g hg => (hk2.block g (by have := hg.2; omega) (by have := hg.1; omega)).trans (HK6.out.block g hg.2 (by have := hg.1; omega)))
        · exact HROW.out.keep (fun g hg => ⟨by have := hg.1; omega, by have := hg.2.1; omega⟩) (fun g hg => (hk2.block g (by have := hg.2.1; omega) (by have := hg.1; omega)).trans ((HK6.out.block g (by have := hg.2.1; omega) (hg.2.2 (by trivial))).trans ((HB5.out.block g (by have := hg.2.1; omega)).trans (HSD.out g))))
        · exact HB1.out.trans ((HBD.out.mono (by omega)).trans ((HB5.out.mono (by omega)).trans ((HK6.out.below (by omega) (fun g e => by omega)).trans (hk2.below (by omega) (fun g e => by omega)))))
    · have hn0 : k.names = [] := by have := HWF.out.form; rw [if_neg hkd] at this; exact List.eq_nil_of_length_eq_zero this
      have h7 : ¬ k.kind = 7 := fun h => hkd (.inl h)
      have h8 : ¬ k.kind = 8 := fun h => hkd (.inr h)
      have t7 : (k.kind == 7) = false := by simpa using h7
      have t8 : (k.kind == 8) = false := by simpa using h8
      clear hkd
      have HH := Lib.hid hn0
      clear hn0
      go_wp2
      obtain ⟨W2, hW2⟩ : ∃ W2, W2 = (((W1.setCell ⟨w.heap.size, 0, none⟩ (.int .i64 k.kind)).setCell ⟨w.heap.size, 1, none⟩ (.string ⟨k.name.toArray⟩)).setCell ⟨w.heap.size, 2, none⟩ (.slice none 0 0)).setCell ⟨w.heap.size, 3, none⟩ (.slice a k.kids.length cc) := ⟨_, rfl⟩
      have hx2 : W2.heap[w.heap.size]? = some (.cells #[.int .i64 k.kind, .string ⟨k.name.toArray⟩, .slice none 0 0, .slice a k.kids.length cc] 59 (0, 0)) := by rw [hW2]; exact set_four HN1.out
      have hk2 : Keeps (fun g => g = w.heap.size) W1 W2 := by rw [hW2]; exact ((((Keeps.refl (fun g => g = w.heap.size) _).setCell 0 _ rfl).setCell 1 _ rfl).setCell 2 _ rfl).setCell 3 _ rfl
      rw [← hW2]
      refine bodyPost_ret (results_cell_row rfl _ W2 w.heap.size 59 _ (0, 0) _ rfl hx2 Try.underlying59 rfl (by kernel_rfl)) rfl ?_
      have hz2 := hk2.size
      refine ⟨none, 0, a, cc, by rw [HH.out]; rfl, .inl (by rw [HH.out]; rfl), HROW.out.keep (fun g hg => ⟨by have := hg.1; omega, by have := hg.2.1; omega⟩) (fun g hg => hk2.block g hg.2.1 (by have := hg.1; omega)), HB1.out.trans (hk2.below (by omega) (fun g e => by omega))⟩
end Sp
end Go.Proofs.Ytdophmlnmbcjlaa
