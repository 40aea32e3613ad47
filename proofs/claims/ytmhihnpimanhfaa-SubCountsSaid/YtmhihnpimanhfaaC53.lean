/- SubCounts' walk. Written by gen_lcount.py. -/
import Derived.Test.YtmhihnpimanhfaaC52
namespace Go.Proofs.Ytmhihnpimanhfaa
open Go.RowKit
namespace Sp
open Sc
theorem wrap_mod2 (z : Int) (k : Nat) : wrap64 (z + k) % 2 = ((z % 2).toNat + k) % 2 := by unfold wrap64; omega
set_option maxRecDepth 100000 in
set_option maxHeartbeats 30000000 in
theorem SubCounts_any (x y z : Int) (w : World) (h1 : -9223372036854775808 ≤ x) (h2 : x ≤ 9223372036854775807) (h3 : -9223372036854775808 ≤ y) (h4 : y ≤ 9223372036854775807) (_ : -9223372036854775808 ≤ z) (_ : z ≤ 9223372036854775807) :
    Calls Try.prog 11 #[.int .i64 x, .int .i64 y, .int .i64 z] w fun e w' => e = .returned (.bool true) ∧ Below w.heap.size w w' := by
  obtain ⟨n, hr, hn⟩ : ∃ r : Nat, x % 8 = r ∧ r < 8 := ⟨(x % 8).toNat, by omega, by omega⟩
  obtain ⟨part, hq, hp2⟩ : ∃ q : Nat, y % ((n : Int) + 2) = q ∧ q < n + 2 := ⟨(y % ((n : Int) + 2)).toNat, by have := Int.emod_nonneg y (show (n : Int) + 2 ≠ 0 by omega); omega, by have := Int.emod_nonneg y (show (n : Int) + 2 ≠ 0 by omega); have := Int.emod_lt_of_pos y (show (0 : Int) < (n : Int) + 2 by omega); omega⟩
  obtain ⟨p, hp⟩ : ∃ p, (z % 2).toNat = p := ⟨_, rfl⟩
  have hpl : p < 2 := by omega
  have hB : countB n part p = true := List.all_eq_true.1 (List.all_eq_true.1 (List.all_eq_true.1 countB_all n (List.mem_range.2 hn)) part (List.mem_range.2 hp2)) p (List.mem_range.2 hpl)
  have HW := Lib.hid (fun k : Nat => hp ▸ wrap_mod2 z k)
  have HR := Lib.hid hr; have HQ := Lib.hid hq; have HB := Lib.hid hB; clear hr hq hB hp
  go_enter Try.func11, Try.ntmps11
  go_upto_region 6 with (first | (go_at_call 35; (with_reducible refine (known6_any _).mono ?_); rintro e w1 ⟨rfl, x1⟩; have HX1 := Lib.hid x1; clear x1) | (go_at_call 36; (with_reducible refine (within6_is _ _ _ _ (by omega) (by omega) h1 h2 HR.out).mono ?_); rintro e w2 ⟨rfl, rfl⟩) | (go_at_call 36; (with_reducible refine (within6_is _ _ _ _ (by omega) (by omega) h3 h4 HQ.out).mono ?_); rintro e w2 ⟨rfl, rfl⟩))
  obtain ⟨W2, hW2⟩ : ∃ W2, W2 = ((((((w1.alloc (.cells #[.string ⟨#[112]⟩, .string ⟨#[113]⟩] 9)).alloc (.cells #[.int .i64 2, .string ⟨#[]⟩, .slice none 0 0, .slice none 0 0, .int .i64 2, .string ⟨#[]⟩, .slice none 0 0, .slice none 0 0] 25)).alloc (.cells #[.string ⟨#[112]⟩] 9)).alloc (.cells #[.int .i64 2, .string ⟨#[]⟩, .slice none 0 0, .slice none 0 0] 25)).alloc (.cells #[.int .i64 7, .string ⟨#[]⟩, .slice (some ⟨w1.heap.size, 0, none⟩) 2 2, .slice (some ⟨w1.heap.size + 1, 0, none⟩) 2 2] 25)).alloc (.cells #[.int .i64 7, .string ⟨#[]⟩, .slice (some ⟨w1.heap.size + 1 + 1, 0, none⟩) 1 1, .slice (some ⟨w1.heap.size + 1 + 1 + 1, 0, none⟩) 1 1] 25)) := ⟨_, rfl⟩
  have q := made (l := [_, _, _, _, _, _]) hW2
  have hz2 : W2.heap.size = w1.heap.size + 6 := by rw [hW2]; simp
  have hb2 : Below w1.heap.size w1 W2 := by rw [hW2]; repeat first | exact Below.refl _ _ | refine Below.alloc ?_ (by simp <;> omega) _
  obtain ⟨xb, hxb⟩ : ∃ xb, xb = w1.heap.size + 1 + 1 + 1 + 1 := ⟨_, rfl⟩
  obtain ⟨yb, hyb⟩ : ∃ yb, yb = w1.heap.size + 1 + 1 + 1 + 1 + 1 := ⟨_, rfl⟩
  have hF : ∀ g, g < w1.heap.size + 4 → Free W2 [xb, yb] [] g := fun g e => ⟨by omega, by simp; omega, by simp⟩
  have hxv : TzV W2 (Free W2 [xb, yb] []) x0C ⟨7, ⟨#[]⟩, some ⟨w1.heap.size, 0, none⟩, 2, 2, some ⟨w1.heap.size + 1, 0, none⟩, 2, 2⟩ := TzV.twoF (c := ⟨2, ⟨#[]⟩, none, 0, 0, none, 0, 0⟩) (d := ⟨2, ⟨#[]⟩, none, 0, 0, none, 0, 0⟩) 7 [112] [113] (q 0 _ rfl) (q 1 _ rfl) (hF _ (by omega)) (hF _ (by omega)) (TzV.leaf _ _ 2 []) (TzV.leaf _ _ 2 [])
  have hyv : TzV W2 (Free W2 [xb, yb] []) y0C ⟨7, ⟨#[]⟩, some ⟨w1.heap.size + 1 + 1, 0, none⟩, 1, 1, some ⟨w1.heap.size + 1 + 1 + 1, 0, none⟩, 1, 1⟩ := TzV.fldF (c := ⟨2, ⟨#[]⟩, none, 0, 0, none, 0, 0⟩) 7 [112] (q 2 _ rfl) (q 3 _ rfl) (hF _ (by omega)) (hF _ (by omega)) (TzV.leaf _ _ 2 [])
  have hx2 : W2.heap[xb]? = some (.cells #[.int .i64 7, .string ⟨#[]⟩, .slice (some ⟨w1.heap.size, 0, none⟩) 2 2, .slice (some ⟨w1.heap.size + 1, 0, none⟩) 2 2] 25 (0, 0)) := by rw [hxb]; exact q 4 _ rfl
  have hy2 : W2.heap[yb]? = some (.cells #[.int .i64 7, .string ⟨#[]⟩, .slice (some ⟨w1.heap.size + 1 + 1, 0, none⟩) 1 1, .slice (some ⟨w1.heap.size + 1 + 1 + 1, 0, none⟩) 1 1] 25 (0, 0)) := by rw [hyb]; exact q 5 _ rfl
  have hne : xb ≠ yb := by omega
  have hlo : w1.heap.size ≤ xb ∧ w1.heap.size ≤ yb := by omega
  have hHB2 := HX1.out.trans (hb2.mono HX1.out.size)
  rw [← hW2, ← hyb, ← hxb]
  have HXV := Lib.hid hxv; have HYV := Lib.hid hyv; have HX2 := Lib.hid hx2; have HY2 := Lib.hid hy2; have HB2 := Lib.hid hb2; have HHB := Lib.hid hHB2
  clear hxv hyv hx2 hy2 hb2 hW2 q hF hz2 hHB2 hxb hyb
  go_wp2_with fail
  go_loopw [9] (fun iv wr => ∃ i cx cy, CtR w1 xb yb p part n iv wr i cx cy) (fun iv _ => (intOf iv).toNat)
  case atStart => exact ⟨0, _, _, rfl, Nat.zero_le _, HX2.out, HY2.out, HXV.out, HYV.out, HB2.out⟩
  case round =>
    obtain ⟨i, cx, cy, h⟩ := hrel
    obtain rfl := h.slot
    have hi := h.le
    have hxl := (Array.getElem?_eq_some_iff.1 h.xat).1
    have hyl := (Array.getElem?_eq_some_iff.1 h.yat).1
    have hbs := h.below.size
    by_cases hlt : i < n
    · obtain ⟨k, hk⟩ : ∃ k, n - i = k := ⟨_, rfl⟩
      rw [hk]
      have hk0 : 0 < k := by omega
      have hkz : (0 : Int) < (k : Int) := by omega
      have hk8 : (k : Int) ≤ 8 := by omega
      obtain ⟨r, hr⟩ : ∃ r, (p + k) % 2 = r := ⟨_, rfl⟩
      have hr2 : r < 2 := by omega
      have hw := HW.out k
      have hwr : wrap64 (z + k) % 2 = (r : Nat) := by rw [hw]; omega
      have hbd := wrap64_bd (z + k)
      obtain ⟨wb1, wb2⟩ := hbd
      have hrz : (r : Int) < 2 := by omega
      have hcl : (#[Value.int .i64 4, .int .i64 5] : Array Value)[r]? = some (.int .i64 ((4 + r : Nat) : Int)) := by
        rcases (by omega : r = 0 ∨ r = 1) with rfl | rfl <;> rfl
      have hck : ∀ W : World, (W.alloc (.cells #[.int .i64 4, .int .i64 5] 3)).cell? ⟨W.heap.size, r, none⟩ = some (.int .i64 ((4 + r : Nat) : Int)) := fun W => by
        have e := heap_alloc_new W (.cells #[.int .i64 4, .int .i64 5] 3)
        unfold World.cell?
        simp only [e]
        exact hcl
      have HWR := Lib.hid hwr; have H := Lib.hid h; have HKR := Lib.hid hr; have HK := Lib.hid hk; have HCL := Lib.hid hcl
      clear hw hwr h hr hk hcl
      go_upto_region 10 with (go_at_call 36; (with_reducible refine (within6_is _ _ _ _ (by omega) (by omega) wb1 wb2 HWR.out).mono ?_); rintro e w2 ⟨rfl, rfl⟩)
      obtain ⟨W9, hW9⟩ : ∃ W9, W9 = wr.alloc (.cells #[.int .i64 4, .int .i64 5] 3) := ⟨_, rfl⟩
      have hb9 : Below wr.heap.size wr W9 := by rw [hW9]; exact (Below.refl _ _).alloc (Nat.le_refl _) _
      obtain ⟨ka, hka⟩ : ∃ ka : Int, ka = 4 + (r : Int) := ⟨_, rfl⟩
      have hka1 : 4 ≤ ka := by omega
      have hka2 : ka ≤ 5 := by omega
      have hkc : ((kindC p k : Nat) : Int) = ka := by unfold kindC; rw [HKR.out]; omega
      have hkd : ((kindD p part k : Nat) : Int) = if k = part then 9 - ka else ka := by
        unfold kindD
        split
        · have : kindC p k ≤ 5 := by omega
          omega
        · exact hkc
      rw [← hW9, ← hka]
      have HB9 := Lib.hid hb9; have HKC := Lib.hid hkc; have HKD := Lib.hid hkd
      clear hW9 hb9 hka hkc hkd hck hrz
      have hz9 := HB9.out.size
      go_upto_if 52 with fail
      go_cut [11] (fun tv wx => tv = .int .i64 (if k = part then 9 - ka else ka) ∧ W9 = wx)
      case first =>
        by_cases hkp : k = part
        · have tb : ((k : Int) == (part : Int)) = true := by simp; omega
          go_wp2
          go_meet
          case rel => exact ⟨by rw [if_pos hkp], rfl⟩
        · have tb : ((k : Int) == (part : Int)) = false := by simp; omega
          go_wp2
          go_meet
          case rel => exact ⟨by rw [if_neg hkp], rfl⟩
      case rest =>
        obtain ⟨rfl, rfl⟩ := hcut
        obtain ⟨kb, hkb⟩ : ∃ kb : Int, (if k = part then 9 - ka else ka) = kb := ⟨_, rfl⟩
        rw [hkb]
        rw [hkb] at HKD
        clear hkb
        have hx9 := (HB9.out.block xb hxl).trans H.out.xat
        have hy9 := (HB9.out.block yb hyl).trans H.out.yat
        have hvx := H.out.xv.step (Step.below HB9.out)
        have hvy := H.out.yv.step (Step.below HB9.out)
        have HX9 := Lib.hid hx9; have HY9 := Lib.hid hy9; have HVX := Lib.hid hvx; have HVY := Lib.hid hvy
        clear hx9 hy9 hvx hvy
        go_upto_region 13 with fail
        refine wp_region_by (QJ (fun (x : Nat × Nat) qq => match qq with | 0 => .int .i64 ka | 1 => .agg #[.int .i64 cx.k, .string cx.n, .slice cx.an cx.ln cx.cn, .slice cx.ak cx.lk cx.ck] | 2 => .slice (some ⟨x.1, 0, none⟩) 1 1 | 3 => .agg #[.int .i64 ka, .string ⟨#[]⟩, .slice none 0 0, .slice (some ⟨x.1, 0, none⟩) 1 1] | 4 => .int .i64 kb | 5 => .agg #[.int .i64 cy.k, .string cy.n, .slice cy.an cy.ln cy.cn, .slice cy.ak cy.lk cy.ck] | 6 => .slice (some ⟨x.2, 0, none⟩) 1 1 | 7 => .agg #[.int .i64 kb, .string ⟨#[]⟩, .slice none 0 0, .slice (some ⟨x.2, 0, none⟩) 1 1] | 8 => undef | 9 => undef | _ => undef) (fun x listed v => CnM W9 xb yb cx cy ka kb (listed.getD 2 false) (listed.getD 6 false) (listed.getD 8 false) (listed.getD 9 false) x v)) (by kernel_rfl) ?_ ?_ ?_
        · exact ⟨by simp, Closed.start _, (0, 0), Fr.start _ _ _, ⟨Keeps.of_below (Below.drew (Below.refl _ _)), (fun h => by simp at h), (fun h => by simp at h), (fun _ => HX9.out), (fun _ => HY9.out), (fun h => by simp at h), (fun h => by simp at h), by omega, by omega, hne⟩⟩
        · intro listed b v q hJ hi
          obtain ⟨hsz, hC, x, hF, hM⟩ := hJ
          have hMb : CnM W9 xb yb cx cy ka kb (listed.getD 2 false) (listed.getD 6 false) (listed.getD 8 false) (listed.getD 9 false) x v := hM
          obtain ⟨hl1, hiN⟩ := not_up hsz hi
          obtain ⟨_, o, ho, hdeps⟩ := mem_ready.1 hi
          have hiN : q < 10 := hiN
          obtain rfl | rfl | rfl | rfl | rfl | rfl | rfl | rfl | rfl | rfl : q = 0 ∨ q = 1 ∨ q = 2 ∨ q = 3 ∨ q = 4 ∨ q = 5 ∨ q = 6 ∨ q = 7 ∨ q = 8 ∨ q = 9 := by omega
          · cases ho
            have e10 := hF.old_is 10 (by rfl) rfl
            refine QJ.quiet (x := x) hsz hC hi hF (Slots.of (by rfl)) rfl (wanted_none rfl) (show CnM W9 xb yb cx cy ka kb ((listed.setIfInBounds 0 true).getD 2 false) ((listed.setIfInBounds 0 true).getD 6 false) ((listed.setIfInBounds 0 true).getD 8 false) ((listed.setIfInBounds 0 true).getD 9 false) x v by rw [getD_setN (show 0 ≠ 2 by decide), getD_setN (show 0 ≠ 6 by decide), getD_setN (show 0 ≠ 8 by decide), getD_setN (show 0 ≠ 9 by decide)]; exact hMb) ?_
            show _ = Result.ok (Next.value (.int .i64 ka)) v
            simp [execOp, go_sem, e10]
          · cases ho
            have l8 : listed.getD 8 false = false := by
              cases hh : listed.getD 8 false
              · rfl
              · have y0 := hC 8 _ rfl hh ⟨1, .phase⟩ (by simp) rfl; rw [hl1] at y0; cases y0
            obtain ⟨⟨z0, z1, z2, z3⟩, -⟩ := four_blk (hMb.xOld l8)
            have e7 := hF.old_is 7 (by rfl) rfl
            refine QJ.quiet (x := x) hsz hC hi hF (Slots.of (by rfl)) rfl (wanted_none rfl) (show CnM W9 xb yb cx cy ka kb ((listed.setIfInBounds 1 true).getD 2 false) ((listed.setIfInBounds 1 true).getD 6 false) ((listed.setIfInBounds 1 true).getD 8 false) ((listed.setIfInBounds 1 true).getD 9 false) x v by rw [getD_setN (show 1 ≠ 2 by decide), getD_setN (show 1 ≠ 6 by decide), getD_setN (show 1 ≠ 8 by decide), getD_setN (show 1 ≠ 9 by decide)]; exact hMb) ?_
            show _ = Result.ok (Next.value (.agg #[.int .i64 cx.k, .string cx.n, .slice cx.an cx.ln cx.cn, .slice cx.ak cx.lk cx.ck])) v
            simp [execOp, go_sem, e7, z0, z1, z2, z3]
          · cases ho
            have e56 : b.tmps[56]? = some (.agg #[.int .i64 cx.k, .string cx.n, .slice cx.an cx.ln cx.cn, .slice cx.ak cx.lk cx.ck]) := hF.up 1 56 rfl (hdeps ⟨1, .data⟩ (by simp) rfl)
            have l3 : listed.getD 3 false = false := by
              cases hh : listed.getD 3 false
              · rfl
              · have y0 := hC 3 _ rfl hh ⟨2, .data⟩ (by simp) rfl; rw [hl1] at y0; cases y0
            have l9 : listed.getD 9 false = false := by
              cases hh : listed.getD 9 false
              · rfl
              · have y0 := hC 9 _ rfl hh ⟨2, .phase⟩ (by simp) rfl; rw [hl1] at y0; cases y0
            have l8 : listed.getD 8 false = false := by
              cases hh : listed.getD 8 false
              · rfl
              · have y0 := hC 8 _ rfl hh ⟨2, .phase⟩ (by simp) rfl; rw [hl1] at y0; cases y0
            refine QJ.make (v' := v.alloc (.cells #[.int .i64 cx.k, .string cx.n, .slice cx.an cx.ln cx.cn, .slice cx.ak cx.lk cx.ck] 25)) (x := x) (x' := (v.heap.size, x.2)) hsz hC hi hF (Slots.of (by rfl)) rfl (wanted_none rfl) (fun q hq => match q, (show q ≠ 2 by rintro rfl; rw [hl1] at hq; cases hq), (show q ≠ 3 by rintro rfl; rw [l3] at hq; cases hq) with | 0, _, _ => rfl | 1, _, _ => rfl | 2, h, _ => absurd rfl h | 3, _, h => absurd rfl h | 4, _, _ => rfl | 5, _, _ => rfl | 6, _, _ => rfl | 7, _, _ => rfl | 8, _, _ => rfl | 9, _, _ => rfl | _ + 10, _, _ => rfl) (show CnM W9 xb yb cx cy ka kb ((listed.setIfInBounds 2 true).getD 2 false) ((listed.setIfInBounds 2 true).getD 6 false) ((listed.setIfInBounds 2 true).getD 8 false) ((listed.setIfInBounds 2 true).getD 9 false) (v.heap.size, x.2) (v.alloc (.cells #[.int .i64 cx.k, .string cx.n, .slice cx.an cx.ln cx.cn, .slice cx.ak cx.lk cx.ck] 25)) by rw [getD_setS (by rw [hsz]; decide), getD_setN (show 2 ≠ 6 by decide), getD_setN (show 2 ≠ 8 by decide), getD_setN (show 2 ≠ 9 by decide)]; exact hMb.make2 l8) ?_
            show _ = Result.ok (Next.value (.slice (some ⟨v.heap.size, 0, none⟩) 1 1)) _
            simp [execOp, go_sem, e56]
          · cases ho
            have e55 : b.tmps[55]? = some (.int .i64 ka) := hF.up 0 55 rfl (hdeps ⟨0, .data⟩ (by simp) rfl)
            have e57 : b.tmps[57]? = some (.slice (some ⟨x.1, 0, none⟩) 1 1) := hF.up 2 57 rfl (hdeps ⟨2, .data⟩ (by simp) rfl)
            refine QJ.quiet (x := x) hsz hC hi hF (Slots.of (by rfl)) rfl (wanted_none rfl) (show CnM W9 xb yb cx cy ka kb ((listed.setIfInBounds 3 true).getD 2 false) ((listed.setIfInBounds 3 true).getD 6 false) ((listed.setIfInBounds 3 true).getD 8 false) ((listed.setIfInBounds 3 true).getD 9 false) x v by rw [getD_setN (show 3 ≠ 2 by decide), getD_setN (show 3 ≠ 6 by decide), getD_setN (show 3 ≠ 8 by decide), getD_setN (show 3 ≠ 9 by decide)]; exact hMb) ?_
            show _ = Result.ok (Next.value (.agg #[.int .i64 ka, .string ⟨#[]⟩, .slice none 0 0, .slice (some ⟨x.1, 0, none⟩) 1 1])) v
            simp [execOp, go_sem, e55, e57]
          · cases ho
            have e11 := hF.old_is 11 (by rfl) rfl
            refine QJ.quiet (x := x) hsz hC hi hF (Slots.of (by rfl)) rfl (wanted_none rfl) (show CnM W9 xb yb cx cy ka kb ((listed.setIfInBounds 4 true).getD 2 false) ((listed.setIfInBounds 4 true).getD 6 false) ((listed.setIfInBounds 4 true).getD 8 false) ((listed.setIfInBounds 4 true).getD 9 false) x v by rw [getD_setN (show 4 ≠ 2 by decide), getD_setN (show 4 ≠ 6 by decide), getD_setN (show 4 ≠ 8 by decide), getD_setN (show 4 ≠ 9 by decide)]; exact hMb) ?_
            show _ = Result.ok (Next.value (.int .i64 kb)) v
            simp [execOp, go_sem, e11]
          · cases ho
            have l9 : listed.getD 9 false = false := by
              cases hh : listed.getD 9 false
              · rfl
              · have y0 := hC 9 _ rfl hh ⟨5, .phase⟩ (by simp) rfl; rw [hl1] at y0; cases y0
            obtain ⟨⟨z0, z1, z2, z3⟩, -⟩ := four_blk (hMb.yOld l9)
            have e8 := hF.old_is 8 (by rfl) rfl
            refine QJ.quiet (x := x) hsz hC hi hF (Slots.of (by rfl)) rfl (wanted_none rfl) (show CnM W9 xb yb cx cy ka kb ((listed.setIfInBounds 5 true).getD 2 false) ((listed.setIfInBounds 5 true).getD 6 false) ((listed.setIfInBounds 5 true).getD 8 false) ((listed.setIfInBounds 5 true).getD 9 false) x v by rw [getD_setN (show 5 ≠ 2 by decide), getD_setN (show 5 ≠ 6 by decide), getD_setN (show 5 ≠ 8 by decide), getD_setN (show 5 ≠ 9 by decide)]; exact hMb) ?_
            show _ = Result.ok (Next.value (.agg #[.int .i64 cy.k, .string cy.n, .slice cy.an cy.ln cy.cn, .slice cy.ak cy.lk cy.ck])) v
            simp [execOp, go_sem, e8, z0, z1, z2, z3]
          · cases ho
            have e60 : b.tmps[60]? = some (.agg #[.int .i64 cy.k, .string cy.n, .slice cy.an cy.ln cy.cn, .slice cy.ak cy.lk cy.ck]) := hF.up 5 60 rfl (hdeps ⟨5, .data⟩ (by simp) rfl)
            have l7 : listed.getD 7 false = false := by
              cases hh : listed.getD 7 false
              · rfl
              · have y0 := hC 7 _ rfl hh ⟨6, .data⟩ (by simp) rfl; rw [hl1] at y0; cases y0
            have l9 : listed.getD 9 false = false := by
              cases hh : listed.getD 9 false
              · rfl
              · have y0 := hC 9 _ rfl hh ⟨6, .phase⟩ (by simp) rfl; rw [hl1] at y0; cases y0
            refine QJ.make (v' := v.alloc (.cells #[.int .i64 cy.k, .string cy.n, .slice cy.an cy.ln cy.cn, .slice cy.ak cy.lk cy.ck] 25)) (x := x) (x' := (x.1, v.heap.size)) hsz hC hi hF (Slots.of (by rfl)) rfl (wanted_none rfl) (fun q hq => match q, (show q ≠ 6 by rintro rfl; rw [hl1] at hq; cases hq), (show q ≠ 7 by rintro rfl; rw [l7] at hq; cases hq) with | 0, _, _ => rfl | 1, _, _ => rfl | 2, _, _ => rfl | 3, _, _ => rfl | 4, _, _ => rfl | 5, _, _ => rfl | 6, h, _ => absurd rfl h | 7, _, h => absurd rfl h | 8, _, _ => rfl | 9, _, _ => rfl | _ + 10, _, _ => rfl) (show CnM W9 xb yb cx cy ka kb ((listed.setIfInBounds 6 true).getD 2 false) ((listed.setIfInBounds 6 true).getD 6 false) ((listed.setIfInBounds 6 true).getD 8 false) ((listed.setIfInBounds 6 true).getD 9 false) (x.1, v.heap.size) (v.alloc (.cells #[.int .i64 cy.k, .string cy.n, .slice cy.an cy.ln cy.cn, .slice cy.ak cy.lk cy.ck] 25)) by rw [getD_setS (by rw [hsz]; decide), getD_setN (show 6 ≠ 2 by decide), getD_setN (show 6 ≠ 8 by decide), getD_setN (show 6 ≠ 9 by decide)]; exact hMb.make6 l9) ?_
            show _ = Result.ok (Next.value (.slice (some ⟨v.heap.size, 0, none⟩) 1 1)) _
            simp [execOp, go_sem, e60]
          · cases ho
            have e59 : b.tmps[59]? = some (.int .i64 kb) := hF.up 4 59 rfl (hdeps ⟨4, .data⟩ (by simp) rfl)
            have e61 : b.tmps[61]? = some (.slice (some ⟨x.2, 0, none⟩) 1 1) := hF.up 6 61 rfl (hdeps ⟨6, .data⟩ (by simp) rfl)
            refine QJ.quiet (x := x) hsz hC hi hF (Slots.of (by rfl)) rfl (wanted_none rfl) (show CnM W9 xb yb cx cy ka kb ((listed.setIfInBounds 7 true).getD 2 false) ((listed.setIfInBounds 7 true).getD 6 false) ((listed.setIfInBounds 7 true).getD 8 false) ((listed.setIfInBounds 7 true).getD 9 false) x v by rw [getD_setN (show 7 ≠ 2 by decide), getD_setN (show 7 ≠ 6 by decide), getD_setN (show 7 ≠ 8 by decide), getD_setN (show 7 ≠ 9 by decide)]; exact hMb) ?_
            show _ = Result.ok (Next.value (.agg #[.int .i64 kb, .string ⟨#[]⟩, .slice none 0 0, .slice (some ⟨x.2, 0, none⟩) 1 1])) v
            simp [execOp, go_sem, e59, e61]
          · cases ho
            have e7 := hF.old_is 7 (by rfl) rfl
            have e58 : b.tmps[58]? = some (.agg #[.int .i64 ka, .string ⟨#[]⟩, .slice none 0 0, .slice (some ⟨x.1, 0, none⟩) 1 1]) := hF.up 3 58 rfl (hdeps ⟨3, .data⟩ (by simp) rfl)

            obtain ⟨⟨z0, z1, z2, z3⟩, ⟨f0, f1, f2, f3⟩⟩ := four_blk (hMb.xOld hl1)
            refine QJ.store (x := x) hsz hC hi hF (Slots.of (by rfl)) rfl rfl (wanted_none rfl) (show CnM W9 xb yb cx cy ka kb ((listed.setIfInBounds 8 true).getD 2 false) ((listed.setIfInBounds 8 true).getD 6 false) ((listed.setIfInBounds 8 true).getD 8 false) ((listed.setIfInBounds 8 true).getD 9 false) x ((((v.setCell ⟨xb, 0, none⟩ (.int .i64 ka)).setCell ⟨xb, 1, none⟩ (.string ⟨#[]⟩)).setCell ⟨xb, 2, none⟩ (.slice none 0 0)).setCell ⟨xb, 3, none⟩ (.slice (some ⟨x.1, 0, none⟩) 1 1)) by rw [getD_setS (by rw [hsz]; decide), getD_setN (show 8 ≠ 2 by decide), getD_setN (show 8 ≠ 6 by decide), getD_setN (show 8 ≠ 9 by decide)]; exact hMb.store8 hl1) ?_
            simp [execOp, go_sem, e7, e58, z0, z1, z2, z3, f0, f1, f2, f3]
          · cases ho
            have e8 := hF.old_is 8 (by rfl) rfl
            have e62 : b.tmps[62]? = some (.agg #[.int .i64 kb, .string ⟨#[]⟩, .slice none 0 0, .slice (some ⟨x.2, 0, none⟩) 1 1]) := hF.up 7 62 rfl (hdeps ⟨7, .data⟩ (by simp) rfl)

            obtain ⟨⟨z0, z1, z2, z3⟩, ⟨f0, f1, f2, f3⟩⟩ := four_blk (hMb.yOld hl1)
            refine QJ.store (x := x) hsz hC hi hF (Slots.of (by rfl)) rfl rfl (wanted_none rfl) (show CnM W9 xb yb cx cy ka kb ((listed.setIfInBounds 9 true).getD 2 false) ((listed.setIfInBounds 9 true).getD 6 false) ((listed.setIfInBounds 9 true).getD 8 false) ((listed.setIfInBounds 9 true).getD 9 false) x ((((v.setCell ⟨yb, 0, none⟩ (.int .i64 kb)).setCell ⟨yb, 1, none⟩ (.string ⟨#[]⟩)).setCell ⟨yb, 2, none⟩ (.slice none 0 0)).setCell ⟨yb, 3, none⟩ (.slice (some ⟨x.2, 0, none⟩) 1 1)) by rw [getD_setS (by rw [hsz]; decide), getD_setN (show 9 ≠ 2 by decide), getD_setN (show 9 ≠ 6 by decide), getD_setN (show 9 ≠ 8 by decide)]; exact hMb.store9 hl1) ?_
            simp [execOp, go_sem, e8, e62, z0, z1, z2, z3, f0, f1, f2, f3]
        · intro listed b W3 hJ hr
          obtain ⟨hsz, hC, x, hF, hM⟩ := hJ
          have hall := all_upB2 (by rfl) hsz hr
          have hMb : CnM W9 xb yb cx cy ka kb true true true true x W3 := by
            have h : CnM W9 xb yb cx cy ka kb (listed.getD 2 false) (listed.getD 6 false) (listed.getD 8 false) (listed.getD 9 false) x W3 := hM
            rw [hall 2 (by decide), hall 6 (by decide), hall 8 (by decide), hall 9 (by decide)] at h
            exact h
          have hb : b = putAll _ _ _ 10 := hF.done (Slots.of (by rfl)) hall
          subst hb
          simp only [putAll]
          simp [dstOf, Act.put]
          obtain ⟨hg1, hg2⟩ := hMb.grown HVX.out HVY.out
          have HM := Lib.hid hMb; have HG1 := Lib.hid hg1; have HG2 := Lib.hid hg2
          clear hM hF hC hall hr hsz hMb hg1 hg2
          have hkm : ((n - (i + 1) : Nat) : Int) = (k : Int) - 1 := by have := HK.out; omega
          go_wp2
          go_roundw
          case rel => exact ⟨i + 1, _, _, by rw [hkm], by omega, HM.out.xNew rfl, HM.out.yNew rfl, by rw [chX, HK.out, HKC.out]; exact HG1.out, by rw [chY, HK.out, HKD.out]; exact HG2.out, H.out.below.trans ((HB9.out.mono hbs).trans (HM.out.keeps.below (by omega) (fun g e => by omega)))⟩
          case measure => simp [intOf]; omega
    · obtain rfl : n = i := by omega
      have hB := HB.out
      unfold countB at hB
      simp only [Bool.and_eq_true, decide_eq_true_eq] at hB
      obtain ⟨f1, f2, f3, f4⟩ := hB
      have hF := fineB_is f1
      generalize (newK ⟨chX p n n, [], []⟩).2 = tab at *
      generalize addK (hasZ tab.N) tab.T (chY p part n n) = ad at *
      obtain ⟨id, er, T⟩ := ad
      dsimp only at f2 f3 f4 hF
      obtain ⟨⟨l1, l2⟩, hl⟩ : ∃ l, leL T (openK T tab.N 13) tab.m id = l := ⟨_, rfl⟩
      obtain ⟨⟨k1, k2⟩, hk'⟩ : ∃ l, leL T (openK T tab.N 13) id id = l := ⟨_, rfl⟩
      rw [hl] at f4
      rw [hk'] at f2 f3
      dsimp only at f2 f3 f4
      subst f2
      obtain ⟨c, hc⟩ : ∃ c, l2.length = c := ⟨_, rfl⟩
      rw [hc] at f4
      have hb1 := HX1.out.trans (h.below.mono HX1.out.size)
      have CN := new_at (w := wr) ⟨chX p n n, [], []⟩ 0 0 (SzV.build (h.xv.keep (fun _ hg => hg.1) (fun _ _ => rfl)) (NmsV.nil none) (SgsV.nil none)) rfl hF.fit hF.short ⟨by simp, by simp⟩ hF.new
      obtain ⟨⟨c0, c1, c2, c3⟩, -⟩ := four_blk h.xat
      have HCN := Lib.hid CN; have HB1 := Lib.hid hb1; have HFF := Lib.hid hF; have HL := Lib.hid hl; have HK := Lib.hid hk'; have F3 := Lib.hid f3; have F4 := Lib.hid f4; have HC := Lib.hid hc
      have HYA := Lib.hid h.yat; have HYB := Lib.hid h.yv
      clear CN hb1 hF hl hk' f1 f3 f4 h hc
      go_upto_region 17 with (go_at_call 22; (refine HCN.out.mono ?_); rintro e w2 ⟨tb, rb, nb, mb, sb, ty, nu, vs, rfl, s2, x2⟩; have hz2 := x2.size; have HS2 := Lib.hid s2; have HX2 := Lib.hid x2; clear s2 x2)
      clear c0 c1 c2 c3
      obtain ⟨⟨c0, c1, c2, c3⟩, -⟩ := four_blk ((HX2.out.block yb hyl).trans HYA.out)
      have CA := HS2.out.adds HX2.out.size HFF.out.tfit HFF.out.tshort (HYB.out.keep (S' := Any wr) (fun _ hg => hg.1) (fun g hg => HX2.out.block g hg.1)) (fun g hg => ⟨Nat.lt_of_lt_of_le hg HX2.out.size, HS2.out.far hg⟩) HFF.out.add
      have HCA := Lib.hid CA
      clear CA
      go_upto_region 18 with (go_at_call 30; (refine HCA.out.mono ?_); rintro e w3 ⟨rb3, nb3, ty3, nu3, rfl, s3, x3, -⟩; have HS3 := Lib.hid s3; have HX3 := Lib.hid (HB1.out.trans ((HX2.out.trans x3).mono HB1.out.size)); clear s3 x3)
      clear c0 c1 c2 c3
      go_upto_region 19 with (first | (go_at_call 32; (refine HS3.out.main.mono ?_); rintro e w4 ⟨rfl, x4⟩; have HS4 := Lib.hid (HS3.out.below x4); have HX4 := Lib.hid (HX3.out.trans (x4.mono HX3.out.size)); clear x4) | (go_at_call 37; (refine (HS4.out.le HFF.out.op HFF.out.main HFF.out.id).mono ?_); rw [HL.out]; rintro e w5 ⟨rfl, x5⟩; have HS5 := Lib.hid (HS4.out.below x5); have HX5 := Lib.hid (HX4.out.trans (x5.mono HX4.out.size)); clear x5))
      go_upto_region 20 with (go_at_call 37; (refine (HS5.out.le HFF.out.op HFF.out.id HFF.out.id).mono ?_); rw [HK.out]; rintro e w6 ⟨rfl, x6⟩; have HS6 := Lib.hid (HS5.out.below x6); have HX6 := Lib.hid (HX5.out.trans (x6.mono HX5.out.size)); clear x6)
      have hf3 := F3.out
      rw [hf3]
      have hf4 := F4.out
      rw [HC.out]
      by_cases hpp : 1 ≤ part ∧ part ≤ n
      · rw [if_pos hpp] at hf4
        simp only [Bool.and_eq_true, Bool.not_eq_true', decide_eq_true_eq] at hf4
        obtain ⟨rfl, rfl⟩ := hf4
        have hp1 : (1 : Int) ≤ (c : Int) := by omega
        have hp3 : (c : Int) ≤ (n : Int) := by omega
        have tc : ((c : Int) == (c : Int)) = true := by simp
        clear hf3 hpp
        go_wp2
        go_ret
        exact ⟨rfl, HX6.out⟩
      · rw [if_neg hpp] at hf4
        simp only [Bool.and_eq_true, decide_eq_true_eq] at hf4
        obtain ⟨rfl, rfl⟩ := hf4
        have tc : (((n + 1 : Nat) : Int) == (n : Int) + 1) = true := by simp
        clear hf3
        by_cases hp0 : 1 ≤ part
        · have hp1 : (1 : Int) ≤ (part : Int) := by omega
          have hp3 : ¬ (part : Int) ≤ (n : Int) := by omega
          go_wp2
          go_ret
          exact ⟨rfl, HX6.out⟩
        · have hp1 : ¬ (1 : Int) ≤ (part : Int) := by omega
          go_wp2
          go_ret
          exact ⟨rfl, HX6.out⟩
end Sp
end Go.Proofs.Ytmhihnpimanhfaa
