/- SubKinds: its walk. Written by gen_lknd.py. -/
import Derived.Test.YteooafgdmpbjeabW52
import Derived.Test.YteooafgdmpbjeabW46
import Derived.Test.YteooafgdmpbjeabW38
import Derived.Test.YteooafgdmpbjeabW39
namespace Go.Proofs.Yteooafgdmpbjeab
open Go.RowKit
namespace Sp
open Sc
set_option maxRecDepth 100000
theorem tzv_kind {w : World} {S : Nat → Prop} {t : Tz} {c : C4} (h : TzV w S t c) : c.k = t.kind := by cases h; rfl
theorem add_good {T : List Kz} (hT : TabG (hasZ ([] : List NN)) 400 T) (t : Tz) : TabG (hasZ ([] : List NN)) 400 (addK (hasZ ([] : List NN)) T t).2.2 ∧ T <+: (addK (hasZ ([] : List NN)) T t).2.2 := by
  by_cases h : (oneC (hasZ ([] : List NN)) 0 t).1 = 0
  · obtain ⟨a, -, b⟩ := oneC_ok _ t 0 h
    obtain ⟨-, e2, e3, -⟩ := addK_g hT ⟨a, by omega⟩
    exact ⟨e2, e3⟩
  · unfold addK
    rw [if_pos h]
    exact ⟨hT, List.prefix_refl _⟩
theorem tzv_one {w : World} {S : Nat → Prop} {t t0 : Tz} {c : C4} (h : TzV w S t c) (hk : ∃ k nm ns, t = .mk k nm ns [t0]) : ∃ g o c0, c.ak = some ⟨g, o, none⟩ ∧ c.lk = 1 ∧ S g ∧ TzV w S t0 c0 ∧ ∀ W : World, W.heap[g]? = w.heap[g]? → W.cell? ⟨g, o, none⟩ = some (.int .i64 c0.k) ∧ W.cell? ⟨g, o + 1, none⟩ = some (.string c0.n) ∧ W.cell? ⟨g, o + 2, none⟩ = some (.slice c0.an c0.ln c0.cn) ∧ W.cell? ⟨g, o + 3, none⟩ = some (.slice c0.ak c0.lk c0.ck) := by
  obtain ⟨k, nm, ns, rfl⟩ := hk
  cases h with
  | mk _ _ _ _ an cn ak ck us hl hn hk hu =>
  obtain ⟨c0, rfl⟩ : ∃ c0, us = [c0] := by
    match us, hl with
    | [c0], _ => exact ⟨c0, rfl⟩
  obtain ⟨g, o, ha, hg, hc⟩ := cells_kid hk 0 (by simp)
  exact ⟨g, o, c0, ha, rfl, hg, hu 0 (by simp) (by simp), fun W hW => by have := hc W hW; simpa using this⟩
theorem pre_at {T T' : List Kz} (hp : T <+: T') {i : Nat} (hi : i < T.length) : ∃ h : i < T'.length, T'[i] = T[i] := by
  obtain ⟨r, rfl⟩ := hp
  exact ⟨by simp; omega, List.getElem_append_left hi⟩
theorem kid_row {w Wn : World} {lo hi : Nat} {t : Tz} {c : C4} {W5 : World} (k : Int) (hV : TzV W5 (fun g => lo ≤ g ∧ g < hi) t c) (hk : ∀ g, lo ≤ g → g < hi → w.heap[g]? = W5.heap[g]?) (hh : hi ≤ w.heap.size) (hw : Wn = w.alloc (.cells #[.int .i64 c.k, .string c.n, .slice c.an c.ln c.cn, .slice c.ak c.lk c.ck] 31)) :
    TzV Wn (fun g => (lo ≤ g ∧ g < hi) ∨ (w.heap.size ≤ g ∧ g < Wn.heap.size)) (.mk k [] [] [t]) ⟨k, ⟨#[]⟩, none, 0, 0, some ⟨w.heap.size, 0, none⟩, 1, 1⟩ := by
  subst hw
  refine TzV.kidN (ty := 31) (fr := (0, 0)) k (heap_alloc_new w _) (.inr ⟨Nat.le_refl _, by simp⟩) (hV.keep (fun g hg => .inl hg) (fun g hg => ?_))
  exact (Below.heap_alloc _ _ _ (by omega)).trans (hk g hg.1 hg.2)
set_option maxHeartbeats 16000000 in
theorem SubKinds_any (r q : Rw) (cr cq : R4) (w : World) (hR : RwV w r cr) (hQ : RwV w q cq) :
    Calls Try.prog 4 #[.agg #[.int .i64 cr.k, .int .i64 cr.n, .slice cr.an cr.ln cr.cn, .slice cr.ak cr.lk cr.ck], .agg #[.int .i64 cq.k, .int .i64 cq.n, .slice cq.an cq.ln cq.cn, .slice cq.ak cq.lk cq.ck]] w fun e w' => e = .returned (.bool true) ∧ Below w.heap.size w w' := by
  obtain ⟨W0, hW0⟩ : ∃ W0, W0 = (w.alloc (.cells #[.int .i64 cr.k, .int .i64 cr.n, .slice cr.an cr.ln cr.cn, .slice cr.ak cr.lk cr.ck] 45)).alloc (.cells #[.int .i64 cq.k, .int .i64 cq.n, .slice cq.an cq.ln cq.cn, .slice cq.ak cq.lk cq.ck] 45) := ⟨_, rfl⟩
  have qm := made (l := [_, _]) hW0
  have hb0 : Below w.heap.size w W0 := by rw [hW0]; exact ((Below.refl _ _).alloc (Nat.le_refl _) _).alloc (by simp) _
  have hz0 : W0.heap.size = w.heap.size + 2 := by rw [hW0]; simp
  have hr0 : W0.heap[w.heap.size]? = some (.cells #[.int .i64 cr.k, .int .i64 cr.n, .slice cr.an cr.ln cr.cn, .slice cr.ak cr.lk cr.ck] 45 (0, 0)) := qm 0 _ rfl
  have hq0 : W0.heap[w.heap.size + 1]? = some (.cells #[.int .i64 cq.k, .int .i64 cq.n, .slice cq.an cq.ln cq.cn, .slice cq.ak cq.lk cq.ck] 45 (0, 0)) := qm 1 _ rfl
  have HW0 := Lib.hid hW0; have HB0 := Lib.hid hb0; have HR0 := Lib.hid hr0; have HQ0 := Lib.hid hq0; have HZ0 := Lib.hid hz0
  have CR : ∀ W, Below w.heap.size w W → Calls Try.prog 14 #[.agg #[.int .i64 cr.k, .int .i64 cr.n, .slice cr.an cr.ln cr.cn, .slice cr.ak cr.lk cr.ck], .int .i64 30] W fun e w' => e = .returned (.int .i64 (fewR r 30)) ∧ Below W.heap.size W w' := fun W hW => Few_any r cr 30 W (hR.later hW) ⟨by omega, by omega⟩
  have CQ : ∀ W, Below w.heap.size w W → Calls Try.prog 14 #[.agg #[.int .i64 cq.k, .int .i64 cq.n, .slice cq.an cq.ln cq.cn, .slice cq.ak cq.lk cq.ck], .int .i64 30] W fun e w' => e = .returned (.int .i64 (fewR q 30)) ∧ Below W.heap.size W w' := fun W hW => Few_any q cq 30 W (hQ.later hW) ⟨by omega, by omega⟩
  have TR : ∀ W, Below w.heap.size w W → Calls Try.prog 15 #[.agg #[.int .i64 cr.k, .int .i64 cr.n, .slice cr.an cr.ln cr.cn, .slice cr.ak cr.lk cr.ck], .int .i64 3, .slice none 0 0] W (TreeP (treeR [] 3 r) W) := fun W hW => Tree_any 3 (by omega) r cr [] none 0 W (hR.later hW) (.inl rfl) (by simp)
  have TQ : ∀ W, Below w.heap.size w W → Calls Try.prog 15 #[.agg #[.int .i64 cq.k, .int .i64 cq.n, .slice cq.an cq.ln cq.cn, .slice cq.ak cq.lk cq.ck], .int .i64 3, .slice none 0 0] W (TreeP (treeR [] 3 q) W) := fun W hW => Tree_any 3 (by omega) q cq [] none 0 W (hQ.later hW) (.inl rfl) (by simp)
  have sx : fitZ (treeR [] 3 r) = true ∧ shortZ (treeR [] 3 r) = true ∧ sizeZ (treeR [] 3 r) ≤ 399 := ⟨treeR_fit [] (fun n hn => by cases hn) 3 r, treeR_short [] (fun n hn => by cases hn) 3 r, Nat.le_trans (treeR_good [] 3 r).2 (by decide)⟩
  have sy : fitZ (treeR [] 3 q) = true ∧ shortZ (treeR [] 3 q) = true ∧ sizeZ (treeR [] 3 q) ≤ 399 := ⟨treeR_fit [] (fun n hn => by cases hn) 3 q, treeR_short [] (fun n hn => by cases hn) 3 q, Nat.le_trans (treeR_good [] 3 q).2 (by decide)⟩
  have HCR := Lib.hid CR; have HCQ := Lib.hid CQ; have HTR0 := Lib.hid TR; have HTQ0 := Lib.hid TQ; have HSX := Lib.hid sx; have HSY := Lib.hid sy
  clear qm hW0 hb0 hr0 hq0 hz0 CR CQ TR TQ sx sy hR hQ
  generalize treeR [] 3 r = X at *
  generalize treeR [] 3 q = Y at *
  go_enter Try.func4, Try.ntmps4
  go_upto_region 1 with fail
  rw [← HW0.out]
  clear HW0
  go_upto_region 3 with (go_at_call 8; (with_reducible refine (known6_any _).mono ?_); rintro e w1 ⟨rfl, x1⟩; have HX1 := Lib.hid (HB0.out.trans (x1.mono (by have := HZ0.out; omega))); have HR1 := Lib.hid ((x1.block _ (by have := HZ0.out; omega)).trans HR0.out); have HQ1 := Lib.hid ((x1.block _ (by have := HZ0.out; omega)).trans HQ0.out); have hz1 : w.heap.size + 2 ≤ w1.heap.size := (by have := x1.size; have := HZ0.out; omega); clear x1)
  obtain ⟨⟨p0, p1, p2, p3⟩, -⟩ := four_blk HR1.out
  by_cases h1 : fewR r 30 = 0
  · have HC1 := Lib.hid (HCR.out w1 HX1.out)
    rw [h1] at HC1
    go_wp2_with (go_at_call 14; (with_reducible refine HC1.out.mono ?_); rintro e w2 ⟨rfl, x2⟩; have HX2 := Lib.hid x2; clear x2)
    go_ret
    exact ⟨rfl, HX1.out.trans (HX2.out.mono (by omega))⟩
  · have HC1 := Lib.hid (HCR.out w1 HX1.out)
    have t1 : (fewR r 30 == 0) = false := by simpa using h1
    generalize fewR r 30 = f1 at *
    by_cases h2 : fewR q 30 = 0
    · rw [h2] at HCQ
      go_wp2_with (first
        | (go_at_call 14; (with_reducible refine HC1.out.mono ?_); rintro e w2 ⟨rfl, x2⟩; have hz2 := x2.size; obtain ⟨⟨q0, q1, q2, q3⟩, -⟩ := four_blk ((x2.block _ (by omega)).trans HQ1.out); have HX2 := Lib.hid (HX1.out.trans (x2.mono (by omega))); clear x2)
        | (go_at_call 14; (with_reducible refine (HCQ.out _ HX2.out).mono ?_); rintro e w3 ⟨rfl, x3⟩; have HX3 := Lib.hid (HX2.out.trans (x3.mono (by omega))); clear x3))
      go_ret
      exact ⟨rfl, HX3.out⟩
    · have t2 : (fewR q 30 == 0) = false := by simpa using h2
      generalize fewR q 30 = f2 at *
      go_upto_region 5 with (first
        | (go_at_call 14; (with_reducible refine HC1.out.mono ?_); rintro e w2 ⟨rfl, x2⟩; have hz2 := x2.size; obtain ⟨⟨q0, q1, q2, q3⟩, -⟩ := four_blk ((x2.block _ (by omega)).trans HQ1.out); have HX2 := Lib.hid (HX1.out.trans (x2.mono (by omega))); have HR2 := Lib.hid ((x2.block _ (by omega)).trans HR1.out); have HQ2 := Lib.hid ((x2.block _ (by omega)).trans HQ1.out); clear x2)
        | (go_at_call 14; (with_reducible refine (HCQ.out _ HX2.out).mono ?_); rintro e w3 ⟨rfl, x3⟩; have hz3 := x3.size; have HX3 := Lib.hid (HX2.out.trans (x3.mono (by omega))); have HR3 := Lib.hid ((x3.block _ (by omega)).trans HR2.out); have HQ3 := Lib.hid ((x3.block _ (by omega)).trans HQ2.out); clear x3))
      clear p0 p1 p2 p3 q0 q1 q2 q3
      go_upto_region 6 with (go_at_call 9; (refine (newI_any _).mono ?_); rintro e w4 ⟨tb, rb, nb, mb, sb, ty, nu, vs, rfl, s4, x4⟩; have hz4 := x4.size; have HS4 := Lib.hid s4; have HX4 := Lib.hid (HX3.out.trans (x4.mono (by omega))); have HRB := Lib.hid ((x4.block _ (by omega)).trans HR3.out); have HQB := Lib.hid ((x4.block _ (by omega)).trans HQ3.out); clear s4 x4)
      have HRBL : w.heap.size < w4.drew.heap.size := blk_lt HRB.out
      have HQBL : w.heap.size + 1 < w4.drew.heap.size := blk_lt HQB.out
      have HTR : Hid (∀ v, Below w4.drew.heap.size w4.drew v → _) := fun v hv => HTR0.out v (HX4.out.drew.trans (hv.mono HX4.out.size))
      have HTQ : Hid (∀ v, Below w4.drew.heap.size w4.drew v → _) := fun v hv => HTQ0.out v (HX4.out.drew.trans (hv.mono HX4.out.size))
      clear HTR0 HTQ0 HCR HCQ HC1 HR0 HQ0 HR1 HQ1 HR2 HQ2 HR3 HQ3 t1 t2 h1 h2
      refine wp_region_by (QJ (fun (x : Kx) qq => match qq with | 0 => .agg #[.int .i64 cr.k, .int .i64 cr.n, .slice cr.an cr.ln cr.cn, .slice cr.ak cr.lk cr.ck] | 1 => .agg #[.int .i64 x.cx.k, .string x.cx.n, .slice x.cx.an x.cx.ln x.cx.cn, .slice x.cx.ak x.cx.lk x.cx.ck] | 2 => .agg #[.int .i64 cq.k, .int .i64 cq.n, .slice cq.an cq.ln cq.cn, .slice cq.ak cq.lk cq.ck] | 3 => .agg #[.int .i64 x.cy.k, .string x.cy.n, .slice x.cy.an x.cy.ln x.cy.cn, .slice x.cy.ak x.cy.lk x.cy.ck] | 4 => .pointer (some ⟨x.xb, 0, none⟩) | 5 => .pointer (some ⟨x.yb, 0, none⟩) | 6 => undef | 7 => undef | _ => undef) (fun x listed v => KmM w4.drew X Y (listed.getD 1 false) (listed.getD 3 false) (listed.getD 4 false) (listed.getD 5 false) (listed.getD 6 false) (listed.getD 7 false) x v)) (by kernel_rfl) ?_ ?_ ?_
      · exact ⟨by simp, Closed.start _, ⟨0, 0, zC, zC⟩, Fr.start _ _ _, by simp only [rep_getDL]; exact KmM.start (W0 := w4.drew) _⟩
      · intro listed b v q hJ hi
        obtain ⟨hsz, hC, x, hF, hM⟩ := hJ
        have hMb : KmM w4.drew X Y (listed.getD 1 false) (listed.getD 3 false) (listed.getD 4 false) (listed.getD 5 false) (listed.getD 6 false) (listed.getD 7 false) x v := hM
        obtain ⟨hl1, hiN⟩ := not_up hsz hi
        obtain ⟨_, o, ho, hdeps⟩ := mem_ready.1 hi
        have hiN : q < 8 := hiN
        obtain rfl | rfl | rfl | rfl | rfl | rfl | rfl | rfl : q = 0 ∨ q = 1 ∨ q = 2 ∨ q = 3 ∨ q = 4 ∨ q = 5 ∨ q = 6 ∨ q = 7 := by omega
        · cases ho
          obtain ⟨⟨r0, r1, r2, r3⟩, -⟩ := four_blk ((hMb.below.block (w.heap.size) HRBL).trans HRB.out)
          have e2 := hF.old_is 2 (by rfl) rfl
          refine QJ.quiet (x := x) hsz hC hi hF (Slots.of (by rfl)) rfl (wanted_none rfl) (show KmM w4.drew X Y ((listed.setIfInBounds 0 true).getD 1 false) ((listed.setIfInBounds 0 true).getD 3 false) ((listed.setIfInBounds 0 true).getD 4 false) ((listed.setIfInBounds 0 true).getD 5 false) ((listed.setIfInBounds 0 true).getD 6 false) ((listed.setIfInBounds 0 true).getD 7 false) x v by rw [getD_setN (show 0 ≠ 1 by decide), getD_setN (show 0 ≠ 3 by decide), getD_setN (show 0 ≠ 4 by decide), getD_setN (show 0 ≠ 5 by decide), getD_setN (show 0 ≠ 6 by decide), getD_setN (show 0 ≠ 7 by decide)]; exact hMb) ?_
          show _ = Result.ok (Next.value (.agg #[.int .i64 cr.k, .int .i64 cr.n, .slice cr.an cr.ln cr.cn, .slice cr.ak cr.lk cr.ck])) v
          simp [execOp, go_sem, e2, r0, r1, r2, r3]
        · cases ho
          have l6 : listed.getD 6 false = false := by
            cases hh : listed.getD 6 false
            · rfl
            · have y0 := hC 6 _ rfl hh ⟨1, .data⟩ (by simp) rfl; rw [hl1] at y0; cases y0
          have e44 : b.tmps[44]? = some (.agg #[.int .i64 cr.k, .int .i64 cr.n, .slice cr.an cr.ln cr.cn, .slice cr.ak cr.lk cr.ck]) := hF.up 0 44 rfl (hdeps ⟨0, .data⟩ (by simp) rfl)
          refine QJ.call (x := x) (f := 15) (args := #[.agg #[.int .i64 cr.k, .int .i64 cr.n, .slice cr.an cr.ln cr.cn, .slice cr.ak cr.lk cr.ck], .int .i64 3, .slice none 0 0]) hsz hC hi hF (Slots.of (by rfl)) rfl (wanted_none rfl) (by simp [execOp, go_sem, e44]) (HTR.out v hMb.below) ?_
          rintro e w' ⟨c, rfl, hk, hb⟩
          have a := hMb
          rw [hl1, l6] at a
          exact ⟨⟨x.xb, x.yb, c, x.cy⟩, rfl, (fun q hq => match q, (show q ≠ 1 by rintro rfl; rw [hl1] at hq; cases hq) with | 0, _ => rfl | 1, h => absurd rfl h | 2, _ => rfl | 3, _ => rfl | 4, _ => rfl | 5, _ => rfl | 6, _ => rfl | 7, _ => rfl | _ + 8, _ => rfl), (show KmM w4.drew X Y ((listed.setIfInBounds 1 true).getD 1 false) ((listed.setIfInBounds 1 true).getD 3 false) ((listed.setIfInBounds 1 true).getD 4 false) ((listed.setIfInBounds 1 true).getD 5 false) ((listed.setIfInBounds 1 true).getD 6 false) ((listed.setIfInBounds 1 true).getD 7 false) ⟨x.xb, x.yb, c, x.cy⟩ w' by rw [getD_setS (by rw [hsz]; decide), getD_setN (show 1 ≠ 3 by decide), getD_setN (show 1 ≠ 4 by decide), getD_setN (show 1 ≠ 5 by decide), getD_setN (show 1 ≠ 6 by decide), getD_setN (show 1 ≠ 7 by decide), l6]; exact a.callX hk hb)⟩
        · cases ho
          obtain ⟨⟨r0, r1, r2, r3⟩, -⟩ := four_blk ((hMb.below.block (w.heap.size + 1) HQBL).trans HQB.out)
          have e3 := hF.old_is 3 (by rfl) rfl
          refine QJ.quiet (x := x) hsz hC hi hF (Slots.of (by rfl)) rfl (wanted_none rfl) (show KmM w4.drew X Y ((listed.setIfInBounds 2 true).getD 1 false) ((listed.setIfInBounds 2 true).getD 3 false) ((listed.setIfInBounds 2 true).getD 4 false) ((listed.setIfInBounds 2 true).getD 5 false) ((listed.setIfInBounds 2 true).getD 6 false) ((listed.setIfInBounds 2 true).getD 7 false) x v by rw [getD_setN (show 2 ≠ 1 by decide), getD_setN (show 2 ≠ 3 by decide), getD_setN (show 2 ≠ 4 by decide), getD_setN (show 2 ≠ 5 by decide), getD_setN (show 2 ≠ 6 by decide), getD_setN (show 2 ≠ 7 by decide)]; exact hMb) ?_
          show _ = Result.ok (Next.value (.agg #[.int .i64 cq.k, .int .i64 cq.n, .slice cq.an cq.ln cq.cn, .slice cq.ak cq.lk cq.ck])) v
          simp [execOp, go_sem, e3, r0, r1, r2, r3]
        · cases ho
          have l7 : listed.getD 7 false = false := by
            cases hh : listed.getD 7 false
            · rfl
            · have y0 := hC 7 _ rfl hh ⟨3, .data⟩ (by simp) rfl; rw [hl1] at y0; cases y0
          have e46 : b.tmps[46]? = some (.agg #[.int .i64 cq.k, .int .i64 cq.n, .slice cq.an cq.ln cq.cn, .slice cq.ak cq.lk cq.ck]) := hF.up 2 46 rfl (hdeps ⟨2, .data⟩ (by simp) rfl)
          refine QJ.call (x := x) (f := 15) (args := #[.agg #[.int .i64 cq.k, .int .i64 cq.n, .slice cq.an cq.ln cq.cn, .slice cq.ak cq.lk cq.ck], .int .i64 3, .slice none 0 0]) hsz hC hi hF (Slots.of (by rfl)) rfl (wanted_none rfl) (by simp [execOp, go_sem, e46]) (HTQ.out v hMb.below) ?_
          rintro e w' ⟨c, rfl, hk, hb⟩
          have a := hMb
          rw [hl1, l7] at a
          exact ⟨⟨x.xb, x.yb, x.cx, c⟩, rfl, (fun q hq => match q, (show q ≠ 3 by rintro rfl; rw [hl1] at hq; cases hq) with | 0, _ => rfl | 1, _ => rfl | 2, _ => rfl | 3, h => absurd rfl h | 4, _ => rfl | 5, _ => rfl | 6, _ => rfl | 7, _ => rfl | _ + 8, _ => rfl), (show KmM w4.drew X Y ((listed.setIfInBounds 3 true).getD 1 false) ((listed.setIfInBounds 3 true).getD 3 false) ((listed.setIfInBounds 3 true).getD 4 false) ((listed.setIfInBounds 3 true).getD 5 false) ((listed.setIfInBounds 3 true).getD 6 false) ((listed.setIfInBounds 3 true).getD 7 false) ⟨x.xb, x.yb, x.cx, c⟩ w' by rw [getD_setS (by rw [hsz]; decide), getD_setN (show 3 ≠ 1 by decide), getD_setN (show 3 ≠ 4 by decide), getD_setN (show 3 ≠ 5 by decide), getD_setN (show 3 ≠ 6 by decide), getD_setN (show 3 ≠ 7 by decide), l7]; exact a.callY hk hb)⟩
        · cases ho

          have l6 : listed.getD 6 false = false := by
            cases hh : listed.getD 6 false
            · rfl
            · have y0 := hC 6 _ rfl hh ⟨4, .data⟩ (by simp) rfl; rw [hl1] at y0; cases y0
          have l7 : listed.getD 7 false = false := by
            cases hh : listed.getD 7 false
            · rfl
            · have y0 := hC 7 _ rfl hh ⟨4, .phase⟩ (by simp) rfl; rw [hl1] at y0; cases y0
          have a := hMb
          rw [hl1, l6, l7] at a
          refine QJ.make (v' := v.alloc (.cells (arr4 zC) 31)) (x := x) (x' := ⟨v.heap.size, x.yb, x.cx, x.cy⟩) hsz hC hi hF (Slots.of (by rfl)) rfl (wanted_none rfl) (fun q hq => match q, (show q ≠ 4 by rintro rfl; rw [hl1] at hq; cases hq) with | 0, _ => rfl | 1, _ => rfl | 2, _ => rfl | 3, _ => rfl | 4, h => absurd rfl h | 5, _ => rfl | 6, _ => rfl | 7, _ => rfl | _ + 8, _ => rfl) (show KmM w4.drew X Y ((listed.setIfInBounds 4 true).getD 1 false) ((listed.setIfInBounds 4 true).getD 3 false) ((listed.setIfInBounds 4 true).getD 4 false) ((listed.setIfInBounds 4 true).getD 5 false) ((listed.setIfInBounds 4 true).getD 6 false) ((listed.setIfInBounds 4 true).getD 7 false) ⟨v.heap.size, x.yb, x.cx, x.cy⟩ (v.alloc (.cells (arr4 zC) 31)) by rw [getD_setS (by rw [hsz]; decide), getD_setN (show 4 ≠ 1 by decide), getD_setN (show 4 ≠ 3 by decide), getD_setN (show 4 ≠ 5 by decide), getD_setN (show 4 ≠ 6 by decide), getD_setN (show 4 ≠ 7 by decide), l6, l7]; exact a.mkX) ?_
          show _ = Result.ok (Next.value (.pointer (some ⟨v.heap.size, 0, none⟩))) _
          simp [execOp, go_sem, arr4, zC]
        · cases ho

          have l6 : listed.getD 6 false = false := by
            cases hh : listed.getD 6 false
            · rfl
            · have y0 := hC 6 _ rfl hh ⟨5, .phase⟩ (by simp) rfl; rw [hl1] at y0; cases y0
          have l7 : listed.getD 7 false = false := by
            cases hh : listed.getD 7 false
            · rfl
            · have y0 := hC 7 _ rfl hh ⟨5, .data⟩ (by simp) rfl; rw [hl1] at y0; cases y0
          have a := hMb
          rw [hl1, l6, l7] at a
          refine QJ.make (v' := v.alloc (.cells (arr4 zC) 31)) (x := x) (x' := ⟨x.xb, v.heap.size, x.cx, x.cy⟩) hsz hC hi hF (Slots.of (by rfl)) rfl (wanted_none rfl) (fun q hq => match q, (show q ≠ 5 by rintro rfl; rw [hl1] at hq; cases hq) with | 0, _ => rfl | 1, _ => rfl | 2, _ => rfl | 3, _ => rfl | 4, _ => rfl | 5, h => absurd rfl h | 6, _ => rfl | 7, _ => rfl | _ + 8, _ => rfl) (show KmM w4.drew X Y ((listed.setIfInBounds 5 true).getD 1 false) ((listed.setIfInBounds 5 true).getD 3 false) ((listed.setIfInBounds 5 true).getD 4 false) ((listed.setIfInBounds 5 true).getD 5 false) ((listed.setIfInBounds 5 true).getD 6 false) ((listed.setIfInBounds 5 true).getD 7 false) ⟨x.xb, v.heap.size, x.cx, x.cy⟩ (v.alloc (.cells (arr4 zC) 31)) by rw [getD_setS (by rw [hsz]; decide), getD_setN (show 5 ≠ 1 by decide), getD_setN (show 5 ≠ 3 by decide), getD_setN (show 5 ≠ 4 by decide), getD_setN (show 5 ≠ 6 by decide), getD_setN (show 5 ≠ 7 by decide), l6, l7]; exact a.mkY) ?_
          show _ = Result.ok (Next.value (.pointer (some ⟨v.heap.size, 0, none⟩))) _
          simp [execOp, go_sem, arr4, zC]
        · cases ho
          have l1 := hdeps ⟨1, .data⟩ (by simp) rfl
          have l3 := hdeps ⟨3, .chain⟩ (by simp) rfl
          have l4 := hdeps ⟨4, .data⟩ (by simp) rfl
          have l5 := hdeps ⟨5, .phase⟩ (by simp) rfl
          have l7 : listed.getD 7 false = false := by
            cases hh : listed.getD 7 false
            · rfl
            · have y0 := hC 7 _ rfl hh ⟨6, .chain⟩ (by simp) rfl; rw [hl1] at y0; cases y0
          have a := hMb
          rw [l1, l3, l4, l5, hl1, l7] at a
          have tt := (a.bx rfl).2
          simp only [arr4, Bool.false_eq_true, if_false] at tt
          obtain ⟨⟨z0, z1, z2, z3⟩, ⟨f0, f1, f2, f3⟩⟩ := four_blk tt
          have e7 : b.tmps[7]? = some (.pointer (some ⟨x.xb, 0, none⟩)) := hF.up 4 7 rfl (hdeps ⟨4, .data⟩ (by simp) rfl)
          have e45 : b.tmps[45]? = some (.agg #[.int .i64 x.cx.k, .string x.cx.n, .slice x.cx.an x.cx.ln x.cx.cn, .slice x.cx.ak x.cx.lk x.cx.ck]) := hF.up 1 45 rfl (hdeps ⟨1, .data⟩ (by simp) rfl)
          refine QJ.store (v' := put4 v x.xb x.cx) (x := x) hsz hC hi hF (Slots.of (by rfl)) rfl rfl (wanted_none rfl) (show KmM w4.drew X Y ((listed.setIfInBounds 6 true).getD 1 false) ((listed.setIfInBounds 6 true).getD 3 false) ((listed.setIfInBounds 6 true).getD 4 false) ((listed.setIfInBounds 6 true).getD 5 false) ((listed.setIfInBounds 6 true).getD 6 false) ((listed.setIfInBounds 6 true).getD 7 false) x (put4 v x.xb x.cx) by rw [getD_setS (by rw [hsz]; decide), getD_setN (show 6 ≠ 1 by decide), getD_setN (show 6 ≠ 3 by decide), getD_setN (show 6 ≠ 4 by decide), getD_setN (show 6 ≠ 5 by decide), getD_setN (show 6 ≠ 7 by decide), l1, l3, l4, l5, l7]; exact a.putX) ?_
          unfold put4
          simp [execOp, go_sem, e7, e45, z0, z1, z2, z3, f0, f1, f2, f3]
        · cases ho
          have l1 := hdeps ⟨1, .phase⟩ (by simp) rfl
          have l3 := hdeps ⟨3, .data⟩ (by simp) rfl
          have l4 := hdeps ⟨4, .phase⟩ (by simp) rfl
          have l5 := hdeps ⟨5, .data⟩ (by simp) rfl
          have l6 := hdeps ⟨6, .chain⟩ (by simp) rfl
          have a := hMb
          rw [l1, l3, l4, l5, l6, hl1] at a
          have tt := (a.bY rfl).2
          simp only [arr4, Bool.false_eq_true, if_false] at tt
          obtain ⟨⟨z0, z1, z2, z3⟩, ⟨f0, f1, f2, f3⟩⟩ := four_blk tt
          have e8 : b.tmps[8]? = some (.pointer (some ⟨x.yb, 0, none⟩)) := hF.up 5 8 rfl (hdeps ⟨5, .data⟩ (by simp) rfl)
          have e47 : b.tmps[47]? = some (.agg #[.int .i64 x.cy.k, .string x.cy.n, .slice x.cy.an x.cy.ln x.cy.cn, .slice x.cy.ak x.cy.lk x.cy.ck]) := hF.up 3 47 rfl (hdeps ⟨3, .data⟩ (by simp) rfl)
          refine QJ.store (v' := put4 v x.yb x.cy) (x := x) hsz hC hi hF (Slots.of (by rfl)) rfl rfl (wanted_none rfl) (show KmM w4.drew X Y ((listed.setIfInBounds 7 true).getD 1 false) ((listed.setIfInBounds 7 true).getD 3 false) ((listed.setIfInBounds 7 true).getD 4 false) ((listed.setIfInBounds 7 true).getD 5 false) ((listed.setIfInBounds 7 true).getD 6 false) ((listed.setIfInBounds 7 true).getD 7 false) x (put4 v x.yb x.cy) by rw [getD_setS (by rw [hsz]; decide), getD_setN (show 7 ≠ 1 by decide), getD_setN (show 7 ≠ 3 by decide), getD_setN (show 7 ≠ 4 by decide), getD_setN (show 7 ≠ 5 by decide), getD_setN (show 7 ≠ 6 by decide), l1, l3, l4, l5, l6]; exact a.putY) ?_
          unfold put4
          simp [execOp, go_sem, e8, e47, z0, z1, z2, z3, f0, f1, f2, f3]
      · intro listed b W5 hJ hr'
        obtain ⟨hsz, hC, xx, hF, hM⟩ := hJ
        have hall := all_upB2 (by rfl) hsz hr'
        have hMb : KmM w4.drew X Y true true true true true true xx W5 := by
          have h : KmM w4.drew X Y (listed.getD 1 false) (listed.getD 3 false) (listed.getD 4 false) (listed.getD 5 false) (listed.getD 6 false) (listed.getD 7 false) xx W5 := hM
          rw [hall 1 (by decide), hall 3 (by decide), hall 4 (by decide), hall 5 (by decide), hall 6 (by decide), hall 7 (by decide)] at h
          exact h
        have hb : b = putAll _ _ _ 8 := hF.done (Slots.of (by rfl)) hall
        subst hb
        simp only [putAll]
        simp [dstOf, Act.put]
        have HD := Lib.hid hMb
        clear hM hF hC hall hr' hsz hMb
        obtain ⟨xb, yb, cx, cy⟩ := xx
        have hB4 : Below w4.heap.size w4 W5 := (Below.refl _ _).drew.trans HD.out.below
        obtain ⟨hx1, hx2⟩ := HD.out.bx rfl
        obtain ⟨hy1, hy2⟩ := HD.out.bY rfl
        simp only [if_true, arr4] at hx2 hy2
        have hvx : TzV W5 (fun g => w4.heap.size ≤ g ∧ g < W5.heap.size) X cx := (HD.out.tx rfl).keep (fun g hg => ⟨hg.1, hg.2.1⟩) (fun _ _ => rfl)
        have hvy : TzV W5 (fun g => w4.heap.size ≤ g ∧ g < W5.heap.size) Y cy := (HD.out.ty rfl).keep (fun g hg => ⟨hg.1, hg.2.1⟩) (fun _ _ => rfl)
        have hw : w.heap.size ≤ w3.heap.size := HX3.out.size
        have hK : KdS w W5 w3.heap.size w4.heap.size W5.heap.size tb rb nb mb sb ty nu [⟨2, [], [], []⟩] [⟨2, [], [], []⟩] vs W5 :=
          ⟨HS4.out.below hB4, fun g ho => .inl (HS4.out.tab.lt ho), fun _ _ _ => rfl, Nat.le_refl _, by have := hB4.size; omega, HX4.out.trans (hB4.mono HX4.out.size), new_good, List.prefix_refl _⟩
        have HCX : Hid (∀ W : World, (∀ g, w4.heap.size ≤ g → g < W5.heap.size → W.heap[g]? = W5.heap[g]?) → W.heap[xb]? = some (.cells #[.int .i64 cx.k, .string cx.n, .slice cx.an cx.ln cx.cn, .slice cx.ak cx.lk cx.ck] 31 (0, 0))) := fun W hW => (hW xb hx1 (blk_lt hx2)).trans hx2
        have HCY : Hid (∀ W : World, (∀ g, w4.heap.size ≤ g → g < W5.heap.size → W.heap[g]? = W5.heap[g]?) → W.heap[yb]? = some (.cells #[.int .i64 cy.k, .string cy.n, .slice cy.an cy.ln cy.cn, .slice cy.ak cy.lk cy.ck] 31 (0, 0))) := fun W hW => (hW yb hy1 (blk_lt hy2)).trans hy2
        have hkx : cx.k = X.kind := tzv_kind hvx
        have hky : cy.k = Y.kind := tzv_kind hvy
        obtain ⟨⟨i, e, T1⟩, ha⟩ : ∃ a, addK (hasZ ([] : List NN)) [⟨2, [], [], []⟩] X = a := ⟨_, rfl⟩
        have hg1 := add_good new_good X
        rw [ha] at hg1
        obtain ⟨⟨j, f, T2⟩, hb⟩ : ∃ a, addK (hasZ ([] : List NN)) T1 Y = a := ⟨_, rfl⟩
        have hg2 := add_good hg1.1 Y
        rw [hb] at hg2
        have CA := hK.add hw (Below.refl _ _) HSX.out.1 HSX.out.2.1 hvx (fun g hg => .inl hg) ha hg1.1 hg1.2
        have HCA := Lib.hid CA; have HVX := Lib.hid hvx; have HVY := Lib.hid hvy; have HG1 := Lib.hid hg1; have HG2 := Lib.hid hg2; have HA := Lib.hid ha; have HB := Lib.hid hb; have HKX := Lib.hid hkx; have HKY := Lib.hid hky; have HW := Lib.hid hw
        obtain ⟨⟨x0, x1, x2, x3⟩, -⟩ := four_blk hx2
        clear CA hvx hvy hg1 hg2 ha hb hkx hky hw hK hB4 hx1 hx2 hy1 hy2 HD HRB HQB HTR HTQ HS4
        go_upto_region 8 with (go_at_call 11; (refine HCA.out.mono ?_); rintro en w6 ⟨rb6, nb6, ty6, nu6, rfl, k6⟩; have HK6 := Lib.hid k6; clear k6)
        clear x0 x1 x2 x3 HCA
        obtain ⟨⟨y0, y1, y2, y3⟩, -⟩ := four_blk (HCY.out w6 HK6.out.keep)
        have CB := HK6.out.add HW.out (Below.refl _ _) HSY.out.1 HSY.out.2.1 (HVY.out.keep (fun _ h => h) (fun g hg => HK6.out.keep g hg.1 hg.2)) (fun g hg => .inl hg) HB.out HG2.out.1 HG2.out.2
        have HCB := Lib.hid CB
        clear CB
        go_upto_region 9 with (go_at_call 11; (refine HCB.out.mono ?_); rintro en w7 ⟨rb7, nb7, ty7, nu7, rfl, k7⟩; have HK7 := Lib.hid k7; clear k7)
        clear y0 y1 y2 y3 HCB HK6
        by_cases he : e = 0
        · subst he
          by_cases hf : f = 0
          · subst hf
            obtain ⟨-, -, -, -, il1, ti1⟩ := add_is new_good HA.out
            obtain ⟨-, -, -, pr2, jl, tj⟩ := add_is HG1.out.1 HB.out
            have il : i < T2.length := Nat.lt_of_lt_of_le il1 pr2.length_le
            have ti : typT T2 i = X := by rw [typT_prefix pr2 HG1.out.1.kids il1, ti1]
            have hK2 : KdS w W5 w3.heap.size w4.heap.size W5.heap.size tb rb7 nb7 mb sb ty7 nu7 T2 T2 vs w7 := ⟨HK7.out.st, HK7.out.own, HK7.out.keep, HK7.out.size, HK7.out.bs, HK7.out.below, HK7.out.good, List.prefix_refl _⟩
            have HN2 := Lib.hid (nice_of HK7.out.good)
            obtain ⟨is, his⟩ : ∃ b, b = fitT T2 i j := ⟨_, rfl⟩
            have HIS := Lib.hid his; have HK2 := Lib.hid hK2; have HTI := Lib.hid ti; have HTJ := Lib.hid tj
            clear his hK2 ti tj pr2 il1 ti1 HA HB HK7
            go_upto_region 12 with (go_at_call 13; (refine (HK2.out.le il jl).mono ?_); rintro en w8 ⟨n8, rfl, k8⟩; rw [← HIS.out]; have HK8 := Lib.hid k8; clear k8)
            obtain ⟨⟨x0, -, -, -⟩, -⟩ := four_blk (HCX.out w8 HK8.out.keep)
            obtain ⟨⟨y0, -, -, -⟩, -⟩ := four_blk (HCY.out w8 HK8.out.keep)
            have hkk : is = true → cx.k = cy.k ∨ cy.k = 6 := fun h => by
              rcases fit_kind il jl (HIS.out.symm.trans h) with h1 | h1
              · rw [← typT_kind HN2.out.kids il, ← typT_kind HN2.out.kids jl, HTI.out, HTJ.out] at h1
                exact .inl (by rw [HKX.out, HKY.out, h1])
              · rw [← typT_kind HN2.out.kids jl, HTJ.out] at h1
                exact .inr (by rw [HKY.out, h1])
            have HKK := Lib.hid hkk
            clear hkk
            go_cut [85] (fun s85 wx => s85 = .bool false ∧ w8 = wx)
            case first =>
              cases is with
              | false =>
                go_wp2
                go_meet
                case rel => exact ⟨rfl, rfl⟩
              | true =>
                rcases HKK.out rfl with h | h
                · rw [h] at x0
                  go_wp2
                  go_meet
                  case rel => exact ⟨rfl, rfl⟩
                · rw [h] at y0
                  by_cases h6 : cx.k = 6
                  · rw [h6] at x0
                    go_wp2
                    go_meet
                    case rel => exact ⟨rfl, rfl⟩
                  · go_wp2
                    go_meet
                    case rel => exact ⟨rfl, rfl⟩
            case rest =>
              obtain ⟨rfl, rfl⟩ := hcut
              clear x0 y0 HKK
              go_wp2_with fail
              go_loopw [15] (fun kv wr => ∃ (k : Int) (rb2 nb2 : Nat) (ty2 nu2 : Value) (T3 : List Kz), kv = .int .i64 k ∧ 4 ≤ k ∧ k ≤ 6 ∧ KdS w W5 w3.heap.size w4.heap.size W5.heap.size tb rb2 nb2 mb sb ty2 nu2 T2 T3 vs wr) (fun kv _ => 6 - (intOf kv).toNat)
              case atStart => exact ⟨4, _, _, _, _, _, rfl, by omega, by omega, HK8.out⟩
              case round =>
                obtain ⟨k, rb2, nb2, ty2, nu2, T3, rfl, hk4, hk6, hK3⟩ := hrel
                have HK3 := Lib.hid hK3
                have hl3 := hK3.pre.length_le
                clear hK3
                have hil3 : i < T3.length := by omega
                have hjl3 : j < T3.length := by omega
                have ti3 : typT T3 i = X := by rw [typT_prefix HK3.out.pre HN2.out.kids il, HTI.out]
                have tj3 : typT T3 j = Y := by rw [typT_prefix HK3.out.pre HN2.out.kids jl, HTJ.out]
                have hzw := HK3.out.size
                by_cases hk5 : k ≤ 5
                · have hk45 : k = 4 ∨ k = 5 := by omega
                  obtain ⟨p, e1, T4, ha1, hE1, hg4, hp4, hpl, hpk⟩ := add_one HK3.out.good hil3 ti3 HSX.out.2.2 hk45
                  have hjl4 : j < T4.length := by have := hp4.length_le; omega
                  obtain ⟨u, e2, T5, ha2, hE2, hg5, hp5, hul, huk⟩ := add_one hg4 hjl4 (by rw [typT_prefix hp4 HK3.out.good.kids hjl3, tj3]) HSY.out.2.2 hk45
                  have hpl5 : p < T5.length := by have := hp5.length_le; omega
                  have CA : ∀ Wn, Wn = wr.alloc (.cells #[.int .i64 cx.k, .string cx.n, .slice cx.an cx.ln cx.cn, .slice cx.ak cx.lk cx.ck] 31) → Calls Try.prog 11 #[.pointer (some ⟨tb, 0, none⟩), .agg #[.int .i64 k, .string ⟨#[]⟩, .slice none 0 0, .slice (some ⟨wr.heap.size, 0, none⟩) 1 1]] Wn _ := fun Wn hn =>
                    HK3.out.add HW.out (Wn := Wn) (by rw [hn]; exact (Below.refl _ _).alloc (Nat.le_refl _) _) (by simp [fitZ, fitZs, HSX.out.1]; unfold maxLen; omega) (by simp [shortZ, shortZs, HSX.out.2.1]) (c := ⟨k, ⟨#[]⟩, none, 0, 0, some ⟨wr.heap.size, 0, none⟩, 1, 1⟩) (kid_row k HVX.out HK3.out.keep hzw hn) (fun g hg => hg) ha1 hg4 hp4
                  have HCA := Lib.hid CA
                  obtain ⟨⟨x0, x1, x2, x3⟩, -⟩ := four_blk (HCX.out wr HK3.out.keep)
                  have HHA2 := Lib.hid ha2; have HE1 := Lib.hid hE1; have HE2 := Lib.hid hE2; have HG5 := Lib.hid hg5; have HP5 := Lib.hid hp5; have HP4 := Lib.hid hp4; have HPK := Lib.hid hpk; have HUK := Lib.hid huk; have HK45 := Lib.hid hk45
                  clear CA ha1 ha2 hE1 hE2 hg5 hp5 hg4 hp4 hpk huk hk45 ti3 tj3
                  go_upto_region 18 with (go_at_call 11; (refine (HCA.out _ rfl).mono ?_); rintro en w9 ⟨rb9, nb9, ty9, nu9, rfl, k9⟩; have HK9 := Lib.hid k9; clear k9)
                  clear x0 x1 x2 x3 HCA
                  have hzw9 := HK9.out.size
                  have CB : ∀ Wn, Wn = w9.alloc (.cells #[.int .i64 cy.k, .string cy.n, .slice cy.an cy.ln cy.cn, .slice cy.ak cy.lk cy.ck] 31) → Calls Try.prog 11 #[.pointer (some ⟨tb, 0, none⟩), .agg #[.int .i64 k, .string ⟨#[]⟩, .slice none 0 0, .slice (some ⟨w9.heap.size, 0, none⟩) 1 1]] Wn _ := fun Wn hn =>
                    HK9.out.add HW.out (Wn := Wn) (by rw [hn]; exact (Below.refl _ _).alloc (Nat.le_refl _) _) (by simp [fitZ, fitZs, HSY.out.1]; unfold maxLen; omega) (by simp [shortZ, shortZs, HSY.out.2.1]) (c := ⟨k, ⟨#[]⟩, none, 0, 0, some ⟨w9.heap.size, 0, none⟩, 1, 1⟩) (kid_row k HVY.out HK9.out.keep hzw9 hn) (fun g hg => hg) HHA2.out HG5.out HP5.out
                  have HCB := Lib.hid CB
                  obtain ⟨⟨y0, y1, y2, y3⟩, -⟩ := four_blk (HCY.out w9 HK9.out.keep)
                  clear CB
                  go_upto_region 19 with (go_at_call 11; (refine (HCB.out _ rfl).mono ?_); rintro en w10 ⟨rb10, nb10, ty10, nu10, rfl, k10⟩; have HK10 := Lib.hid k10; clear k10)
                  clear y0 y1 y2 y3 HCB
                  go_upto_region 20 with (go_at_call 13; (refine (HK10.out.le hpl5 hul).mono ?_); rintro en w11 ⟨n11, rfl, k11⟩; have HK11 := Lib.hid k11; clear k11)
                  by_cases he1 : e1 = 0
                  · by_cases he2 : e2 = 0
                    · have hle : fitT T5 p u = is := by
                        obtain ⟨hpx, pk1, pk2⟩ := HPK.out he1
                        obtain ⟨hux, uk1, uk2⟩ := HUK.out he2
                        obtain ⟨hp5', e5⟩ := pre_at HP5.out hpx
                        have hl5 := HP5.out.length_le
                        have h25 := HK11.out.pre.length_le
                        have hn5 := nice_of HG5.out
                        rw [fit_one hn5 (k := k) (by rcases HK45.out with h | h; exact .inl h; exact .inr (.inl h)) hp5' hux (i := i) (j := j) (by omega) (by omega) ⟨by rw [e5]; exact pk1, by rw [e5]; exact pk2⟩ ⟨uk1, uk2⟩, fitT_grow HN2.out HK11.out.pre il jl, HIS.out]
                      subst he1 he2
                      rw [hle]
                      clear hle HPK HUK
                      cases is <;> (
                        go_wp2
                        go_roundw
                        case rel => exact ⟨k + 1, _, _, _, _, _, by go_num, by omega, by omega, HK11.out⟩
                        case measure => simp [intOf]; omega)
                    · obtain rfl : e2 = 20 := HE2.out.resolve_left he2
                      subst he1
                      go_wp2
                      go_ret
                      exact ⟨rfl, HK11.out.below⟩
                  · obtain rfl : e1 = 20 := HE1.out.resolve_left he1
                    go_wp2
                    go_ret
                    exact ⟨rfl, HK11.out.below⟩
                · obtain rfl : k = 6 := by omega
                  obtain ⟨o, e3, T4, hn, hpo, hoo⟩ := opt_one HK3.out.good hjl3 (by rw [tj3]; exact HSY.out.2.2)
                  have HCO := Lib.hid (HK3.out.opt HW.out hjl3 hn)
                  have HOO := Lib.hid hoo; have HPO := Lib.hid hpo; have HTI3 := Lib.hid ti3
                  clear hn hoo hpo ti3 tj3
                  go_upto_region 23 with (go_at_call 12; (refine HCO.out.mono ?_); rintro en w9 ⟨rb9, nb9, ty9, nu9, rfl, s9, o9, k9, z9, b9, x9⟩; have HS9 := Lib.hid s9; have HO9 := Lib.hid o9; have HK9 := Lib.hid k9; have HX9 := Lib.hid x9; clear s9 o9 k9 x9)
                  by_cases he3 : e3 = 0
                  · obtain ⟨hg4, hol, ok1, ok2⟩ := HOO.out he3
                    subst he3
                    have K9 : KdS w W5 w3.heap.size w4.heap.size W5.heap.size tb rb9 nb9 mb sb ty9 nu9 T2 T4 vs w9 := ⟨HS9.out, HO9.out, HK9.out, z9, b9, HX9.out, hg4, HK3.out.pre.trans HPO.out⟩
                    have HK := Lib.hid K9
                    obtain ⟨⟨y0, -, -, -⟩, -⟩ := four_blk (HCY.out w9 K9.keep)
                    have hl4 := HPO.out.length_le
                    have hil4 : i < T4.length := by omega
                    have hjl4 : j < T4.length := by omega
                    have ti4 : typT T4 i = X := by rw [typT_prefix HPO.out HK3.out.good.kids hil3, HTI3.out]
                    have hn4 := nice_of hg4
                    by_cases h6 : cy.k = 6
                    · rw [h6] at y0
                      clear K9 ti4 hn4 hg4 hol ok1 ok2
                      go_wp2
                      go_ret
                      exact ⟨rfl, HK.out.below⟩
                    · have t6 : (cy.k == 6) = false := by simpa using h6
                      have hfit4 := K9.st.tab.fit
                      have HG4 := Lib.hid hg4; have HTI4 := Lib.hid ti4; have HN4 := Lib.hid hn4; have HOK : Hid (T4[o].kind = 6 ∧ T4[o].kids = [j]) := ⟨ok1, ok2⟩; have HFIT4 := Lib.hid hfit4
                      clear K9 ti4 hn4 hg4 ok1 ok2 HCO HOO HS9 HO9 HK9 HX9 hfit4
                      go_upto_region 26 with (go_at_call 13; (refine (HK.out.le hil4 hol).mono ?_); rintro en w10 ⟨n10, rfl, k10⟩; have HK10 := Lib.hid k10; clear k10)
                      clear y0 t6
                      obtain ⟨⟨x0, x1, x2, x3⟩, -⟩ := four_blk (HCX.out w10 HK10.out.keep)
                      have hxk : T4[i].kind = cx.k := by rw [← typT_kind HN4.out.kids hil4, HTI4.out, HKX.out]
                      by_cases h6x : cx.k = 6
                      · obtain ⟨k0, hk0⟩ : ∃ k0, T4[i].kids = [k0] := by
                          have := HN4.out.one T4[i] (List.getElem_mem hil4) (.inr (.inr (hxk.trans h6x)))
                          match h : T4[i].kids, this with
                          | [k0], _ => exact ⟨k0, rfl⟩
                        have hk0l : k0 < i := HN4.out.kids i hil4 k0 (by rw [hk0]; simp)
                        have hX : X = .mk T4[i].kind T4[i].name T4[i].names [typT T4 k0] := by rw [← HTI4.out, typT_at HN4.out.kids hil4, hk0]; rfl
                        obtain ⟨g0, o0, c0, ec, el, hgS, hv0, hcell⟩ := tzv_one HVX.out ⟨_, _, _, hX⟩
                        obtain ⟨m0, m1, m2, m3⟩ := hcell w10 (HK10.out.keep g0 hgS.1 hgS.2)
                        have hk0T : k0 < T4.length := by omega
                        obtain ⟨hf0, hs0⟩ := typT_fit HN4.out.kids HFIT4.out (k0 + 1) k0 (Nat.lt_succ_self _) hk0T
                        have CA := HK10.out.add HW.out (Below.refl _ _) hf0 hs0 (hv0.keep (fun _ h => h) (fun g hg => HK10.out.keep g hg.1 hg.2)) (fun g hg => .inl hg) (trees_pure HG4.out hk0T) HG4.out (List.prefix_refl _)
                        have hq : fitT T4 i o = fitT T4 k0 j := fit_one HN4.out (k := 6) (.inr (.inr rfl)) hil4 hol hk0T hjl4 ⟨hxk.trans h6x, hk0⟩ HOK.out
                        rw [h6x] at x0
                        rw [ec, el] at x3
                        rw [hq]
                        have HCA := Lib.hid CA
                        clear CA hq hX hv0 hcell hf0 hs0 hxk h6x hk0 ec el
                        go_upto_region 28 with (go_at_call 11; (refine HCA.out.mono ?_); rintro en w11 ⟨rb11, nb11, ty11, nu11, rfl, k11⟩; have HK11 := Lib.hid k11; clear k11)
                        go_wp2_with (go_at_call 13; (refine (HK11.out.le hk0T hjl4).mono ?_); rintro en w12 ⟨n12, rfl, k12⟩; have HK12 := Lib.hid k12; clear k12)
                        go_ret
                        exact ⟨by simp, HK12.out.below⟩
                      · have hq : fitT T4 i o = is := by rw [fit_opt HN4.out hil4 hol hjl4 HOK.out (by rw [hxk]; exact h6x), fitT_grow HN2.out HK10.out.pre il jl, HIS.out]
                        rw [hq]
                        clear hq hxk
                        go_wp2
                        go_ret
                        exact ⟨by simp, HK10.out.below⟩
                  · have t0 : ((e3 : Int) == 0) = false := by simp; omega
                    go_wp2
                    go_ret
                    exact ⟨rfl, HX9.out⟩
          · have t0 : ((f : Int) == 0) = false := by simp; omega
            go_wp2
            go_ret
            exact ⟨rfl, HK7.out.below⟩
        · have t0 : ((e : Int) == 0) = false := by simp; omega
          go_wp2
          go_ret
          exact ⟨rfl, HK7.out.below⟩
end Sp
end Go.Proofs.Yteooafgdmpbjeab
