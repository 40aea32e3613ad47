/- KindsOpts: its walk. Written by gen_jopt.py. -/
import Derived.Test.YtdophmlnmbcjlaaT46
import Derived.Test.YtdophmlnmbcjlaaT47
import Derived.Test.YtdophmlnmbcjlaaT52
import Derived.Test.YtdophmlnmbcjlaaT18
namespace Go.Proofs.Ytdophmlnmbcjlaa
open Go.RowKit
namespace Sp
open Sc
set_option maxRecDepth 100000
/-- A block that lies beside a table. -/
def Fx (w : World) (tb rb nb g : Nat) : Prop := g < w.heap.size ∧ ¬ Own tb rb nb g
theorem Fx.step {w w' : World} {tb rb nb rb' nb' g : Nat} (h : Fx w tb rb nb g) (k : Keeps (Own tb rb nb) w w') (o : ∀ g, Own tb rb' nb' g → Own tb rb nb g ∨ w.heap.size ≤ g) : Fx w' tb rb' nb' g ∧ w'.heap[g]? = w.heap[g]? :=
  ⟨⟨Nat.lt_of_lt_of_le h.1 k.size, fun ho => (o g ho).elim h.2 (fun e => by have := h.1; omega)⟩, k.block g h.1 h.2⟩
theorem Fx.below {w w' : World} {tb rb nb g : Nat} (h : Fx w tb rb nb g) (hb : Below w.heap.size w w') : Fx w' tb rb nb g ∧ w'.heap[g]? = w.heap[g]? :=
  ⟨⟨Nat.lt_of_lt_of_le h.1 hb.size, h.2⟩, hb.block g h.1⟩
theorem Fx.new {B : Nat} {w W : World} {tb rb nb mb sb m : Nat} {ty nu : Value} {T : List Kz} {N : List NN} {G : List GN} {vs : List Value} (h : StV B w tb rb nb mb sb m ty nu T N G vs) {g : Nat} (h1 : w.heap.size ≤ g) (h2 : g < W.heap.size) : Fx W tb rb nb g := ⟨h2, fun ho => by have := h.tab.lt ho; omega⟩
theorem tzv_kindJ {w : World} {S : Nat → Prop} {t : Tz} {c : C4} (h : TzV w S t c) : c.k = t.kind := by cases h; rfl
theorem StV.addJ {B : Nat} {w : World} {tb rb nb mb sb m : Nat} {ty nu : Value} {T : List Kz} {N : List NN} {G : List GN} {vs : List Value} (h : StV B w tb rb nb mb sb m ty nu T N G vs) (hB : B ≤ w.heap.size) {t : Tz} (hf : fitZ t = true) (hs : shortZ t = true) {S : Nat → Prop} {c : C4} (hV : TzV w S t c) (hS : ∀ g, S g → g < w.heap.size ∧ ¬ Own tb rb nb g) :
    Calls Try.prog 20 #[.pointer (some ⟨tb, 0, none⟩), .agg #[.int .i64 c.k, .string c.n, .slice c.an c.ln c.cn, .slice c.ak c.lk c.ck]] w (MadeJ B w tb rb nb mb sb m N G vs (addK (hasZ N) T t)) := by
  refine (add_any t hf hs w tb rb nb mb sb m ty nu T N S c h.tab h.names hV hS).mono ?_
  rintro en w' ⟨rb', nb', ty', nu', rfl, ha⟩
  exact MadeJ.add h ha hB
theorem built_new {s : Sz} (h : (newK s).1 = 0) : BuiltK s (newK s).2 := by
  unfold newK at h ⊢
  by_cases hr : refC s = 0
  · rw [if_neg (by simpa using hr)] at h ⊢
    exact built_of hr h
  · rw [if_pos hr] at h
    exact absurd h hr
theorem optS_fit {x y : Tz} (hx : fitZ x = true ∧ shortZ x = true) (hy : fitZ y = true ∧ shortZ y = true) : SzFit (optS x y) ∧ ShortS (optS x y) := by
  have m1 : fitZ (.mk 5 [] [] [x]) = true := by simp [fitZ, fitZs, hx.1, maxLen]
  have m2 : shortZ (.mk 5 [] [] [x]) = true := by simp [shortZ, shortZs, hx.2]
  have t1 : fitZ (.mk 3 [] [] []) = true := by kernel_rfl
  have t2 : shortZ (.mk 3 [] [] []) = true := by kernel_rfl
  refine ⟨⟨m1, fun i h => (by cases h), fun i h => ?_⟩, ⟨fun i h => (by cases h), ⟨m1, m2⟩, fun g hg => ?_⟩⟩
  · match i, h with
    | 0, _ => show fitG ⟨[102], [.mk 3 [] [] []], y⟩ = true; simp [fitG, fitZs, t1, hy.1, maxLen]
  · obtain rfl := List.mem_singleton.1 hg
    exact ⟨(by show 1 ≤ 1000; omega), (by show 1 ≤ 1000; omega), fun t ht => by rw [List.mem_singleton.1 ht]; exact ⟨t1, t2⟩, hy⟩
set_option maxHeartbeats 30000000 in
theorem KindsOpts_any (r q : Rw) (cr cq : R4) (w : World) (hR : RwV w r cr) (hQ : RwV w q cq) :
    Calls Try.prog 5 #[.agg #[.int .i64 cr.k, .int .i64 cr.n, .slice cr.an cr.ln cr.cn, .slice cr.ak cr.lk cr.ck], .agg #[.int .i64 cq.k, .int .i64 cq.n, .slice cq.an cq.ln cq.cn, .slice cq.ak cq.lk cq.ck]] w fun e w' => e = .returned (.bool true) ∧ Below w.heap.size w w' := by
  obtain ⟨W0, hW0⟩ : ∃ W0, W0 = (w.alloc (.cells #[.int .i64 cr.k, .int .i64 cr.n, .slice cr.an cr.ln cr.cn, .slice cr.ak cr.lk cr.ck] 54)).alloc (.cells #[.int .i64 cq.k, .int .i64 cq.n, .slice cq.an cq.ln cq.cn, .slice cq.ak cq.lk cq.ck] 54) := ⟨_, rfl⟩
  have qm := made (l := [_, _]) hW0
  have hb0 : Below w.heap.size w W0 := by rw [hW0]; exact ((Below.refl _ _).alloc (Nat.le_refl _) _).alloc (by simp) _
  have hz0 : W0.heap.size = w.heap.size + 2 := by rw [hW0]; simp
  have hr0 : W0.heap[w.heap.size]? = some (.cells #[.int .i64 cr.k, .int .i64 cr.n, .slice cr.an cr.ln cr.cn, .slice cr.ak cr.lk cr.ck] 54 (0, 0)) := qm 0 _ rfl
  have hq0 : W0.heap[w.heap.size + 1]? = some (.cells #[.int .i64 cq.k, .int .i64 cq.n, .slice cq.an cq.ln cq.cn, .slice cq.ak cq.lk cq.ck] 54 (0, 0)) := qm 1 _ rfl
  have HW0 := Lib.hid hW0; have HB0 := Lib.hid hb0; have HR0 := Lib.hid hr0; have HQ0 := Lib.hid hq0; have HZ0 := Lib.hid hz0
  have CR : ∀ W, Below w.heap.size w W → Calls Try.prog 18 #[.agg #[.int .i64 cr.k, .int .i64 cr.n, .slice cr.an cr.ln cr.cn, .slice cr.ak cr.lk cr.ck], .int .i64 30] W fun e w' => e = .returned (.int .i64 (fewR r 30)) ∧ Below W.heap.size W w' := fun W hW => Few_any r cr 30 W (hR.later hW) ⟨by omega, by omega⟩
  have CQ : ∀ W, Below w.heap.size w W → Calls Try.prog 18 #[.agg #[.int .i64 cq.k, .int .i64 cq.n, .slice cq.an cq.ln cq.cn, .slice cq.ak cq.lk cq.ck], .int .i64 30] W fun e w' => e = .returned (.int .i64 (fewR q 30)) ∧ Below W.heap.size W w' := fun W hW => Few_any q cq 30 W (hQ.later hW) ⟨by omega, by omega⟩
  have TR : ∀ W, Below w.heap.size w W → Calls Try.prog 19 #[.agg #[.int .i64 cr.k, .int .i64 cr.n, .slice cr.an cr.ln cr.cn, .slice cr.ak cr.lk cr.ck], .int .i64 4, .slice none 0 0] W (TreeP (treeR [] 4 r) W) := fun W hW => Tree_any 4 (by omega) r cr [] none 0 W (hR.later hW) (.inl rfl) (by simp)
  have TQ : ∀ W, Below w.heap.size w W → Calls Try.prog 19 #[.agg #[.int .i64 cq.k, .int .i64 cq.n, .slice cq.an cq.ln cq.cn, .slice cq.ak cq.lk cq.ck], .int .i64 4, .slice none 0 0] W (TreeP (treeR [] 4 q) W) := fun W hW => Tree_any 4 (by omega) q cq [] none 0 W (hQ.later hW) (.inl rfl) (by simp)
  have sx : fitZ (treeR [] 4 r) = true ∧ shortZ (treeR [] 4 r) = true := ⟨treeR_fit [] (fun n hn => by cases hn) 4 r, treeR_short [] (fun n hn => by cases hn) 4 r⟩
  have sy : fitZ (treeR [] 4 q) = true ∧ shortZ (treeR [] 4 q) = true := ⟨treeR_fit [] (fun n hn => by cases hn) 4 q, treeR_short [] (fun n hn => by cases hn) 4 q⟩
  have HCR := Lib.hid CR; have HCQ := Lib.hid CQ; have HTR0 := Lib.hid TR; have HTQ0 := Lib.hid TQ; have HSX := Lib.hid sx; have HSY := Lib.hid sy
  clear qm hW0 hb0 hr0 hq0 hz0 CR CQ TR TQ sx sy hR hQ
  generalize treeR [] 4 r = X at *
  generalize treeR [] 4 q = Y at *
  go_enter Try.func5, Try.ntmps5
  go_upto_region 1 with fail
  rw [← HW0.out]
  clear HW0
  go_upto_region 3 with (go_at_call 9; (with_reducible refine (known8_any _).mono ?_); rintro e w1 ⟨rfl, x1⟩; have HX1 := Lib.hid (HB0.out.trans (x1.mono (by have := HZ0.out; omega))); have HR1 := Lib.hid ((x1.block _ (by have := HZ0.out; omega)).trans HR0.out); have HQ1 := Lib.hid ((x1.block _ (by have := HZ0.out; omega)).trans HQ0.out); have hz1 : w.heap.size + 2 ≤ w1.heap.size := (by have := x1.size; have := HZ0.out; omega); clear x1)
  obtain ⟨⟨p0, p1, p2, p3⟩, -⟩ := four_blk HR1.out
  by_cases h1 : fewR r 30 = 0
  · have HC1 := Lib.hid (HCR.out w1 HX1.out)
    rw [h1] at HC1
    go_wp2_with (go_at_call 18; (with_reducible refine HC1.out.mono ?_); rintro e w2 ⟨rfl, x2⟩; have HX2 := Lib.hid x2; clear x2)
    go_ret
    exact ⟨rfl, HX1.out.trans (HX2.out.mono (by omega))⟩
  · have HC1 := Lib.hid (HCR.out w1 HX1.out)
    have t1 : (fewR r 30 == 0) = false := by simpa using h1
    generalize fewR r 30 = f1 at *
    by_cases h2 : fewR q 30 = 0
    · rw [h2] at HCQ
      go_wp2_with (first
        | (go_at_call 18; (with_reducible refine HC1.out.mono ?_); rintro e w2 ⟨rfl, x2⟩; have hz2 := x2.size; obtain ⟨⟨q0, q1, q2, q3⟩, -⟩ := four_blk ((x2.block _ (by omega)).trans HQ1.out); have HX2 := Lib.hid (HX1.out.trans (x2.mono (by omega))); clear x2)
        | (go_at_call 18; (with_reducible refine (HCQ.out _ HX2.out).mono ?_); rintro e w3 ⟨rfl, x3⟩; have HX3 := Lib.hid (HX2.out.trans (x3.mono (by omega))); clear x3))
      go_ret
      exact ⟨rfl, HX3.out⟩
    · have t2 : (fewR q 30 == 0) = false := by simpa using h2
      generalize fewR q 30 = f2 at *
      go_upto_region 5 with (first
        | (go_at_call 18; (with_reducible refine HC1.out.mono ?_); rintro e w2 ⟨rfl, x2⟩; have hz2 := x2.size; obtain ⟨⟨q0, q1, q2, q3⟩, -⟩ := four_blk ((x2.block _ (by omega)).trans HQ1.out); have HX2 := Lib.hid (HX1.out.trans (x2.mono (by omega))); have HR2 := Lib.hid ((x2.block _ (by omega)).trans HR1.out); have HQ2 := Lib.hid ((x2.block _ (by omega)).trans HQ1.out); clear x2)
        | (go_at_call 18; (with_reducible refine (HCQ.out _ HX2.out).mono ?_); rintro e w3 ⟨rfl, x3⟩; have hz3 := x3.size; have HX3 := Lib.hid (HX2.out.trans (x3.mono (by omega))); have HR3 := Lib.hid ((x3.block _ (by omega)).trans HR2.out); have HQ3 := Lib.hid ((x3.block _ (by omega)).trans HQ2.out); clear x3))
      clear p0 p1 p2 p3 q0 q1 q2 q3
      obtain ⟨⟨p0, p1, p2, p3⟩, -⟩ := four_blk HR3.out
      go_upto_region 6 with (go_at_call 19; (with_reducible refine (HTR0.out _ HX3.out).mono ?_); rintro e w4 ⟨cx, rfl, hkx, x4⟩; have hz4 := x4.size; have HKX := Lib.hid hkx; have HX4 := Lib.hid (HX3.out.trans (x4.mono (by omega))); have HQ4 := Lib.hid ((x4.block _ (by omega)).trans HQ3.out); clear hkx x4)
      clear p0 p1 p2 p3
      go_upto_region 7 with fail
      obtain ⟨w6, hw6⟩ : ∃ w6, w6 = (w4.alloc (.cells #[.int .i64 cx.k, .string cx.n, .slice cx.an cx.ln cx.cn, .slice cx.ak cx.lk cx.ck] 30)).alloc (.cells #[.int .i64 3, .string ⟨#[]⟩, .slice none 0 0, .slice none 0 0] 30) := ⟨_, rfl⟩
      have qm := made (l := [_, _]) hw6
      have hz6 : w4.heap.size + 2 ≤ w6.heap.size := by rw [hw6]; simp
      have hb6 : Below w4.heap.size w4 w6 := by rw [hw6]; exact ((Below.refl _ _).alloc (Nat.le_refl _) _).alloc (by simp) _
      have HXB : Hid (w6.drew.heap[w4.heap.size]? = some (.cells #[.int .i64 cx.k, .string cx.n, .slice cx.an cx.ln cx.cn, .slice cx.ak cx.lk cx.ck] 30 (0, 0))) := qm 0 _ rfl
      have HTB : Hid (w6.drew.heap[w4.heap.size + 1]? = some (.cells #[.int .i64 3, .string ⟨#[]⟩, .slice none 0 0, .slice none 0 0] 30 (0, 0))) := qm 1 _ rfl
      rw [← hw6]
      have HB6 := Lib.hid (HX4.out.trans (hb6.mono HX4.out.size)); have HB46 := Lib.hid hb6
      have HQB : Hid (w6.drew.heap[w.heap.size + 1]? = some (.cells #[.int .i64 cq.k, .int .i64 cq.n, .slice cq.an cq.ln cq.cn, .slice cq.ak cq.lk cq.ck] 54 (0, 0))) := (hb6.block _ (by omega)).trans HQ4.out
      clear hw6 qm hb6
      have hxl : w4.heap.size < w6.drew.heap.size := blk_ltJ HXB.out
      have htl : w4.heap.size + 1 < w6.drew.heap.size := blk_ltJ HTB.out
      have hql : w.heap.size + 1 < w6.drew.heap.size := blk_ltJ HQB.out
      have HTQ : Hid (∀ v, Below w6.drew.heap.size w6.drew v → _) := fun v hv => HTQ0.out v (HB6.out.drew.trans (hv.mono HB6.out.size))
      clear HTR0 HTQ0 HCR HCQ HC1 HR0 HQ0 HR1 HQ1 HR2 HQ2 HR3 HQ3 HQ4 t1 t2 h1 h2
      refine wp_region_by (QJ (fun (x : Ox) qq => match qq with | 0 => .agg #[.int .i64 cx.k, .string cx.n, .slice cx.an cx.ln cx.cn, .slice cx.ak cx.lk cx.ck] | 1 => .slice (some ⟨x.a1, 0, none⟩) 1 1 | 2 => .agg #[.int .i64 5, .string ⟨#[]⟩, .slice none 0 0, .slice (some ⟨x.a1, 0, none⟩) 1 1] | 3 => .agg #[.int .i64 3, .string ⟨#[]⟩, .slice none 0 0, .slice none 0 0] | 4 => .slice (some ⟨x.a4, 0, none⟩) 1 1 | 5 => .agg #[.int .i64 cq.k, .int .i64 cq.n, .slice cq.an cq.ln cq.cn, .slice cq.ak cq.lk cq.ck] | 6 => .agg #[.int .i64 x.cy.k, .string x.cy.n, .slice x.cy.an x.cy.ln x.cy.cn, .slice x.cy.ak x.cy.lk x.cy.ck] | 7 => .agg #[.string ⟨#[102]⟩, .slice (some ⟨x.a4, 0, none⟩) 1 1, .int .i64 x.cy.k, .string x.cy.n, .slice x.cy.an x.cy.ln x.cy.cn, .slice x.cy.ak x.cy.lk x.cy.ck] | 8 => .slice (some ⟨x.a8, 0, none⟩) 1 1 | 9 => .agg #[.int .i64 5, .string ⟨#[]⟩, .slice none 0 0, .slice (some ⟨x.a1, 0, none⟩) 1 1, .slice none 0 0, .slice (some ⟨x.a8, 0, none⟩) 1 1] | 10 => .pointer (some ⟨x.a10, 0, none⟩) | 11 => undef | _ => undef) (fun x listed v => OpM w6.drew cx Y (listed.getD 1 false) (listed.getD 4 false) (listed.getD 6 false) (listed.getD 8 false) (listed.getD 10 false) (listed.getD 11 false) x v)) (by kernel_rfl) ?_ ?_ ?_
      · exact ⟨by simp, Closed.start _, ⟨0, 0, 0, 0, cx⟩, Fr.start _ _ _, by simp only [rep_getDJ]; exact OpM.start (W0 := w6.drew) _⟩
      · intro listed b v q hJ hi
        obtain ⟨hsz, hC, x, hF, hM⟩ := hJ
        have hMb : OpM w6.drew cx Y (listed.getD 1 false) (listed.getD 4 false) (listed.getD 6 false) (listed.getD 8 false) (listed.getD 10 false) (listed.getD 11 false) x v := hM
        obtain ⟨hl1, hiN⟩ := not_up hsz hi
        obtain ⟨_, o, ho, hdeps⟩ := mem_ready.1 hi
        have hiN : q < 12 := hiN
        obtain rfl | rfl | rfl | rfl | rfl | rfl | rfl | rfl | rfl | rfl | rfl | rfl : q = 0 ∨ q = 1 ∨ q = 2 ∨ q = 3 ∨ q = 4 ∨ q = 5 ∨ q = 6 ∨ q = 7 ∨ q = 8 ∨ q = 9 ∨ q = 10 ∨ q = 11 := by omega
        · cases ho
          obtain ⟨⟨r0, r1, r2, r3⟩, -⟩ := four_blk ((hMb.below.block w4.heap.size hxl).trans HXB.out)
          have e5 := hF.old_is 5 (by rfl) rfl
          refine QJ.quiet (x := x) hsz hC hi hF (Slots.of (by rfl)) rfl (wanted_none rfl) (show OpM w6.drew cx Y ((listed.setIfInBounds 0 true).getD 1 false) ((listed.setIfInBounds 0 true).getD 4 false) ((listed.setIfInBounds 0 true).getD 6 false) ((listed.setIfInBounds 0 true).getD 8 false) ((listed.setIfInBounds 0 true).getD 10 false) ((listed.setIfInBounds 0 true).getD 11 false) x v by rw [getD_setN (show 0 ≠ 1 by decide), getD_setN (show 0 ≠ 4 by decide), getD_setN (show 0 ≠ 6 by decide), getD_setN (show 0 ≠ 8 by decide), getD_setN (show 0 ≠ 10 by decide), getD_setN (show 0 ≠ 11 by decide)]; exact hMb) ?_
          show _ = Result.ok (Next.value (.agg #[.int .i64 cx.k, .string cx.n, .slice cx.an cx.ln cx.cn, .slice cx.ak cx.lk cx.ck])) v
          simp [execOp, go_sem, e5, r0, r1, r2, r3]
        · cases ho
          have e42 : b.tmps[42]? = some (.agg #[.int .i64 cx.k, .string cx.n, .slice cx.an cx.ln cx.cn, .slice cx.ak cx.lk cx.ck]) := hF.up 0 42 rfl (hdeps ⟨0, .data⟩ (by simp) rfl)
          have l11 : listed.getD 11 false = false := by
            cases hh : listed.getD 11 false
            · rfl
            · have y0 := hC 11 _ rfl hh ⟨1, .phase⟩ (by simp) rfl; rw [hl1] at y0; cases y0
          have l2 : listed.getD 2 false = false := by
            cases hh : listed.getD 2 false
            · rfl
            · have y0 := hC 2 _ rfl hh ⟨1, .data⟩ (by simp) rfl; rw [hl1] at y0; cases y0
          have l9 : listed.getD 9 false = false := by
            cases hh : listed.getD 9 false
            · rfl
            · have y0 := hC 9 _ rfl hh ⟨2, .data⟩ (by simp) rfl; have y1 := hC 2 _ rfl y0 ⟨1, .data⟩ (by simp) rfl; rw [hl1] at y1; cases y1
          have a := hMb
          rw [hl1, l11] at a
          refine QJ.make (v' := v.alloc (.cells #[.int .i64 cx.k, .string cx.n, .slice cx.an cx.ln cx.cn, .slice cx.ak cx.lk cx.ck] 30)) (x := x) (x' := ⟨v.heap.size, x.a4, x.a8, x.a10, x.cy⟩) hsz hC hi hF (Slots.of (by rfl)) rfl (wanted_none rfl) (fun q hq => match q, (show q ≠ 1 by rintro rfl; rw [hl1] at hq; cases hq), (show q ≠ 2 by rintro rfl; rw [l2] at hq; cases hq), (show q ≠ 9 by rintro rfl; rw [l9] at hq; cases hq) with | 0, _, _, _ => rfl | 1, h, _, _ => absurd rfl h | 2, _, h, _ => absurd rfl h | 3, _, _, _ => rfl | 4, _, _, _ => rfl | 5, _, _, _ => rfl | 6, _, _, _ => rfl | 7, _, _, _ => rfl | 8, _, _, _ => rfl | 9, _, _, h => absurd rfl h | 10, _, _, _ => rfl | 11, _, _, _ => rfl | _ + 12, _, _, _ => rfl) (show OpM w6.drew cx Y ((listed.setIfInBounds 1 true).getD 1 false) ((listed.setIfInBounds 1 true).getD 4 false) ((listed.setIfInBounds 1 true).getD 6 false) ((listed.setIfInBounds 1 true).getD 8 false) ((listed.setIfInBounds 1 true).getD 10 false) ((listed.setIfInBounds 1 true).getD 11 false) ⟨v.heap.size, x.a4, x.a8, x.a10, x.cy⟩ (v.alloc (.cells #[.int .i64 cx.k, .string cx.n, .slice cx.an cx.ln cx.cn, .slice cx.ak cx.lk cx.ck] 30)) by rw [getD_setS (by rw [hsz]; decide), getD_setN (show 1 ≠ 4 by decide), getD_setN (show 1 ≠ 6 by decide), getD_setN (show 1 ≠ 8 by decide), getD_setN (show 1 ≠ 10 by decide), getD_setN (show 1 ≠ 11 by decide), l11]; exact a.make1) ?_
          show _ = Result.ok (Next.value (.slice (some ⟨v.heap.size, 0, none⟩) 1 1)) _
          simp [execOp, go_sem, e42]
        · cases ho
          have e43 : b.tmps[43]? = some (.slice (some ⟨x.a1, 0, none⟩) 1 1) := hF.up 1 43 rfl (hdeps ⟨1, .data⟩ (by simp) rfl)
          refine QJ.quiet (x := x) hsz hC hi hF (Slots.of (by rfl)) rfl (wanted_none rfl) (show OpM w6.drew cx Y ((listed.setIfInBounds 2 true).getD 1 false) ((listed.setIfInBounds 2 true).getD 4 false) ((listed.setIfInBounds 2 true).getD 6 false) ((listed.setIfInBounds 2 true).getD 8 false) ((listed.setIfInBounds 2 true).getD 10 false) ((listed.setIfInBounds 2 true).getD 11 false) x v by rw [getD_setN (show 2 ≠ 1 by decide), getD_setN (show 2 ≠ 4 by decide), getD_setN (show 2 ≠ 6 by decide), getD_setN (show 2 ≠ 8 by decide), getD_setN (show 2 ≠ 10 by decide), getD_setN (show 2 ≠ 11 by decide)]; exact hMb) ?_
          show _ = Result.ok (Next.value (.agg #[.int .i64 5, .string ⟨#[]⟩, .slice none 0 0, .slice (some ⟨x.a1, 0, none⟩) 1 1])) v
          simp [execOp, go_sem, e43]
        · cases ho
          obtain ⟨⟨r0, r1, r2, r3⟩, -⟩ := four_blk ((hMb.below.block (w4.heap.size + 1) htl).trans HTB.out)
          have e6 := hF.old_is 6 (by rfl) rfl
          refine QJ.quiet (x := x) hsz hC hi hF (Slots.of (by rfl)) rfl (wanted_none rfl) (show OpM w6.drew cx Y ((listed.setIfInBounds 3 true).getD 1 false) ((listed.setIfInBounds 3 true).getD 4 false) ((listed.setIfInBounds 3 true).getD 6 false) ((listed.setIfInBounds 3 true).getD 8 false) ((listed.setIfInBounds 3 true).getD 10 false) ((listed.setIfInBounds 3 true).getD 11 false) x v by rw [getD_setN (show 3 ≠ 1 by decide), getD_setN (show 3 ≠ 4 by decide), getD_setN (show 3 ≠ 6 by decide), getD_setN (show 3 ≠ 8 by decide), getD_setN (show 3 ≠ 10 by decide), getD_setN (show 3 ≠ 11 by decide)]; exact hMb) ?_
          show _ = Result.ok (Next.value (.agg #[.int .i64 3, .string ⟨#[]⟩, .slice none 0 0, .slice none 0 0])) v
          simp [execOp, go_sem, e6, r0, r1, r2, r3]
        · cases ho
          have e45 : b.tmps[45]? = some (.agg #[.int .i64 3, .string ⟨#[]⟩, .slice none 0 0, .slice none 0 0]) := hF.up 3 45 rfl (hdeps ⟨3, .data⟩ (by simp) rfl)
          have l8 : listed.getD 8 false = false := by
            cases hh : listed.getD 8 false
            · rfl
            · have y0 := hC 8 _ rfl hh ⟨7, .data⟩ (by simp) rfl; have y1 := hC 7 _ rfl y0 ⟨4, .data⟩ (by simp) rfl; rw [hl1] at y1; cases y1
          have l11 : listed.getD 11 false = false := by
            cases hh : listed.getD 11 false
            · rfl
            · have y0 := hC 11 _ rfl hh ⟨4, .phase⟩ (by simp) rfl; rw [hl1] at y0; cases y0
          have l7 : listed.getD 7 false = false := by
            cases hh : listed.getD 7 false
            · rfl
            · have y0 := hC 7 _ rfl hh ⟨4, .data⟩ (by simp) rfl; rw [hl1] at y0; cases y0
          have a := hMb
          rw [hl1, l8, l11] at a
          refine QJ.make (v' := v.alloc (.cells #[.int .i64 3, .string ⟨#[]⟩, .slice none 0 0, .slice none 0 0] 30)) (x := x) (x' := ⟨x.a1, v.heap.size, x.a8, x.a10, x.cy⟩) hsz hC hi hF (Slots.of (by rfl)) rfl (wanted_none rfl) (fun q hq => match q, (show q ≠ 4 by rintro rfl; rw [hl1] at hq; cases hq), (show q ≠ 7 by rintro rfl; rw [l7] at hq; cases hq) with | 0, _, _ => rfl | 1, _, _ => rfl | 2, _, _ => rfl | 3, _, _ => rfl | 4, h, _ => absurd rfl h | 5, _, _ => rfl | 6, _, _ => rfl | 7, _, h => absurd rfl h | 8, _, _ => rfl | 9, _, _ => rfl | 10, _, _ => rfl | 11, _, _ => rfl | _ + 12, _, _ => rfl) (show OpM w6.drew cx Y ((listed.setIfInBounds 4 true).getD 1 false) ((listed.setIfInBounds 4 true).getD 4 false) ((listed.setIfInBounds 4 true).getD 6 false) ((listed.setIfInBounds 4 true).getD 8 false) ((listed.setIfInBounds 4 true).getD 10 false) ((listed.setIfInBounds 4 true).getD 11 false) ⟨x.a1, v.heap.size, x.a8, x.a10, x.cy⟩ (v.alloc (.cells #[.int .i64 3, .string ⟨#[]⟩, .slice none 0 0, .slice none 0 0] 30)) by rw [getD_setS (by rw [hsz]; decide), getD_setN (show 4 ≠ 1 by decide), getD_setN (show 4 ≠ 6 by decide), getD_setN (show 4 ≠ 8 by decide), getD_setN (show 4 ≠ 10 by decide), getD_setN (show 4 ≠ 11 by decide), l8, l11]; exact a.make4) ?_
          show _ = Result.ok (Next.value (.slice (some ⟨v.heap.size, 0, none⟩) 1 1)) _
          simp [execOp, go_sem, e45]
        · cases ho
          obtain ⟨⟨r0, r1, r2, r3⟩, -⟩ := four_blk ((hMb.below.block (w.heap.size + 1) hql).trans HQB.out)
          have e3 := hF.old_is 3 (by rfl) rfl
          refine QJ.quiet (x := x) hsz hC hi hF (Slots.of (by rfl)) rfl (wanted_none rfl) (show OpM w6.drew cx Y ((listed.setIfInBounds 5 true).getD 1 false) ((listed.setIfInBounds 5 true).getD 4 false) ((listed.setIfInBounds 5 true).getD 6 false) ((listed.setIfInBounds 5 true).getD 8 false) ((listed.setIfInBounds 5 true).getD 10 false) ((listed.setIfInBounds 5 true).getD 11 false) x v by rw [getD_setN (show 5 ≠ 1 by decide), getD_setN (show 5 ≠ 4 by decide), getD_setN (show 5 ≠ 6 by decide), getD_setN (show 5 ≠ 8 by decide), getD_setN (show 5 ≠ 10 by decide), getD_setN (show 5 ≠ 11 by decide)]; exact hMb) ?_
          show _ = Result.ok (Next.value (.agg #[.int .i64 cq.k, .int .i64 cq.n, .slice cq.an cq.ln cq.cn, .slice cq.ak cq.lk cq.ck])) v
          simp [execOp, go_sem, e3, r0, r1, r2, r3]
        · cases ho
          have l8 : listed.getD 8 false = false := by
            cases hh : listed.getD 8 false
            · rfl
            · have y0 := hC 8 _ rfl hh ⟨7, .data⟩ (by simp) rfl; have y1 := hC 7 _ rfl y0 ⟨6, .data⟩ (by simp) rfl; rw [hl1] at y1; cases y1
          have l11 : listed.getD 11 false = false := by
            cases hh : listed.getD 11 false
            · rfl
            · have y0 := hC 11 _ rfl hh ⟨6, .chain⟩ (by simp) rfl; rw [hl1] at y0; cases y0
          have l7 : listed.getD 7 false = false := by
            cases hh : listed.getD 7 false
            · rfl
            · have y0 := hC 7 _ rfl hh ⟨6, .data⟩ (by simp) rfl; rw [hl1] at y0; cases y0
          have e47 : b.tmps[47]? = some (.agg #[.int .i64 cq.k, .int .i64 cq.n, .slice cq.an cq.ln cq.cn, .slice cq.ak cq.lk cq.ck]) := hF.up 5 47 rfl (hdeps ⟨5, .data⟩ (by simp) rfl)
          refine QJ.call (x := x) (f := 19) (args := #[.agg #[.int .i64 cq.k, .int .i64 cq.n, .slice cq.an cq.ln cq.cn, .slice cq.ak cq.lk cq.ck], .int .i64 4, .slice none 0 0]) hsz hC hi hF (Slots.of (by rfl)) rfl (wanted_none rfl) (by simp [execOp, go_sem, e47]) (HTQ.out v hMb.below) ?_
          rintro e w' ⟨c, rfl, hk, hb⟩
          have a := hMb
          rw [hl1, l8, l11] at a
          exact ⟨⟨x.a1, x.a4, x.a8, x.a10, c⟩, rfl, (fun q hq => match q, (show q ≠ 6 by rintro rfl; rw [hl1] at hq; cases hq), (show q ≠ 7 by rintro rfl; rw [l7] at hq; cases hq) with | 0, _, _ => rfl | 1, _, _ => rfl | 2, _, _ => rfl | 3, _, _ => rfl | 4, _, _ => rfl | 5, _, _ => rfl | 6, h, _ => absurd rfl h | 7, _, h => absurd rfl h | 8, _, _ => rfl | 9, _, _ => rfl | 10, _, _ => rfl | 11, _, _ => rfl | _ + 12, _, _ => rfl), (show OpM w6.drew cx Y ((listed.setIfInBounds 6 true).getD 1 false) ((listed.setIfInBounds 6 true).getD 4 false) ((listed.setIfInBounds 6 true).getD 6 false) ((listed.setIfInBounds 6 true).getD 8 false) ((listed.setIfInBounds 6 true).getD 10 false) ((listed.setIfInBounds 6 true).getD 11 false) ⟨x.a1, x.a4, x.a8, x.a10, c⟩ w' by rw [getD_setS (by rw [hsz]; decide), getD_setN (show 6 ≠ 1 by decide), getD_setN (show 6 ≠ 4 by decide), getD_setN (show 6 ≠ 8 by decide), getD_setN (show 6 ≠ 10 by decide), getD_setN (show 6 ≠ 11 by decide), l8, l11]; exact a.call6 hk hb)⟩
        · cases ho
          have e46 : b.tmps[46]? = some (.slice (some ⟨x.a4, 0, none⟩) 1 1) := hF.up 4 46 rfl (hdeps ⟨4, .data⟩ (by simp) rfl)
          have e48 : b.tmps[48]? = some (.agg #[.int .i64 x.cy.k, .string x.cy.n, .slice x.cy.an x.cy.ln x.cy.cn, .slice x.cy.ak x.cy.lk x.cy.ck]) := hF.up 6 48 rfl (hdeps ⟨6, .data⟩ (by simp) rfl)
          refine QJ.quiet (x := x) hsz hC hi hF (Slots.of (by rfl)) rfl (wanted_none rfl) (show OpM w6.drew cx Y ((listed.setIfInBounds 7 true).getD 1 false) ((listed.setIfInBounds 7 true).getD 4 false) ((listed.setIfInBounds 7 true).getD 6 false) ((listed.setIfInBounds 7 true).getD 8 false) ((listed.setIfInBounds 7 true).getD 10 false) ((listed.setIfInBounds 7 true).getD 11 false) x v by rw [getD_setN (show 7 ≠ 1 by decide), getD_setN (show 7 ≠ 4 by decide), getD_setN (show 7 ≠ 6 by decide), getD_setN (show 7 ≠ 8 by decide), getD_setN (show 7 ≠ 10 by decide), getD_setN (show 7 ≠ 11 by decide)]; exact hMb) ?_
          show _ = Result.ok (Next.value (.agg #[.string ⟨#[102]⟩, .slice (some ⟨x.a4, 0, none⟩) 1 1, .int .i64 x.cy.k, .string x.cy.n, .slice x.cy.an x.cy.ln x.cy.cn, .slice x.cy.ak x.cy.lk x.cy.ck])) v
          simp [execOp, go_sem, e46, e48]
        · cases ho
          have e49 : b.tmps[49]? = some (.agg #[.string ⟨#[102]⟩, .slice (some ⟨x.a4, 0, none⟩) 1 1, .int .i64 x.cy.k, .string x.cy.n, .slice x.cy.an x.cy.ln x.cy.cn, .slice x.cy.ak x.cy.lk x.cy.ck]) := hF.up 7 49 rfl (hdeps ⟨7, .data⟩ (by simp) rfl)
          have u4_0 := hdeps ⟨7, .data⟩ (by simp) rfl
          have l4 := hC 7 _ rfl u4_0 ⟨4, .data⟩ (by simp) rfl
          have u6_0 := hdeps ⟨7, .data⟩ (by simp) rfl
          have l6 := hC 7 _ rfl u6_0 ⟨6, .data⟩ (by simp) rfl
          have l11 : listed.getD 11 false = false := by
            cases hh : listed.getD 11 false
            · rfl
            · have y0 := hC 11 _ rfl hh ⟨8, .phase⟩ (by simp) rfl; rw [hl1] at y0; cases y0
          have l9 : listed.getD 9 false = false := by
            cases hh : listed.getD 9 false
            · rfl
            · have y0 := hC 9 _ rfl hh ⟨8, .data⟩ (by simp) rfl; rw [hl1] at y0; cases y0
          have a := hMb
          rw [hl1, l4, l6, l11] at a
          refine QJ.make (v' := v.alloc (.cells #[.string ⟨#[102]⟩, .slice (some ⟨x.a4, 0, none⟩) 1 1, .int .i64 x.cy.k, .string x.cy.n, .slice x.cy.an x.cy.ln x.cy.cn, .slice x.cy.ak x.cy.lk x.cy.ck] 46)) (x := x) (x' := ⟨x.a1, x.a4, v.heap.size, x.a10, x.cy⟩) hsz hC hi hF (Slots.of (by rfl)) rfl (wanted_none rfl) (fun q hq => match q, (show q ≠ 8 by rintro rfl; rw [hl1] at hq; cases hq), (show q ≠ 9 by rintro rfl; rw [l9] at hq; cases hq) with | 0, _, _ => rfl | 1, _, _ => rfl | 2, _, _ => rfl | 3, _, _ => rfl | 4, _, _ => rfl | 5, _, _ => rfl | 6, _, _ => rfl | 7, _, _ => rfl | 8, h, _ => absurd rfl h | 9, _, h => absurd rfl h | 10, _, _ => rfl | 11, _, _ => rfl | _ + 12, _, _ => rfl) (show OpM w6.drew cx Y ((listed.setIfInBounds 8 true).getD 1 false) ((listed.setIfInBounds 8 true).getD 4 false) ((listed.setIfInBounds 8 true).getD 6 false) ((listed.setIfInBounds 8 true).getD 8 false) ((listed.setIfInBounds 8 true).getD 10 false) ((listed.setIfInBounds 8 true).getD 11 false) ⟨x.a1, x.a4, v.heap.size, x.a10, x.cy⟩ (v.alloc (.cells #[.string ⟨#[102]⟩, .slice (some ⟨x.a4, 0, none⟩) 1 1, .int .i64 x.cy.k, .string x.cy.n, .slice x.cy.an x.cy.ln x.cy.cn, .slice x.cy.ak x.cy.lk x.cy.ck] 46)) by rw [getD_setS (by rw [hsz]; decide), getD_setN (show 8 ≠ 1 by decide), getD_setN (show 8 ≠ 4 by decide), getD_setN (show 8 ≠ 6 by decide), getD_setN (show 8 ≠ 10 by decide), getD_setN (show 8 ≠ 11 by decide), l4, l6, l11]; exact a.make8) ?_
          show _ = Result.ok (Next.value (.slice (some ⟨v.heap.size, 0, none⟩) 1 1)) _
          simp [execOp, go_sem, e49]
        · cases ho
          have e44 : b.tmps[44]? = some (.agg #[.int .i64 5, .string ⟨#[]⟩, .slice none 0 0, .slice (some ⟨x.a1, 0, none⟩) 1 1]) := hF.up 2 44 rfl (hdeps ⟨2, .data⟩ (by simp) rfl)
          have e50 : b.tmps[50]? = some (.slice (some ⟨x.a8, 0, none⟩) 1 1) := hF.up 8 50 rfl (hdeps ⟨8, .data⟩ (by simp) rfl)
          refine QJ.quiet (x := x) hsz hC hi hF (Slots.of (by rfl)) rfl (wanted_none rfl) (show OpM w6.drew cx Y ((listed.setIfInBounds 9 true).getD 1 false) ((listed.setIfInBounds 9 true).getD 4 false) ((listed.setIfInBounds 9 true).getD 6 false) ((listed.setIfInBounds 9 true).getD 8 false) ((listed.setIfInBounds 9 true).getD 10 false) ((listed.setIfInBounds 9 true).getD 11 false) x v by rw [getD_setN (show 9 ≠ 1 by decide), getD_setN (show 9 ≠ 4 by decide), getD_setN (show 9 ≠ 6 by decide), getD_setN (show 9 ≠ 8 by decide), getD_setN (show 9 ≠ 10 by decide), getD_setN (show 9 ≠ 11 by decide)]; exact hMb) ?_
          show _ = Result.ok (Next.value (.agg #[.int .i64 5, .string ⟨#[]⟩, .slice none 0 0, .slice (some ⟨x.a1, 0, none⟩) 1 1, .slice none 0 0, .slice (some ⟨x.a8, 0, none⟩) 1 1])) v
          simp [execOp, go_sem, e44, e50]
        · cases ho

          have l11 : listed.getD 11 false = false := by
            cases hh : listed.getD 11 false
            · rfl
            · have y0 := hC 11 _ rfl hh ⟨10, .data⟩ (by simp) rfl; rw [hl1] at y0; cases y0

          have a := hMb
          rw [hl1, l11] at a
          refine QJ.make (v' := v.alloc (.cells #[.int .i64 0, .string ⟨#[]⟩, .slice none 0 0, .slice none 0 0, .slice none 0 0, .slice none 0 0] 34)) (x := x) (x' := ⟨x.a1, x.a4, x.a8, v.heap.size, x.cy⟩) hsz hC hi hF (Slots.of (by rfl)) rfl (wanted_none rfl) (fun q hq => match q, (show q ≠ 10 by rintro rfl; rw [hl1] at hq; cases hq) with | 0, _ => rfl | 1, _ => rfl | 2, _ => rfl | 3, _ => rfl | 4, _ => rfl | 5, _ => rfl | 6, _ => rfl | 7, _ => rfl | 8, _ => rfl | 9, _ => rfl | 10, h => absurd rfl h | 11, _ => rfl | _ + 12, _ => rfl) (show OpM w6.drew cx Y ((listed.setIfInBounds 10 true).getD 1 false) ((listed.setIfInBounds 10 true).getD 4 false) ((listed.setIfInBounds 10 true).getD 6 false) ((listed.setIfInBounds 10 true).getD 8 false) ((listed.setIfInBounds 10 true).getD 10 false) ((listed.setIfInBounds 10 true).getD 11 false) ⟨x.a1, x.a4, x.a8, v.heap.size, x.cy⟩ (v.alloc (.cells #[.int .i64 0, .string ⟨#[]⟩, .slice none 0 0, .slice none 0 0, .slice none 0 0, .slice none 0 0] 34)) by rw [getD_setS (by rw [hsz]; decide), getD_setN (show 10 ≠ 1 by decide), getD_setN (show 10 ≠ 4 by decide), getD_setN (show 10 ≠ 6 by decide), getD_setN (show 10 ≠ 8 by decide), getD_setN (show 10 ≠ 11 by decide), l11]; exact a.make10) ?_
          show _ = Result.ok (Next.value (.pointer (some ⟨v.heap.size, 0, none⟩))) _
          simp [execOp, go_sem]
        · cases ho
          have l1 := hdeps ⟨1, .phase⟩ (by simp) rfl
          have l4 := hdeps ⟨4, .phase⟩ (by simp) rfl
          have l6 := hdeps ⟨6, .chain⟩ (by simp) rfl
          have l8 := hdeps ⟨8, .phase⟩ (by simp) rfl
          have l10 := hdeps ⟨10, .data⟩ (by simp) rfl
          have a := hMb
          rw [l1, l4, l6, l8, l10, hl1] at a
          have tt := (a.b10 rfl).2
          simp only [Bool.false_eq_true, if_false] at tt
          obtain ⟨⟨z0, z1, z2, z3, z4, z5⟩, ⟨f0, f1, f2, f3, f4, f5⟩⟩ := six_blkF tt
          have e7 : b.tmps[7]? = some (.pointer (some ⟨x.a10, 0, none⟩)) := hF.up 10 7 rfl (hdeps ⟨10, .data⟩ (by simp) rfl)
          have e51 : b.tmps[51]? = some (.agg #[.int .i64 5, .string ⟨#[]⟩, .slice none 0 0, .slice (some ⟨x.a1, 0, none⟩) 1 1, .slice none 0 0, .slice (some ⟨x.a8, 0, none⟩) 1 1]) := hF.up 9 51 rfl (hdeps ⟨9, .data⟩ (by simp) rfl)
          refine QJ.store (v' := put6 v x.a10 x.a1 x.a8) (x := x) hsz hC hi hF (Slots.of (by rfl)) rfl rfl (wanted_none rfl) (show OpM w6.drew cx Y ((listed.setIfInBounds 11 true).getD 1 false) ((listed.setIfInBounds 11 true).getD 4 false) ((listed.setIfInBounds 11 true).getD 6 false) ((listed.setIfInBounds 11 true).getD 8 false) ((listed.setIfInBounds 11 true).getD 10 false) ((listed.setIfInBounds 11 true).getD 11 false) x (put6 v x.a10 x.a1 x.a8) by rw [getD_setS (by rw [hsz]; decide), getD_setN (show 11 ≠ 1 by decide), getD_setN (show 11 ≠ 4 by decide), getD_setN (show 11 ≠ 6 by decide), getD_setN (show 11 ≠ 8 by decide), getD_setN (show 11 ≠ 10 by decide), l1, l4, l6, l8, l10]; exact a.store11) ?_
          unfold put6
          simp [execOp, go_sem, e7, e51, z0, z1, z2, z3, z4, z5, f0, f1, f2, f3, f4, f5]
      · intro listed b W7 hJ hr'
        obtain ⟨hsz, hC, xx, hF, hM⟩ := hJ
        have hall := all_upB2 (by rfl) hsz hr'
        have hMb : OpM w6.drew cx Y true true true true true true xx W7 := by
          have h : OpM w6.drew cx Y (listed.getD 1 false) (listed.getD 4 false) (listed.getD 6 false) (listed.getD 8 false) (listed.getD 10 false) (listed.getD 11 false) xx W7 := hM
          rw [hall 1 (by decide), hall 4 (by decide), hall 6 (by decide), hall 8 (by decide), hall 10 (by decide), hall 11 (by decide)] at h
          exact h
        have hb : b = putAll _ _ _ 12 := hF.done (Slots.of (by rfl)) hall
        subst hb
        simp only [putAll]
        simp [dstOf, Act.put]
        have HD := Lib.hid hMb
        clear hM hF hC hall hr' hsz hMb
        obtain ⟨a1, a4, a8, a10, cy⟩ := xx
        have hB6 : Below w6.heap.size w6 W7 := (Below.refl _ _).drew.trans HD.out.below
        have hz7 := hB6.size
        have c1 := (HD.out.b1 rfl).2; have c4 := (HD.out.b4 rfl).2; have c8 := (HD.out.b8 rfl).2; have c10 := (HD.out.b10 rfl).2
        simp only [if_true] at c1 c4 c8 c10
        have hy7 : TzV W7 (Any W7) Y cy := (HD.out.t6 rfl).keep (fun g hg => hg.2) (fun _ _ => rfl)
        have hx7 : TzV W7 (Any W7) X cx := HKX.out.keep (fun g hg => by have := hg.2; show g < W7.heap.size; omega) (fun g hg => (HB46.out.trans (hB6.mono (by omega))).block g hg.2)
        have hxb7 : W7.heap[w4.heap.size]? = some (.cells #[.int .i64 cx.k, .string cx.n, .slice cx.an cx.ln cx.cn, .slice cx.ak cx.lk cx.ck] 30 (0, 0)) := (HD.out.below.block _ hxl).trans HXB.out
        have hsg : SgV W7 (Any W7) ⟨[102], [.mk 3 [] [] []], Y⟩ ([102], ⟨some ⟨a4, 0, none⟩, 1, 1, cy⟩) := ⟨rfl, rfl, ⟨[⟨3, ⟨#[]⟩, none, 0, 0, none, 0, 0⟩], rfl, RowV.blk c4 rfl (cells4_len _), fun i h _ => (match i, h with
          | 0, _ => TzV.leaf _ _ 3 [])⟩, hy7⟩
        have CN := New_any (optS X Y) ⟨5, ⟨#[]⟩, none, 0, 0, some ⟨a1, 0, none⟩, 1, 1⟩ none (some ⟨a8, 0, none⟩) [] [([102], ⟨some ⟨a4, 0, none⟩, 1, 1, cy⟩)] 0 1 W7 (Any W7) (fun _ h => h) (SzV.build (TzV.kid 5 c1 hx7) (NmsV.nil none) (SgsV.one (x := ([102], ⟨some ⟨a4, 0, none⟩, 1, 1, cy⟩)) c8 hsg)) (optS_fit HSX.out HSY.out).1 (optS_fit HSX.out HSY.out).2 (Nat.zero_le _) (by show 1 ≤ 1000000; omega)
        obtain ⟨⟨E, tab⟩, hN⟩ : ∃ p, newK (optS X Y) = p := ⟨_, rfl⟩
        have BK := fun h : (newK (optS X Y)).1 = 0 => built_new h
        rw [hN] at CN BK
        dsimp only at BK
        unfold MadeK at CN
        dsimp only [optS, List.length_nil, List.length_singleton] at CN
        have HBW7 := Lib.hid (HB6.out.trans (hB6.mono HB6.out.size))
        have HCN := Lib.hid CN; have HBK := Lib.hid BK; have HX7 := Lib.hid hx7; have HXB7 := Lib.hid hxb7
        obtain ⟨⟨s0, s1, s2, s3, s4, s5⟩, -⟩ := six_blkF c10
        clear c1 c4 c8 c10 hy7 hx7 hxb7 hsg CN hN BK HD HXB HTB HQB HTQ hB6 HKX HX1 HX2 HX3 HX4 HB6 HB46 HSY hxl htl hql
        by_cases hE : E = 0
        · subst hE
          have hBK := HBK.out rfl
          obtain ⟨p, qq, kx, hNn, hG, hJ⟩ := opt_tab hBK
          obtain ⟨T, N, G, m⟩ := tab
          dsimp only at hNn hG hJ
          subst hNn hG
          have HJ := Lib.hid hJ
          clear hBK hJ HBK
          go_upto_region 11 with (go_at_call 10; (refine HCN.out.mono ?_); rintro e w8 ⟨⟨k1, -⟩, x8⟩; obtain ⟨tb, rb, nb, mb, sb, ty, nu, vs, rfl, s8⟩ := k1 rfl; have hz8 := x8.size; have HS8 := Lib.hid s8; have HX8 := Lib.hid x8; clear k1 s8 x8)
          clear s0 s1 s2 s3 s4 s5 HCN
          have CS := tsig_in 0 w8 tb rb nb mb sb m ty nu T [([102], [p], qq)] vs HS8.out.tab HS8.out.sgs (by simp) (fun j hj _ => by simp at hj; exact hj) (by simp) (by simp)
          simp only [List.getElem_cons_zero] at CS
          have HCS := Lib.hid CS
          clear CS
          go_upto_region 12 with (go_at_call 16; (refine HCS.out.mono ?_); rintro e w9 ⟨ra, rc, rfl, r9, x9⟩; have hz9 := x9.size; have HR9 := Lib.hid r9; have HX9 := Lib.hid x9; have HS9 := Lib.hid (HS8.out.below x9); clear r9 x9)
          clear HCS
          obtain ⟨g, o9, rfl, hg, c0⟩ := idsL_cell HR9.out (i := 0) (by simp)
          rw [Nat.add_zero] at c0
          simp only [List.getD_cons_zero] at c0
          have hFx : Fx w9 tb rb nb g := Fx.new HS8.out hg.1 hg.2
          have d0 : w9.drew.cell? ⟨g, o9, none⟩ = some (.int .i64 (p : Nat)) := c0
          have hg9 : g < w9.heap.size := hg.2
          have hof : ∀ (s : List UInt8) (l : List Nat) (T0 : List Kz) (rbx nbx : Nat) (tyx nux : Value) (w0 W : World) (gb : Nat) (r9 : Nat × Nat × List Kz), builtinB s = true → StV W7.heap.size w0 tb rbx nbx mb sb m tyx nux T0 [] [([102], [p], qq)] vs → W7.heap.size ≤ w0.heap.size → TabG (hasZ ([] : List NN)) 400 T0 → (∀ j ∈ l, j < T0.length) → ofJ T0 [] s l = r9 → Below w0.heap.size w0 W → W.heap[gb]? = some (.cells (l.map fun (j : Nat) => Value.int .i64 (j : Nat)).toArray 3 (0, 0)) → Calls Try.prog 13 #[.pointer (some ⟨tb, 0, none⟩), .string ⟨s.toArray⟩, .slice (some ⟨gb, 0, none⟩) l.length l.length] W (MadeJ W7.heap.size w0 tb rbx nbx mb sb m [] [([102], [p], qq)] vs r9) := fun s l T0 rbx nbx tyx nux w0 W gb r9 hs hst hb ho hl hr hW hg => by
            have h := Of_any s hs l W W7.heap.size tb rbx nbx mb sb m tyx nux T0 [] _ vs (hst.below hW) (Nat.le_trans hb hW.size) (nice_op ho) hl (some ⟨gb, 0, none⟩) l.length (idsL_blk hg)
            rw [hr] at h
            exact h.mono fun e w' hq => hq.after hb hW
          have HOF := Lib.hid hof; have HFX := Lib.hid hFx
          have hget := HJ.out.get
          obtain ⟨⟨r1, r2, T1⟩, hrr⟩ : ∃ x, ofJ T [] [103, 101, 116] [m, p] = x := ⟨_, rfl⟩
          rw [hrr] at hget
          have HGET := Lib.hid hget; have HRR := Lib.hid hrr
          clear hof hFx hget hrr HR9 hg
          have hmp : ∀ j ∈ [m, p], j < T.length := fun j hj => by simp only [List.mem_cons, List.not_mem_nil, or_false] at hj; rcases hj with rfl | rfl; exact HJ.out.ml; exact HJ.out.pl
          have HMP := Lib.hid hmp
          clear hmp
          go_region_held3 (fun w' => w'.cell? ⟨g, o9, none⟩ = some (.int .i64 (p : Nat))) (first | exact c0 | exact d0 | exact e0 | exact f0 | go_keep) (first
            | (go_at_call 17; (refine (HS9.out.below (Below.refl _ _).drew).main.mono ?_); rintro e w10 ⟨rfl, x10⟩; have e0 := (x10.cell (p := ⟨g, o9, none⟩) hg9).trans d0; have hx10 : Below w9.heap.size w9 w10 := (Below.refl _ _).drew.trans x10; have HX10 := Lib.hid hx10; clear x10 hx10)
            | (go_at_call 13; (refine (HOF.out [103, 101, 116] [m, p] T rb nb ty nu w9 _ _ _ rfl HS9.out (by omega) HJ.out.good HMP.out HRR.out (HX10.out.alloc HX10.out.size _) (heap_alloc_new _ _)).mono ?_); rintro e w11 ⟨rb11, nb11, ty11, nu11, rfl, s11, x11, k11, o11⟩; have f0 := (World.cell?_of_block (a := ⟨g, o9, none⟩) (HFX.out.step k11 o11).2).trans c0; have hz11 := k11.size; have HS11 := Lib.hid s11; have HX11 := Lib.hid x11; clear s11 x11 k11 o11))
          clear c0 d0 e0 f0
          have hbw : Below W7.heap.size W7 w11 := HX8.out.trans ((HX9.out.mono hz8).trans HX11.out)
          have hxw := (hbw.block _ (blk_ltJ HXB7.out)).trans HXB7.out
          obtain ⟨⟨x0, x1, x2, x3⟩, -⟩ := four_blk hxw
          have hck : cx.k = X.kind := tzv_kindJ HX7.out
          have HBW := Lib.hid hbw; have HXW := Lib.hid hxw; have HCK := Lib.hid hck
          clear hbw hxw hck HX8 HX9 HX10 HX11
          by_cases h6 : X.kind = 6
          · have hq := HGET.out
            rw [if_pos h6] at hq
            obtain ⟨rfl, rfl, -⟩ : r1 = 0 ∧ r2 = 17 ∧ T1 = T := by simpa using hq
            rw [HCK.out, h6] at x0
            clear hq
            go_wp2
            go_ret
            exact ⟨rfl, HBW7.out.trans (HBW.out.mono HBW7.out.size)⟩
          · have hq := HGET.out
            rw [if_neg h6] at hq
            obtain ⟨o, e, T1', hm, he, hK⟩ := HJ.out.made h6
            rw [hm] at hq
            obtain ⟨rfl, rfl, rfl⟩ : r1 = o ∧ r2 = e ∧ T1 = T1' := by simpa using hq
            have tk : ¬ cx.k = 6 := by rw [HCK.out]; exact h6
            have tk2 : (cx.k == 6) = false := by simpa using tk
            clear hq hm h6
            rcases he.symm with rfl | rfl
            · clear hK
              go_wp2
              go_ret
              exact ⟨rfl, HBW7.out.trans (HBW.out.mono HBW7.out.size)⟩
            have HK := Lib.hid (hK rfl)
            have CA := HS11.out.addJ (by omega) HSX.out.1 HSX.out.2 (HX7.out.keep (S' := Any W7) (fun _ h => h) (fun g hg => HBW.out.block g hg)) (fun g hg => ⟨by have : g < W7.heap.size := hg; omega, HS11.out.far hg⟩)
            rw [show addK (hasZ ([] : List NN)) T1 X = (kx, 0, T1) from HK.out.add] at CA
            have HCA := Lib.hid CA
            clear CA hK
            go_upto_region 18 with (go_at_call 20; (refine HCA.out.mono ?_); rintro e w12 ⟨rb12, nb12, ty12, nu12, rfl, s12, x12, k12, o12⟩; have hz12 := k12.size; have HS12 := Lib.hid s12; have HX12 := Lib.hid x12; clear s12 x12 k12 o12)
            clear x0 x1 x2 x3 HCA tk tk2
            have CND := tnode_in r1 w12 tb rb12 nb12 mb sb m ty12 nu12 T1 HS12.out.tab HK.out.ol
            obtain ⟨ko, hko⟩ : ∃ ko, T1[r1]'HK.out.ol = ko := ⟨_, rfl⟩
            have hk6 : ko.kind = 6 ∧ ko.kids = [kx] := hko ▸ HK.out.ok
            rw [hko] at CND
            obtain ⟨kk, kn, kns, kks⟩ := ko
            obtain ⟨rfl, rfl⟩ : kk = 6 ∧ kks = [kx] := hk6
            dsimp only at CND
            have HCND := Lib.hid CND
            clear CND hko
            go_upto_region 19 with (go_at_call 21; (refine HCND.out.mono ?_); rintro e w13 ⟨an, cn, ak, ck, rfl, -, r13, x13⟩; have hz13 := x13.size; have HR13 := Lib.hid r13; have HX13 := Lib.hid x13; clear r13 x13)
            clear HCND
            obtain ⟨gk, o13, rfl, hgk, ck0⟩ := idsL_cell HR13.out (i := 0) (by simp)
            rw [Nat.add_zero] at ck0
            simp only [List.getD_cons_zero] at ck0
            obtain ⟨W14, hW14⟩ : ∃ W14, W14 = w13.alloc (.cells #[.int .i64 6, .string ⟨kn.toArray⟩, .slice an kns.length cn, .slice (some ⟨gk, o13, none⟩) 1 ck] 59) := ⟨_, rfl⟩
            have hb14 : Below w13.heap.size w13 W14 := by rw [hW14]; exact (Below.refl _ _).alloc (Nat.le_refl _) _
            have hz14 : w13.heap.size + 1 ≤ W14.heap.size := by rw [hW14]; simp
            have n14 : W14.cell? ⟨w13.heap.size, 0, none⟩ = some (.int .i64 6) ∧ W14.cell? ⟨w13.heap.size, 3, none⟩ = some (.slice (some ⟨gk, o13, none⟩) 1 ck) := by have h := (four_blk (show W14.heap[w13.heap.size]? = some (.cells #[.int .i64 6, .string ⟨kn.toArray⟩, .slice an kns.length cn, .slice (some ⟨gk, o13, none⟩) 1 ck] 59 (0, 0)) by rw [hW14]; exact heap_alloc_new w13 _)).1; exact ⟨h.1, h.2.2.2⟩
            have k14 : W14.cell? ⟨gk, o13, none⟩ = some (.int .i64 (kx : Nat)) := (hb14.cell (p := ⟨gk, o13, none⟩) hgk.2).trans ck0
            have hgk1 := hgk.1; have hgk2 := hgk.2
            have fb14 : Fx W14 tb rb12 nb12 w13.heap.size := Fx.new HS12.out hz13 (by omega)
            have fk14 : Fx W14 tb rb12 nb12 gk := Fx.new HS12.out hgk1 (by omega)
            rw [← hW14]
            have hb1214 := HX13.out.trans (hb14.mono hz13)
            have HS14 := Lib.hid (HS12.out.below hb1214); have HB14 := Lib.hid (HBW.out.trans (HX12.out.trans (hb1214.mono (by omega))))
            have HN14 := Lib.hid n14; have HK14 := Lib.hid k14; have HFB14 := Lib.hid fb14; have HFK14 := Lib.hid fk14
            have HNA14 := Lib.hid n14.1; have HNB14 := Lib.hid n14.2
            clear hW14 hb14 n14 k14 fb14 fk14 hb1214 ck0 hgk HR13 HX12 HX13
            have hore := HK.out.orelse kx
            rw [if_pos rfl] at hore
            have HORE := Lib.hid hore
            have hml : ∀ j ∈ [r1, kx], j < T1.length := fun j hj => by simp only [List.mem_cons, List.not_mem_nil, or_false] at hj; rcases hj with rfl | rfl; exact HK.out.ol; exact HK.out.kl
            have HML := Lib.hid hml
            clear hore hml
            go_upto_region 20 with (go_at_call 13; (refine (HOF.out [111, 114, 101, 108, 115, 101] [r1, kx] T1 rb12 nb12 ty12 nu12 W14 _ _ _ rfl HS14.out (by omega) HK.out.good HML.out (HORE.out) ((Below.refl _ _).alloc (Nat.le_refl _) _) (heap_alloc_new _ _)).mono ?_); rintro e w15 ⟨rb15, nb15, ty15, nu15, rfl, s15, x15, k15, o15⟩; have hz15 := k15.size; have HS15 := Lib.hid s15; have HB15 := Lib.hid (HB14.out.trans x15); have st := HFB14.out.step k15 o15; have HNA15 := Lib.hid ((World.cell?_of_block (a := ⟨w13.heap.size, 0, none⟩) st.2).trans HNA14.out); have HNB15 := Lib.hid ((World.cell?_of_block (a := ⟨w13.heap.size, 3, none⟩) st.2).trans HNB14.out); have HFB15 := Lib.hid st.1; clear st; have st := HFK14.out.step k15 o15; have HK15 := Lib.hid ((World.cell?_of_block (a := ⟨gk, o13, none⟩) st.2).trans HK14.out); have HFK15 := Lib.hid st.1; clear st; clear s15 x15 k15 o15)
            obtain ⟨bb, e2, T2, hbb, hK2, he2, hbl, hb1⟩ := HK.out.bool
            have hhas := HK.out.has
            rw [hbb] at hhas
            have HHAS := Lib.hid hhas; have HK2 := Lib.hid hK2; have HE2 := Lib.hid he2; have HBL := Lib.hid hbl; have HB1 := Lib.hid hb1
            clear hbb hhas hK2 he2 hb1
            go_upto_region 21 with (go_at_call 13; (refine (HOF.out [104, 97, 115] [r1] T1 rb15 nb15 ty15 nu15 w15 _ _ _ rfl HS15.out (by omega) HK.out.good (fun j hj => by rw [List.mem_singleton.1 hj]; exact HK.out.ol) (HHAS.out) ((Below.refl _ _).alloc (Nat.le_refl _) _) (heap_alloc_new _ _)).mono ?_); rintro e w16 ⟨rb16, nb16, ty16, nu16, rfl, s16, x16, k16, o16⟩; have hz16 := k16.size; have HS16 := Lib.hid s16; have HB16 := Lib.hid (HB15.out.trans x16); have st := HFB15.out.step k16 o16; have HNA16 := Lib.hid ((World.cell?_of_block (a := ⟨w13.heap.size, 0, none⟩) st.2).trans HNA15.out); have HNB16 := Lib.hid ((World.cell?_of_block (a := ⟨w13.heap.size, 3, none⟩) st.2).trans HNB15.out); have HFB16 := Lib.hid st.1; clear st; have st := HFK15.out.step k16 o16; have HK16 := Lib.hid ((World.cell?_of_block (a := ⟨gk, o13, none⟩) st.2).trans HK15.out); have HFK16 := Lib.hid st.1; clear st; clear s16 x16 k16 o16)
            have CND := tnode_in bb w16 tb rb16 nb16 mb sb m ty16 nu16 T2 HS16.out.tab HBL.out
            obtain ⟨kb, hkb⟩ : ∃ kb, T2[bb]'HBL.out = kb := ⟨_, rfl⟩
            rw [hkb] at CND
            have hkb1 : e2 = 0 → kb.kind = 1 := fun h => hkb ▸ HB1.out h
            have HCND := Lib.hid CND; have HKB1 := Lib.hid hkb1
            clear CND hkb hkb1 HB1
            go_upto_region 22 with (go_at_call 21; (refine HCND.out.mono ?_); rintro e w17 ⟨an2, cn2, ak2, ck2, rfl, -, -, x17⟩; have hz17 := x17.size; have HX17 := Lib.hid x17; clear x17)
            clear HCND
            obtain ⟨W18, hW18⟩ : ∃ W18, W18 = w17.alloc (.cells #[.int .i64 kb.kind, .string ⟨kb.name.toArray⟩, .slice an2 kb.names.length cn2, .slice ak2 kb.kids.length ck2] 59) := ⟨_, rfl⟩
            have hb18 : Below w17.heap.size w17 W18 := by rw [hW18]; exact (Below.refl _ _).alloc (Nat.le_refl _) _
            have hz18 : w17.heap.size + 1 ≤ W18.heap.size := by rw [hW18]; simp
            have m18 : W18.cell? ⟨w17.heap.size, 0, none⟩ = some (.int .i64 kb.kind) := (four_blk (show W18.heap[w17.heap.size]? = some (.cells #[.int .i64 kb.kind, .string ⟨kb.name.toArray⟩, .slice an2 kb.names.length cn2, .slice ak2 kb.kids.length ck2] 59 (0, 0)) by rw [hW18]; exact heap_alloc_new w17 _)).1.1
            have hb1618 := HX17.out.trans (hb18.mono hz17)
            have fm18 : Fx W18 tb rb16 nb16 w17.heap.size := Fx.new HS16.out hz17 (by omega)
            have sb18 := HFB16.out.below hb1618; have sk18 := HFK16.out.below hb1618
            have HNA18 := Lib.hid ((World.cell?_of_block (a := ⟨w13.heap.size, 0, none⟩) sb18.2).trans HNA16.out); have HNB18 := Lib.hid ((World.cell?_of_block (a := ⟨w13.heap.size, 3, none⟩) sb18.2).trans HNB16.out); have HK18 := Lib.hid ((World.cell?_of_block (a := ⟨gk, o13, none⟩) sk18.2).trans HK16.out)
            rw [← hW18]
            have HFB18 := Lib.hid sb18.1; have HFK18 := Lib.hid sk18.1; have HFM18 := Lib.hid fm18; have HM18 := Lib.hid m18; have HS18 := Lib.hid (HS16.out.below hb1618); have HB18 := Lib.hid (HB16.out.trans (hb1618.mono (by omega)))
            clear hW18 hb18 m18 hb1618 fm18 sb18 sk18 HX17
            obtain ⟨⟨y1, y2, T3⟩, hy⟩ : ∃ y, ofJ T2 [] [111, 114, 101, 108, 115, 101] [r1, qq] = y := ⟨_, rfl⟩
            have hore := HK2.out.orelse qq
            rw [hy] at hore
            have hT3 : T3 = T2 := by split at hore <;> (injection hore with _ h; injection h)
            subst hT3
            have hml : ∀ j ∈ [r1, qq], j < T3.length := fun j hj => by simp only [List.mem_cons, List.not_mem_nil, or_false] at hj; rcases hj with rfl | rfl; exact HK2.out.ol; exact HK2.out.ql
            have HML2 := Lib.hid hml; have HY := Lib.hid hy; have HORE2 := Lib.hid hore
            clear hml hy hore
            go_upto_region 23 with (go_at_call 13; (refine (HOF.out [111, 114, 101, 108, 115, 101] [r1, qq] T3 rb16 nb16 ty16 nu16 W18 _ _ _ rfl HS18.out (by omega) HK2.out.good HML2.out (HY.out) ((Below.refl _ _).alloc (Nat.le_refl _) _) (heap_alloc_new _ _)).mono ?_); rintro e w19 ⟨rb19, nb19, ty19, nu19, rfl, s19, x19, k19, o19⟩; have hz19 := k19.size; have HS19 := Lib.hid s19; have HB19 := Lib.hid (HB18.out.trans x19); have st := HFB18.out.step k19 o19; have HNA19 := Lib.hid ((World.cell?_of_block (a := ⟨w13.heap.size, 0, none⟩) st.2).trans HNA18.out); have HNB19 := Lib.hid ((World.cell?_of_block (a := ⟨w13.heap.size, 3, none⟩) st.2).trans HNB18.out); have HFB19 := Lib.hid st.1; clear st; have st := HFK18.out.step k19 o19; have HK19 := Lib.hid ((World.cell?_of_block (a := ⟨gk, o13, none⟩) st.2).trans HK18.out); have HFK19 := Lib.hid st.1; clear st; have st := HFM18.out.step k19 o19; have HM19 := Lib.hid ((World.cell?_of_block (a := ⟨w17.heap.size, 0, none⟩) st.2).trans HM18.out); have HFM19 := Lib.hid st.1; clear st; clear s19 x19 k19 o19)
            go_upto_region 24 with (go_at_call 13; (refine (HOF.out [104, 97, 115] [kx] T3 rb19 nb19 ty19 nu19 w19 _ _ _ rfl HS19.out (by omega) HK2.out.good (fun j hj => by rw [List.mem_singleton.1 hj]; exact HK2.out.kl) (HK2.out.none) ((Below.refl _ _).alloc (Nat.le_refl _) _) (heap_alloc_new _ _)).mono ?_); rintro e w20 ⟨rb20, nb20, ty20, nu20, rfl, s20, x20, k20, o20⟩; have hz20 := k20.size; have HS20 := Lib.hid s20; have HB20 := Lib.hid (HB19.out.trans x20); have st := HFB19.out.step k20 o20; have HNA20 := Lib.hid ((World.cell?_of_block (a := ⟨w13.heap.size, 0, none⟩) st.2).trans HNA19.out); have HNB20 := Lib.hid ((World.cell?_of_block (a := ⟨w13.heap.size, 3, none⟩) st.2).trans HNB19.out); have HFB20 := Lib.hid st.1; clear st; have st := HFK19.out.step k20 o20; have HK20 := Lib.hid ((World.cell?_of_block (a := ⟨gk, o13, none⟩) st.2).trans HK19.out); have HFK20 := Lib.hid st.1; clear st; have st := HFM19.out.step k20 o20; have HM20 := Lib.hid ((World.cell?_of_block (a := ⟨w17.heap.size, 0, none⟩) st.2).trans HM19.out); have HFM20 := Lib.hid st.1; clear st; clear s20 x20 k20 o20)
            have a0 := HNA20.out; have a3 := HNB20.out; have ak0 := HK20.out; have am := HM20.out
            have HEND := Lib.hid (HBW7.out.trans (HB20.out.mono HBW7.out.size))
            have hE2 := HE2.out; have hO2 := HORE2.out; have hKB := HKB1.out
            clear HNA14 HNB14 HK14 HNA15 HNB15 HK15 HNA16 HNB16 HK16 HNA18 HNB18 HK18 HM18 HNA19 HNB19 HK19 HM19 HNA20 HNB20 HK20 HM20 HE2 HORE2 HKB1
            by_cases hqk : qq = kx
            · rw [if_pos hqk] at hO2
              obtain ⟨rfl, rfl⟩ : y1 = kx ∧ y2 = 0 := by simpa using hO2
              subst hqk
              clear hO2
              rcases hE2 with rfl | rfl
              · rw [hKB rfl] at am
                clear hKB
                go_wp2
                go_ret
                exact ⟨rfl, HEND.out⟩
              · clear hKB
                go_wp2
                go_ret
                exact ⟨rfl, HEND.out⟩
            · rw [if_neg hqk] at hO2
              obtain ⟨rfl, rfl⟩ : y1 = 0 ∧ y2 = 17 := by simpa using hO2
              have tq : ((qq : Int) == (kx : Int)) = false := by simp; omega
              clear hO2 hqk
              rcases hE2 with rfl | rfl
              · rw [hKB rfl] at am
                clear hKB
                go_wp2
                go_ret
                exact ⟨rfl, HEND.out⟩
              · clear hKB
                go_wp2
                go_ret
                exact ⟨rfl, HEND.out⟩
        · have tE : ((E : Int) != 0) = true := by simp; omega
          go_wp2_with (go_at_call 10; (refine HCN.out.mono ?_); rintro e w8 ⟨⟨-, k2⟩, x8⟩; obtain rfl := k2 hE; have HX8 := Lib.hid x8; clear k2 x8)
          go_ret
          exact ⟨rfl, HBW7.out.trans (HX8.out.mono HBW7.out.size)⟩
end Sp
end Go.Proofs.Ytdophmlnmbcjlaa
