/- ShapeMany's walk. -/
import Derived.Test.YtnnnjonodnkccaaZManyP
namespace Go.Proofs.Ytnnnjonodnkccaa
open Go.RowKit
namespace Sp
open Sc

set_option maxRecDepth 100000 in
set_option maxHeartbeats 8000000 in
theorem ShapeMany_any (n : Int) (w : World) (h3 : -9223372036854775808 ≤ n) (h4 : n ≤ 9223372036854775807) :
    Calls Try.prog 11 #[.int .i64 n] w fun e w' => e = .returned (.bool true) ∧ Below w.heap.size w w' := by
  obtain ⟨m, hm, hm4⟩ : ∃ m : Nat, n % 4 = m ∧ m < 4 := ⟨(n % 4).toNat, by omega, by omega⟩
  have HM := Lib.hid hm; clear hm
  obtain ⟨is, his, js, ks, ls⟩ := info_parts infoS
  obtain ⟨ik, hik, jk, kk, lk⟩ := info_parts infoTz
  obtain ⟨im, him, jm, km, lm⟩ := info_parts infoN
  obtain ⟨ig, hig, jg, kg, lg⟩ := info_parts infoG
  have HIs := Lib.hid his; have HJs := Lib.hid js; have HKs := Lib.hid ks; have HLs := Lib.hid ls
  have HIk := Lib.hid hik; have HJk := Lib.hid jk; have HKk := Lib.hid kk; have HLk := Lib.hid lk
  have HIm := Lib.hid him; have HJm := Lib.hid jm; have HKm := Lib.hid km; have HLm := Lib.hid lm
  have HIg := Lib.hid hig; have HJg := Lib.hid jg; have HKg := Lib.hid kg; have HLg := Lib.hid lg
  clear his js ks ls hik jk kk lk him jm km lm hig jg kg lg
  go_enter Try.func11, Try.ntmps11
  go_wp2_with (go_at_call 12; (with_reducible refine (known_any _).mono ?_); rintro e w1 ⟨rfl, x1⟩; have HX1 := Lib.hid x1; clear x1)
  have hx1 := HX1.out.size
  go_wp2_with (go_at_call 19; (with_reducible refine (within_is _ _ _ _ (by omega) (by omega) h3 h4 HM.out).mono ?_); rintro e w2 ⟨rfl, rfl⟩)
  go_loopw [4] (fun v wr => ∃ k x y, LRel (w1.alloc oT7) w1.heap.size cI v wr k x y) (fun v _ => 8 - (intOf v).toNat)
  case atStart => exact ⟨0, _, _, LRel.start cI⟩
  case round =>
    obtain ⟨k, x, y, h⟩ := hrel
    obtain rfl := h.slot
    have hk := h.le
    obtain ⟨⟨t0, t1, t2, t3⟩, ⟨f0, f1, f2, f3⟩⟩ := four_blk h.eat
    obtain ⟨xa, xc, rfl⟩ := own_sliceZ h.names
    obtain ⟨ya, yc, rfl⟩ := own_sliceZ h.kids
    by_cases hlt : k < 8
    · have H := Lib.hid h; clear h
      go_wp2_with fail
      refine wp_region_by (MJ wr.drew (w1.alloc oT7) (w1.heap.size) (w1.heap.size + 1) k (.slice xa k xc) (.slice ya k yc) cI) (by kernel_rfl) ?_ ?_ ?_
      · exact ⟨by simp, Closed.start _, fun i => match i with
          | 0 => .pointer (some ⟨w1.heap.size, 2, none⟩)
          | 1 => .slice xa k xc
          | 2 => .int .i64 k
          | 3 => .int .i64 (97 + (k : Int))
          | 4 => .int .u8 (97 + (k : Int))
          | 6 => .string ⟨#[lower k]⟩
          | 9 => .pointer (some ⟨w1.heap.size, 3, none⟩)
          | 10 => .slice ya k yc
          | 11 => .agg #[.int .i64 2, .string ⟨#[]⟩, .slice none 0 0, .slice none 0 0]
          | 14 => .pointer (some ⟨w1.heap.size, 2, none⟩)
          | 16 => .pointer (some ⟨w1.heap.size, 3, none⟩)
          | _ => undef, Fr.start _ _ _, ⟨rfl, rfl, rfl, rfl, rfl, rfl, rfl, rfl, rfl, rfl, rfl⟩, by simp only [rep_getD]; exact ⟨(fun h => by cases h), Side.start (W0 := wr.drew) _ (show wr.drew.ownsRow _ _ _ _ _ _ from H.out.names) _ _, Side.start (W0 := wr.drew) _ (show wr.drew.ownsRow _ _ _ _ _ _ from H.out.kids) _ _, H.out.apart, H.out.eat, H.out.only.drew, Nat.le_refl _⟩⟩
      · intro listed b v i hJ hi
        obtain ⟨hsz, hC, vals, hF, hV, hM⟩ := hJ
        obtain ⟨hl1, hi18⟩ := not_up hsz hi
        obtain ⟨_, o, ho, hdeps⟩ := mem_ready.1 hi
        have hi18 : i < 18 := hi18
        have hN := H.out.names.lt
        have hK := H.out.kids.lt
        have hEw : w1.heap.size < wr.heap.size := (Array.getElem?_eq_some_iff.1 H.out.eat).1
        have hwz : (w1.alloc oT7).heap.size = w1.heap.size + 1 := by simp
        have hc15 : listed.getD 15 false = true → ∀ j, j < 11 → listed.getD j false = true := fun h j hj => by
          obtain rfl | rfl | rfl | rfl | rfl | rfl | rfl | rfl | rfl | rfl | rfl : j = 0 ∨ j = 1 ∨ j = 2 ∨ j = 3 ∨ j = 4 ∨ j = 5 ∨ j = 6 ∨ j = 7 ∨ j = 8 ∨ j = 9 ∨ j = 10 := by omega
          · exact hC 15 _ rfl h ⟨0, .phase⟩ (by simp) rfl
          · exact hC 15 _ rfl h ⟨1, .phase⟩ (by simp) rfl
          · exact hC 15 _ rfl h ⟨2, .phase⟩ (by simp) rfl
          · exact hC 15 _ rfl h ⟨3, .phase⟩ (by simp) rfl
          · exact hC 15 _ rfl h ⟨4, .phase⟩ (by simp) rfl
          · exact hC 15 _ rfl h ⟨5, .phase⟩ (by simp) rfl
          · exact hC 15 _ rfl h ⟨6, .phase⟩ (by simp) rfl
          · exact hC 15 _ rfl h ⟨7, .phase⟩ (by simp) rfl
          · exact hC 15 _ rfl h ⟨8, .phase⟩ (by simp) rfl
          · exact hC 15 _ rfl h ⟨9, .phase⟩ (by simp) rfl
          · exact hC 15 _ rfl h ⟨10, .phase⟩ (by simp) rfl
        have hc17 : listed.getD 17 false = true → listed.getD 15 false = true := fun h => hC 17 _ rfl h ⟨15, .phase⟩ (by simp) rfl
        have htb : i < 11 → v.heap[w1.heap.size]? = some (.cells #[.int .i64 7, .string ⟨#[]⟩, .slice xa k xc, .slice ya k yc] 25 (0, 0)) := fun hlt => by
          have a := hM.tat
          have l15 : listed.getD 15 false = false := by
            cases hh : listed.getD 15 false
            · rfl
            · have := hc15 hh i hlt; rw [hl1] at this; cases this
          have l17 : listed.getD 17 false = false := by
            cases hh : listed.getD 17 false
            · rfl
            · have := hc17 hh; rw [l15] at this; cases this
          rw [l15, l17] at a
          exact a
        obtain rfl | rfl | rfl | rfl | rfl | rfl | rfl | rfl | rfl | rfl | rfl | rfl | rfl | rfl | rfl | rfl | rfl | rfl : i = 0 ∨ i = 1 ∨ i = 2 ∨ i = 3 ∨ i = 4 ∨ i = 6 ∨ i = 9 ∨ i = 10 ∨ i = 11 ∨ i = 14 ∨ i = 16 ∨ i = 5 ∨ i = 7 ∨ i = 12 ∨ i = 8 ∨ i = 13 ∨ i = 15 ∨ i = 17 := by omega
        · cases ho
          have e := hF.old_is 3 (by rfl) rfl
          refine MJ.quiet hsz hC hi hF hV hM (Slots.of (by rfl)) rfl rfl (by decide) ?_
          rw [hV.v0]
          simp [execOp, go_sem, e]
        · cases ho
          obtain ⟨⟨z0, z1, z2, z3⟩, _⟩ := four_blk (htb (by decide))
          have e := hF.up 0 24 rfl (hdeps ⟨0, .data⟩ (by simp) rfl)
          rw [hV.v0] at e
          refine MJ.quiet hsz hC hi hF hV hM (Slots.of (by rfl)) rfl rfl (by decide) ?_
          rw [hV.v1]
          simp [execOp, go_sem, e, z2]
        · cases ho
          have e := hF.old_is 4 (by rfl) rfl
          refine MJ.quiet hsz hC hi hF hV hM (Slots.of (by rfl)) rfl rfl (by decide) ?_
          rw [hV.v2]
          simp [execOp, go_sem, e]
        · cases ho
          have e := hF.up 2 26 rfl (hdeps ⟨2, .data⟩ (by simp) rfl)
          rw [hV.v2] at e
          have hw := wrap97 k (by omega)
          refine MJ.quiet hsz hC hi hF hV hM (Slots.of (by rfl)) rfl rfl (by decide) ?_
          rw [hV.v3]
          simp [execOp, go_sem, e, hw]
        · cases ho
          have e := hF.up 3 27 rfl (hdeps ⟨3, .data⟩ (by simp) rfl)
          rw [hV.v3] at e
          have hw := wrap97u k (by omega)
          refine MJ.quiet hsz hC hi hF hV hM (Slots.of (by rfl)) rfl rfl (by decide) ?_
          rw [hV.v4]
          simp [execOp, go_sem, e, hw]
        · cases ho
          have l5 := hdeps ⟨5, .data⟩ (by simp) rfl
          obtain ⟨g, q1, q2, q3, q4⟩ := hM.lit l5
          have e := hF.up 5 29 rfl l5
          rw [q1] at e
          have cv := conv_blkZ (lower_is k (by omega)) q4
          refine MJ.quiet hsz hC hi hF hV hM (Slots.of (by rfl)) rfl rfl (by decide) ?_
          rw [hV.v6]
          simp [execOp, go_sem, e, cv]
        · cases ho
          have e := hF.old_is 3 (by rfl) rfl
          refine MJ.quiet hsz hC hi hF hV hM (Slots.of (by rfl)) rfl rfl (by decide) ?_
          rw [hV.v9]
          simp [execOp, go_sem, e]
        · cases ho
          obtain ⟨⟨z0, z1, z2, z3⟩, _⟩ := four_blk (htb (by decide))
          have e := hF.up 9 33 rfl (hdeps ⟨9, .data⟩ (by simp) rfl)
          rw [hV.v9] at e
          refine MJ.quiet hsz hC hi hF hV hM (Slots.of (by rfl)) rfl rfl (by decide) ?_
          rw [hV.v10]
          simp [execOp, go_sem, e, z3]
        · cases ho
          refine MJ.quiet hsz hC hi hF hV hM (Slots.of (by rfl)) rfl rfl (by decide) ?_
          rw [hV.v11]
          simp [execOp, go_sem, cI]
        · cases ho
          have e := hF.old_is 3 (by rfl) rfl
          refine MJ.quiet hsz hC hi hF hV hM (Slots.of (by rfl)) rfl rfl (by decide) ?_
          rw [hV.v14]
          simp [execOp, go_sem, e]
        · cases ho
          have e := hF.old_is 3 (by rfl) rfl
          refine MJ.quiet hsz hC hi hF hV hM (Slots.of (by rfl)) rfl rfl (by decide) ?_
          rw [hV.v16]
          simp [execOp, go_sem, e]
        · cases ho
          have e := hF.up 4 28 rfl (hdeps ⟨4, .data⟩ (by simp) rfl)
          rw [hV.v4] at e
          obtain ⟨vals', hvals⟩ : ∃ vals' : Nat → Value, vals' = fun j => if j = 5 then .slice (some ⟨v.heap.size, 0, none⟩) 1 1 else vals j := ⟨_, rfl⟩
          have hF' : Fr _ _ vals' listed b := hF.congr (fun i h => by rw [hvals]; exact if_neg (by rintro rfl; rw [hl1] at h; cases h))
          have hV' : MV (w1.heap.size) k (.slice xa k xc) (.slice ya k yc) cI vals' := by rw [hvals]; exact ⟨hV.v0, hV.v1, hV.v2, hV.v3, hV.v4, hV.v6, hV.v9, hV.v10, hV.v11, hV.v14, hV.v16⟩
          have hn : vals' 5 = .slice (some ⟨v.heap.size, 0, none⟩) 1 1 := by rw [hvals]; rfl
          have hsame : ∀ j, j ≠ 5 → vals' j = vals j := fun j hj => by rw [hvals]; exact if_neg hj
          have gr : v.grownBy (v.alloc (.cells #[.int .u8 (97 + (k : Int))] 5)) none := World.grownBy_alloc v _ _
          refine wpOp_run (w' := v.alloc (.cells #[.int .u8 (97 + (k : Int))] 5)) (v := vals' 5) rfl rfl ?_ ⟨by simpa using hsz, hC.put hi, vals', hF'.put (Slots.of (by rfl)) hsz rfl, hV', ?_⟩
          · rw [hn]
            simp [execOp, go_sem, e]
          · simp only [getD_setF, hl1, hsz]
            exact ⟨fun _ => ⟨v.heap.size, hn, hM.size, by simp, heap_alloc_new _ _⟩, (by rw [hsame 7 (by decide), hsame 8 (by decide)]; simpa using hM.sn.keep gr (fun g e => by cases e)), (by rw [hsame 12 (by decide), hsame 13 (by decide)]; simpa using hM.sk.keep gr (fun g e => by cases e)), (by rw [hsame 8 (by decide), hsame 13 (by decide)]; simpa using hM.ap), (by rw [hsame 8 (by decide), hsame 13 (by decide)]; simpa using blk_allocZ hM.tat _), hM.only.grown gr (fun g e => by cases e), Nat.le_trans hM.size gr.size⟩
        · cases ho
          have lx : listed.getD 8 false = false := by
            cases hh : listed.getD 8 false
            · rfl
            · have := hC 8 _ rfl hh ⟨7, .data⟩ (by simp) rfl
              rw [hl1] at this; cases this
          have e := hF.up 6 30 rfl (hdeps ⟨6, .data⟩ (by simp) rfl)
          rw [hV.v6] at e
          obtain ⟨vals', hvals⟩ : ∃ vals' : Nat → Value, vals' = fun j => if j = 7 then .slice (some ⟨v.heap.size, 0, none⟩) 1 1 else vals j := ⟨_, rfl⟩
          have hF' : Fr _ _ vals' listed b := hF.congr (fun i h => by rw [hvals]; exact if_neg (by rintro rfl; rw [hl1] at h; cases h))
          have hV' : MV (w1.heap.size) k (.slice xa k xc) (.slice ya k yc) cI vals' := by rw [hvals]; exact ⟨hV.v0, hV.v1, hV.v2, hV.v3, hV.v4, hV.v6, hV.v9, hV.v10, hV.v11, hV.v14, hV.v16⟩
          have hn : vals' 7 = .slice (some ⟨v.heap.size, 0, none⟩) 1 1 := by rw [hvals]; rfl
          have hsame : ∀ j, j ≠ 7 → vals' j = vals j := fun j hj => by rw [hvals]; exact if_neg hj
          refine wpOp_run (w' := v.alloc (.cells #[.string ⟨#[lower k]⟩] 9)) (v := vals' 7) rfl rfl ?_ ⟨by simpa using hsz, hC.put hi, vals', hF'.put (Slots.of (by rfl)) hsz rfl, hV', ?_⟩
          · rw [hn]
            simp [execOp, go_sem, e]
          · have gr : v.grownBy (v.alloc (.cells #[.string ⟨#[lower k]⟩] 9)) none := World.grownBy_alloc v _ _
            simp only [getD_setF, hl1, lx, hsz]
            have a := hM.sn
            have c := hM.ap
            rw [hl1, lx] at a
            rw [lx] at c
            exact ⟨(by rw [hsame 5 (by decide)]; simpa using (fun h => (hM.lit h).keep gr (fun g e => by cases e))), (by rw [hn, hsame 8 (by decide)]; exact a.lay hM.size), (by rw [hsame 12 (by decide), hsame 13 (by decide)]; simpa using hM.sk.keep gr (fun g e => by cases e)), (by rw [hsame 8 (by decide), hsame 13 (by decide)]; simpa using c), (by rw [hsame 8 (by decide), hsame 13 (by decide)]; simpa using blk_allocZ hM.tat _), hM.only.grown gr (fun g e => by cases e), Nat.le_trans hM.size gr.size⟩
        · cases ho
          have lx : listed.getD 13 false = false := by
            cases hh : listed.getD 13 false
            · rfl
            · have := hC 13 _ rfl hh ⟨12, .data⟩ (by simp) rfl
              rw [hl1] at this; cases this
          have e := hF.up 11 35 rfl (hdeps ⟨11, .data⟩ (by simp) rfl)
          rw [hV.v11] at e
          obtain ⟨vals', hvals⟩ : ∃ vals' : Nat → Value, vals' = fun j => if j = 12 then .slice (some ⟨v.heap.size, 0, none⟩) 1 1 else vals j := ⟨_, rfl⟩
          have hF' : Fr _ _ vals' listed b := hF.congr (fun i h => by rw [hvals]; exact if_neg (by rintro rfl; rw [hl1] at h; cases h))
          have hV' : MV (w1.heap.size) k (.slice xa k xc) (.slice ya k yc) cI vals' := by rw [hvals]; exact ⟨hV.v0, hV.v1, hV.v2, hV.v3, hV.v4, hV.v6, hV.v9, hV.v10, hV.v11, hV.v14, hV.v16⟩
          have hn : vals' 12 = .slice (some ⟨v.heap.size, 0, none⟩) 1 1 := by rw [hvals]; rfl
          have hsame : ∀ j, j ≠ 12 → vals' j = vals j := fun j hj => by rw [hvals]; exact if_neg hj
          refine wpOp_run (w' := v.alloc (.cells #[.int .i64 2, .string ⟨#[]⟩, .slice none 0 0, .slice none 0 0] 25)) (v := vals' 12) rfl rfl ?_ ⟨by simpa using hsz, hC.put hi, vals', hF'.put (Slots.of (by rfl)) hsz rfl, hV', ?_⟩
          · rw [hn]
            simp [execOp, go_sem, e]; rfl
          · have gr : v.grownBy (v.alloc (.cells #[.int .i64 2, .string ⟨#[]⟩, .slice none 0 0, .slice none 0 0] 25)) none := World.grownBy_alloc v _ _
            simp only [getD_setF, hl1, lx, hsz]
            have a := hM.sk
            have c := hM.ap
            rw [hl1, lx] at a
            rw [lx] at c
            exact ⟨(by rw [hsame 5 (by decide)]; simpa using (fun h => (hM.lit h).keep gr (fun g e => by cases e))), (by rw [hsame 7 (by decide), hsame 8 (by decide)]; simpa using hM.sn.keep gr (fun g e => by cases e)), (by rw [hn, hsame 13 (by decide)]; exact a.lay hM.size), (by rw [hsame 8 (by decide), hsame 13 (by decide)]; simpa using c), (by rw [hsame 8 (by decide), hsame 13 (by decide)]; simpa using blk_allocZ hM.tat _), hM.only.grown gr (fun g e => by cases e), Nat.le_trans hM.size gr.size⟩
        · cases ho
          have la := hdeps ⟨7, .data⟩ (by simp) rfl
          have lb := hdeps ⟨1, .data⟩ (by simp) rfl
          have a := hM.sn
          rw [la, hl1] at a
          have c := hM.ap
          rw [hl1] at c
          obtain ⟨g, t1, t2, t3, t4⟩ := a.tmp rfl rfl
          have hvz : wr.heap.size ≤ v.heap.size := hM.size
          refine wpOp_wp rfl rfl (Sh.wp_append_fresh (.tmp 25) (.tmp 31) 22 rfl (w1.heap.size + 1) 9 is (.string ⟨#[]⟩) 1 16 Try.underlying22 HIs.out HJs.out HKs.out HLs.out rfl (by decide) (.slice xa k xc) k (nmV k) ((hF.eval (i := 1) rfl lb).trans hV.v1) (a.row rfl) ⟨g, 0, none⟩ 1 1 [.string ⟨#[lower k]⟩] ((hF.eval (i := 7) rfl la).trans t1) rfl (fun j u hu => by rw [addr_addZ]; simp only [World.cell?, t4]; simpa using hu) (by intro z hz; simp at hz; subst hz; rfl) (by unfold maxLen; omega) (by omega) (by omega) ?_)
          intro y w3 hown hgr hfr
          obtain ⟨vals', hvals⟩ : ∃ vals' : Nat → Value, vals' = fun j => if j = 8 then y else vals j := ⟨_, rfl⟩
          have hF' : Fr _ _ vals' listed b := hF.congr (fun i h => by rw [hvals]; exact if_neg (by rintro rfl; rw [hl1] at h; cases h))
          have hV' : MV (w1.heap.size) k (.slice xa k xc) (.slice ya k yc) cI vals' := by rw [hvals]; exact ⟨hV.v0, hV.v1, hV.v2, hV.v3, hV.v4, hV.v6, hV.v9, hV.v10, hV.v11, hV.v14, hV.v16⟩
          have hn : vals' 8 = y := by rw [hvals]; rfl
          have hsame : ∀ j, j ≠ 8 → vals' j = vals j := fun j hj => by rw [hvals]; exact if_neg hj
          have hx : ∀ g, (Value.slice xa k xc).ownBlock = some g → w1.heap.size + 1 ≤ g ∧ g < wr.heap.size := hN
          refine ⟨by simpa using hsz, hC.put hi, vals', hn ▸ hF'.put (Slots.of (by rfl)) hsz rfl, hV', ?_⟩
          simp only [getD_setF, hl1, la, hsz]
          have ko := hM.sk.keep hgr (fun g e => ⟨(hx g e).2, c g e⟩)
          have ap : ApartV y (curV (.slice ya k yc) (vals 13) (listed.getD 13 false)) := ApartV.app c hfr (fun g hg => (hM.sk.cur_lt g hg).2)
          have tt := (hgr.block (w1.heap.size) (by omega) (fun e => by have := (hx _ e.symm).1; omega)).trans hM.tat
          have l15 : listed.getD 15 false = false := by
            cases hh : listed.getD 15 false
            · rfl
            · have := hc15 hh 8 (by omega); rw [hl1] at this; cases this
          exact ⟨(by rw [hsame 5 (by decide)]; simpa using (fun h => (hM.lit h).keep hgr (fun g e => (hx g e).2))), (by rw [hn, hsame 7 (by decide)]; exact a.app hM.size hown hfr), (by rw [hsame 12 (by decide), hsame 13 (by decide)]; simpa using ko), (by rw [hn, hsame 13 (by decide)]; simpa [curV] using ap), (by rw [hsame 13 (by decide)]; rw [l15] at tt ⊢; simpa using tt), hM.only.grown hgr (fun g e => .inr (by have := (hx g e).1; omega)), Nat.le_trans hM.size hgr.size⟩
        · cases ho
          have la := hdeps ⟨12, .data⟩ (by simp) rfl
          have lb := hdeps ⟨10, .data⟩ (by simp) rfl
          have a := hM.sk
          rw [la, hl1] at a
          have c := hM.ap
          rw [hl1] at c
          obtain ⟨g, t1, t2, t3, t4⟩ := a.tmp rfl rfl
          have hvz : wr.heap.size ≤ v.heap.size := hM.size
          refine wpOp_wp rfl rfl (Sh.wp_append_fresh (.tmp 34) (.tmp 36) 23 rfl (w1.heap.size + 1) 25 ik (.agg #[.int .i64 0, .string ⟨#[]⟩, .slice none 0 0, .slice none 0 0]) 4 72 Try.underlying23 HIk.out HJk.out HKk.out HLk.out rfl (by decide) (.slice ya k yc) k (kdV cI k) ((hF.eval (i := 10) rfl lb).trans hV.v10) (a.row rfl) ⟨g, 0, none⟩ 1 1 cI.cells ((hF.eval (i := 12) rfl la).trans t1) rfl (fun j u hu => by rw [addr_addZ]; simp only [World.cell?, t4]; simpa using hu) (by exact C4.one cI) (by unfold maxLen; omega) (by omega) (by omega) ?_)
          intro y w3 hown hgr hfr
          obtain ⟨vals', hvals⟩ : ∃ vals' : Nat → Value, vals' = fun j => if j = 13 then y else vals j := ⟨_, rfl⟩
          have hF' : Fr _ _ vals' listed b := hF.congr (fun i h => by rw [hvals]; exact if_neg (by rintro rfl; rw [hl1] at h; cases h))
          have hV' : MV (w1.heap.size) k (.slice xa k xc) (.slice ya k yc) cI vals' := by rw [hvals]; exact ⟨hV.v0, hV.v1, hV.v2, hV.v3, hV.v4, hV.v6, hV.v9, hV.v10, hV.v11, hV.v14, hV.v16⟩
          have hn : vals' 13 = y := by rw [hvals]; rfl
          have hsame : ∀ j, j ≠ 13 → vals' j = vals j := fun j hj => by rw [hvals]; exact if_neg hj
          have hx : ∀ g, (Value.slice ya k yc).ownBlock = some g → w1.heap.size + 1 ≤ g ∧ g < wr.heap.size := hK
          refine ⟨by simpa using hsz, hC.put hi, vals', hn ▸ hF'.put (Slots.of (by rfl)) hsz rfl, hV', ?_⟩
          simp only [getD_setF, hl1, la, hsz]
          have ko := hM.sn.keep hgr (fun g e => ⟨(hx g e).2, c.symm g e⟩)
          have ap : ApartV y (curV (.slice xa k xc) (vals 8) (listed.getD 8 false)) := ApartV.app c.symm hfr (fun g hg => (hM.sn.cur_lt g hg).2)
          have tt := (hgr.block (w1.heap.size) (by omega) (fun e => by have := (hx _ e.symm).1; omega)).trans hM.tat
          have l17 : listed.getD 17 false = false := by
            cases hh : listed.getD 17 false
            · rfl
            · have := hC 17 _ rfl hh ⟨13, .phase⟩ (by simp) rfl
              rw [hl1] at this; cases this
          exact ⟨(by rw [hsame 5 (by decide)]; simpa using (fun h => (hM.lit h).keep hgr (fun g e => (hx g e).2))), (by rw [hsame 7 (by decide), hsame 8 (by decide)]; simpa using ko), (by rw [hn, hsame 12 (by decide)]; exact a.app hM.size hown hfr), (by rw [hn, hsame 8 (by decide)]; simpa [curV] using ap.symm), (by rw [hsame 8 (by decide)]; rw [l17] at tt ⊢; simpa using tt), hM.only.grown hgr (fun g e => .inr (by have := (hx g e).1; omega)), Nat.le_trans hM.size hgr.size⟩
        · cases ho
          have l8 := hdeps ⟨8, .data⟩ (by simp) rfl
          have l13 := hdeps ⟨13, .chain⟩ (by simp) rfl
          have l17 : listed.getD 17 false = false := by
            cases hh : listed.getD 17 false
            · rfl
            · have := hc17 hh; rw [hl1] at this; cases this
          have tt := hM.tat
          rw [hl1, l17] at tt
          have a := hM.sn
          have a2 := hM.sk
          have c := hM.ap
          rw [l8] at a c
          rw [l13] at a2 c
          have hvz : wr.heap.size ≤ v.heap.size := hM.size
          obtain ⟨va, vc, hv'⟩ := own_sliceZ (a.done rfl)
          obtain ⟨⟨z0, z1, z2, z3⟩, ⟨q0, q1, q2, q3⟩⟩ := four_blk tt
          have e := hF.up 14 38 rfl (hdeps ⟨14, .data⟩ (by simp) rfl)
          have f := hF.up 8 32 rfl (hdeps ⟨8, .data⟩ (by simp) rfl)
          rw [hV.v14] at e
          rw [hv'] at f
          have gr : v.grownBy (v.setCell ⟨w1.heap.size, 2, none⟩ (.slice va (k + 1) vc)) (some (w1.heap.size)) := (Only.refl (w1.heap.size) v).setCell 2 _
          have k1 := a.keep gr (fun g e => by cases e; exact ⟨hEw, fun e2 => by have := (a.cur_lt _ e2).1; omega⟩)
          have k2 := a2.keep gr (fun g e => by cases e; exact ⟨hEw, fun e2 => by have := (a2.cur_lt _ e2).1; omega⟩)
          have tn := set_four2 tt (.slice va (k + 1) vc)
          refine wpOp_wp rfl rfl ?_
          unfold Oper.wp Oper.upon
          simp [execOp, go_sem, e, f, z2, q2]
          refine ⟨by simpa using hsz, hC.put hi, vals, hF.put (i := 15) (Slots.of (by rfl)) hsz rfl, hV, ?_⟩
          simp only [getD_setF, hl1, l8, l13, l17, hsz]
          exact ⟨by simpa using (fun h => (hM.lit h).keep gr (fun g e => by cases e; exact hEw)), by simpa using k1, by simpa using k2, by simpa using c, by rw [hv']; simpa using tn, hM.only.grown gr (fun g e => by cases e; exact .inl rfl), Nat.le_trans hM.size gr.size⟩
        · cases ho
          have l8 := hdeps ⟨8, .phase⟩ (by simp) rfl
          have l13 := hdeps ⟨13, .data⟩ (by simp) rfl
          have l15 := hdeps ⟨15, .chain⟩ (by simp) rfl
          have tt := hM.tat
          rw [l15, hl1] at tt
          have a := hM.sn
          have a2 := hM.sk
          have c := hM.ap
          rw [l8] at a c
          rw [l13] at a2 c
          have hvz : wr.heap.size ≤ v.heap.size := hM.size
          obtain ⟨va, vc, hv'⟩ := own_sliceZ (a2.done rfl)
          obtain ⟨⟨z0, z1, z2, z3⟩, ⟨q0, q1, q2, q3⟩⟩ := four_blk tt
          have e := hF.up 16 39 rfl (hdeps ⟨16, .data⟩ (by simp) rfl)
          have f := hF.up 13 37 rfl (hdeps ⟨13, .data⟩ (by simp) rfl)
          rw [hV.v16] at e
          rw [hv'] at f
          have gr : v.grownBy (v.setCell ⟨w1.heap.size, 3, none⟩ (.slice va (k + 1) vc)) (some (w1.heap.size)) := (Only.refl (w1.heap.size) v).setCell 3 _
          have k1 := a.keep gr (fun g e => by cases e; exact ⟨hEw, fun e2 => by have := (a.cur_lt _ e2).1; omega⟩)
          have k2 := a2.keep gr (fun g e => by cases e; exact ⟨hEw, fun e2 => by have := (a2.cur_lt _ e2).1; omega⟩)
          have tn := set_four3 tt (.slice va (k + 1) vc)
          refine wpOp_wp rfl rfl ?_
          unfold Oper.wp Oper.upon
          simp [execOp, go_sem, e, f, z3, q3]
          refine ⟨by simpa using hsz, hC.put hi, vals, hF.put (i := 17) (Slots.of (by rfl)) hsz rfl, hV, ?_⟩
          simp only [getD_setF, hl1, l8, l13, l15, hsz]
          exact ⟨by simpa using (fun h => (hM.lit h).keep gr (fun g e => by cases e; exact hEw)), by simpa using k1, by simpa using k2, by simpa using c, by rw [hv']; simpa using tn, hM.only.grown gr (fun g e => by cases e; exact .inl rfl), Nat.le_trans hM.size gr.size⟩
      · intro listed b v hJ hr
        obtain ⟨hsz, hC, vals, hF, hV, hM⟩ := hJ
        have hall := all_upB (by rfl) hsz hr
        have hb : b = putAll _ vals _ 18 := hF.done (Slots.of (by rfl)) hall
        rw [hall 5 (by decide), hall 7 (by decide), hall 8 (by decide), hall 12 (by decide), hall 13 (by decide), hall 15 (by decide), hall 17 (by decide)] at hM
        obtain ⟨na, nc, hvn⟩ := own_sliceZ (hM.sn.done rfl)
        obtain ⟨ka, kc, hvk⟩ := own_sliceZ (hM.sk.done rfl)
        obtain ⟨lg, hvl, _⟩ := hM.lit rfl
        subst hb
        have e1 := hM.sn.done rfl
        have e2 := hM.sk.done rfl
        have e3 := hM.ap
        have e4 := hM.tat
        have e5 := hM.only
        rw [show nmV k ++ [.string ⟨#[lower k]⟩] = nmV (k + 1) by simp [nmV, List.range_succ]] at e1
        rw [show kdV cI k ++ cI.cells = kdV cI (k + 1) by simp [kdV, List.replicate_succ', List.flatMap_append]] at e2
        simp only [putAll, hV.v0, hV.v1, hV.v2, hV.v3, hV.v4, hV.v6, hV.v9, hV.v10, hV.v11, hV.v14, hV.v16, hvn, hvk, hvl]
        simp [dstOf]
        have E1 := Lib.hid e1; have E2 := Lib.hid e2; have E3 := Lib.hid e3; have E4 := Lib.hid e4; have E5 := Lib.hid e5
        clear e1 e2 e3 e4 e5 hM hF hV hC hvn hvk hvl hall hr hsz
        go_wp2
        exact ⟨⟨k + 1, _, _, by go_num, by omega, E4.out, E1.out, E2.out, E3.out, E5.out⟩, by simp [intOf]; omega⟩
    · obtain rfl : k = 8 := by omega
      rw [show ((8 : Nat) : Int) = 8 from rfl]
      obtain ⟨wa, rfl⟩ : ∃ wa, wa = wr := ⟨_, rfl⟩
      obtain ⟨c8, hE8, hT8⟩ : ∃ c8 : C4, wa.heap[w1.heap.size]? = some (.cells #[.int .i64 c8.k, .string c8.n, .slice c8.an c8.ln c8.cn, .slice c8.ak c8.lk c8.ck] 25 (0, 0)) ∧ TzV wa (Any wa) eightT c8 := by
        obtain ⟨an, cn, ak, ck, q1, q2, hT⟩ := h.made (TzV.leaf _ _ 2 [] : TzV wa (Any wa) zI cI)
        cases q1; cases q2
        exact ⟨⟨7, ⟨#[]⟩, xa, 8, xc, ya, 8, yc⟩, h.eat, hT⟩
      have hB1 : Below w.heap.size w wa := (HX1.out.alloc hx1 _).trans (h.only.below hx1 (by simp; omega))
      have hza := (Array.getElem?_eq_some_iff.1 hE8).1
      have HE8 := Lib.hid hE8; have HT8 := Lib.hid hT8; have HB1 := Lib.hid hB1
      clear hE8 hT8 hB1 h t0 t1 t2 t3 f0 f1 f2 f3
      go_wp2_with fail
      go_loopw [6] (fun v wr => ∃ k x y, LRel (wa.alloc oT7) wa.heap.size c8 v wr k x y) (fun v _ => 8 - (intOf v).toNat)
      case atStart => exact ⟨0, _, _, LRel.start c8⟩
      case round =>
        obtain ⟨k, x, y, h⟩ := hrel
        obtain rfl := h.slot
        have hk := h.le
        obtain ⟨⟨t0, t1, t2, t3⟩, ⟨f0, f1, f2, f3⟩⟩ := four_blk h.eat
        obtain ⟨xa, xc, rfl⟩ := own_sliceZ h.names
        obtain ⟨ya, yc, rfl⟩ := own_sliceZ h.kids
        by_cases hlt : k < 8
        · have H := Lib.hid h; clear h
          go_wp2_with fail
          refine wp_region_by (MJ wr.drew (wa.alloc oT7) (wa.heap.size) (wa.heap.size + 1) k (.slice xa k xc) (.slice ya k yc) c8) (by kernel_rfl) ?_ ?_ ?_
          · exact ⟨by simp, Closed.start _, fun i => match i with
              | 0 => .pointer (some ⟨wa.heap.size, 2, none⟩)
              | 1 => .slice xa k xc
              | 2 => .int .i64 k
              | 3 => .int .i64 (97 + (k : Int))
              | 4 => .int .u8 (97 + (k : Int))
              | 6 => .string ⟨#[lower k]⟩
              | 9 => .pointer (some ⟨wa.heap.size, 3, none⟩)
              | 10 => .slice ya k yc
              | 11 => .agg #[.int .i64 c8.k, .string c8.n, .slice c8.an c8.ln c8.cn, .slice c8.ak c8.lk c8.ck]
              | 14 => .pointer (some ⟨wa.heap.size, 2, none⟩)
              | 16 => .pointer (some ⟨wa.heap.size, 3, none⟩)
              | _ => undef, Fr.start _ _ _, ⟨rfl, rfl, rfl, rfl, rfl, rfl, rfl, rfl, rfl, rfl, rfl⟩, by simp only [rep_getD]; exact ⟨(fun h => by cases h), Side.start (W0 := wr.drew) _ (show wr.drew.ownsRow _ _ _ _ _ _ from H.out.names) _ _, Side.start (W0 := wr.drew) _ (show wr.drew.ownsRow _ _ _ _ _ _ from H.out.kids) _ _, H.out.apart, H.out.eat, H.out.only.drew, Nat.le_refl _⟩⟩
          · intro listed b v i hJ hi
            obtain ⟨hsz, hC, vals, hF, hV, hM⟩ := hJ
            obtain ⟨hl1, hi18⟩ := not_up hsz hi
            obtain ⟨_, o, ho, hdeps⟩ := mem_ready.1 hi
            have hi18 : i < 18 := hi18
            have hN := H.out.names.lt
            have hK := H.out.kids.lt
            have hEw : wa.heap.size < wr.heap.size := (Array.getElem?_eq_some_iff.1 H.out.eat).1
            have hwz : (wa.alloc oT7).heap.size = wa.heap.size + 1 := by simp
            have hc15 : listed.getD 15 false = true → ∀ j, j < 11 → listed.getD j false = true := fun h j hj => by
              obtain rfl | rfl | rfl | rfl | rfl | rfl | rfl | rfl | rfl | rfl | rfl : j = 0 ∨ j = 1 ∨ j = 2 ∨ j = 3 ∨ j = 4 ∨ j = 5 ∨ j = 6 ∨ j = 7 ∨ j = 8 ∨ j = 9 ∨ j = 10 := by omega
              · exact hC 15 _ rfl h ⟨0, .phase⟩ (by simp) rfl
              · exact hC 15 _ rfl h ⟨1, .phase⟩ (by simp) rfl
              · exact hC 15 _ rfl h ⟨2, .phase⟩ (by simp) rfl
              · exact hC 15 _ rfl h ⟨3, .phase⟩ (by simp) rfl
              · exact hC 15 _ rfl h ⟨4, .phase⟩ (by simp) rfl
              · exact hC 15 _ rfl h ⟨5, .phase⟩ (by simp) rfl
              · exact hC 15 _ rfl h ⟨6, .phase⟩ (by simp) rfl
              · exact hC 15 _ rfl h ⟨7, .phase⟩ (by simp) rfl
              · exact hC 15 _ rfl h ⟨8, .phase⟩ (by simp) rfl
              · exact hC 15 _ rfl h ⟨9, .phase⟩ (by simp) rfl
              · exact hC 15 _ rfl h ⟨10, .phase⟩ (by simp) rfl
            have hc17 : listed.getD 17 false = true → listed.getD 15 false = true := fun h => hC 17 _ rfl h ⟨15, .phase⟩ (by simp) rfl
            have htb : i < 11 → v.heap[wa.heap.size]? = some (.cells #[.int .i64 7, .string ⟨#[]⟩, .slice xa k xc, .slice ya k yc] 25 (0, 0)) := fun hlt => by
              have a := hM.tat
              have l15 : listed.getD 15 false = false := by
                cases hh : listed.getD 15 false
                · rfl
                · have := hc15 hh i hlt; rw [hl1] at this; cases this
              have l17 : listed.getD 17 false = false := by
                cases hh : listed.getD 17 false
                · rfl
                · have := hc17 hh; rw [l15] at this; cases this
              rw [l15, l17] at a
              exact a
            obtain rfl | rfl | rfl | rfl | rfl | rfl | rfl | rfl | rfl | rfl | rfl | rfl | rfl | rfl | rfl | rfl | rfl | rfl : i = 0 ∨ i = 1 ∨ i = 2 ∨ i = 3 ∨ i = 4 ∨ i = 6 ∨ i = 9 ∨ i = 10 ∨ i = 11 ∨ i = 14 ∨ i = 16 ∨ i = 5 ∨ i = 7 ∨ i = 12 ∨ i = 8 ∨ i = 13 ∨ i = 15 ∨ i = 17 := by omega
            · cases ho
              have e := hF.old_is 5 (by rfl) rfl
              refine MJ.quiet hsz hC hi hF hV hM (Slots.of (by rfl)) rfl rfl (by decide) ?_
              rw [hV.v0]
              simp [execOp, go_sem, e]
            · cases ho
              obtain ⟨⟨z0, z1, z2, z3⟩, _⟩ := four_blk (htb (by decide))
              have e := hF.up 0 45 rfl (hdeps ⟨0, .data⟩ (by simp) rfl)
              rw [hV.v0] at e
              refine MJ.quiet hsz hC hi hF hV hM (Slots.of (by rfl)) rfl rfl (by decide) ?_
              rw [hV.v1]
              simp [execOp, go_sem, e, z2]
            · cases ho
              have e := hF.old_is 6 (by rfl) rfl
              refine MJ.quiet hsz hC hi hF hV hM (Slots.of (by rfl)) rfl rfl (by decide) ?_
              rw [hV.v2]
              simp [execOp, go_sem, e]
            · cases ho
              have e := hF.up 2 47 rfl (hdeps ⟨2, .data⟩ (by simp) rfl)
              rw [hV.v2] at e
              have hw := wrap97 k (by omega)
              refine MJ.quiet hsz hC hi hF hV hM (Slots.of (by rfl)) rfl rfl (by decide) ?_
              rw [hV.v3]
              simp [execOp, go_sem, e, hw]
            · cases ho
              have e := hF.up 3 48 rfl (hdeps ⟨3, .data⟩ (by simp) rfl)
              rw [hV.v3] at e
              have hw := wrap97u k (by omega)
              refine MJ.quiet hsz hC hi hF hV hM (Slots.of (by rfl)) rfl rfl (by decide) ?_
              rw [hV.v4]
              simp [execOp, go_sem, e, hw]
            · cases ho
              have l5 := hdeps ⟨5, .data⟩ (by simp) rfl
              obtain ⟨g, q1, q2, q3, q4⟩ := hM.lit l5
              have e := hF.up 5 50 rfl l5
              rw [q1] at e
              have cv := conv_blkZ (lower_is k (by omega)) q4
              refine MJ.quiet hsz hC hi hF hV hM (Slots.of (by rfl)) rfl rfl (by decide) ?_
              rw [hV.v6]
              simp [execOp, go_sem, e, cv]
            · cases ho
              have e := hF.old_is 5 (by rfl) rfl
              refine MJ.quiet hsz hC hi hF hV hM (Slots.of (by rfl)) rfl rfl (by decide) ?_
              rw [hV.v9]
              simp [execOp, go_sem, e]
            · cases ho
              obtain ⟨⟨z0, z1, z2, z3⟩, _⟩ := four_blk (htb (by decide))
              have e := hF.up 9 54 rfl (hdeps ⟨9, .data⟩ (by simp) rfl)
              rw [hV.v9] at e
              refine MJ.quiet hsz hC hi hF hV hM (Slots.of (by rfl)) rfl rfl (by decide) ?_
              rw [hV.v10]
              simp [execOp, go_sem, e, z3]
            · cases ho
              have e := hF.old_is 3 (by rfl) rfl
              obtain ⟨⟨y0, y1, y2, y3⟩, _⟩ := four_blk (hM.only.blk (blk_allocZ HE8.out oT7) (by omega))
              refine MJ.quiet hsz hC hi hF hV hM (Slots.of (by rfl)) rfl rfl (by decide) ?_
              rw [hV.v11]
              simp [execOp, go_sem, e, y0, y1, y2, y3]
            · cases ho
              have e := hF.old_is 5 (by rfl) rfl
              refine MJ.quiet hsz hC hi hF hV hM (Slots.of (by rfl)) rfl rfl (by decide) ?_
              rw [hV.v14]
              simp [execOp, go_sem, e]
            · cases ho
              have e := hF.old_is 5 (by rfl) rfl
              refine MJ.quiet hsz hC hi hF hV hM (Slots.of (by rfl)) rfl rfl (by decide) ?_
              rw [hV.v16]
              simp [execOp, go_sem, e]
            · cases ho
              have e := hF.up 4 49 rfl (hdeps ⟨4, .data⟩ (by simp) rfl)
              rw [hV.v4] at e
              obtain ⟨vals', hvals⟩ : ∃ vals' : Nat → Value, vals' = fun j => if j = 5 then .slice (some ⟨v.heap.size, 0, none⟩) 1 1 else vals j := ⟨_, rfl⟩
              have hF' : Fr _ _ vals' listed b := hF.congr (fun i h => by rw [hvals]; exact if_neg (by rintro rfl; rw [hl1] at h; cases h))
              have hV' : MV (wa.heap.size) k (.slice xa k xc) (.slice ya k yc) c8 vals' := by rw [hvals]; exact ⟨hV.v0, hV.v1, hV.v2, hV.v3, hV.v4, hV.v6, hV.v9, hV.v10, hV.v11, hV.v14, hV.v16⟩
              have hn : vals' 5 = .slice (some ⟨v.heap.size, 0, none⟩) 1 1 := by rw [hvals]; rfl
              have hsame : ∀ j, j ≠ 5 → vals' j = vals j := fun j hj => by rw [hvals]; exact if_neg hj
              have gr : v.grownBy (v.alloc (.cells #[.int .u8 (97 + (k : Int))] 5)) none := World.grownBy_alloc v _ _
              refine wpOp_run (w' := v.alloc (.cells #[.int .u8 (97 + (k : Int))] 5)) (v := vals' 5) rfl rfl ?_ ⟨by simpa using hsz, hC.put hi, vals', hF'.put (Slots.of (by rfl)) hsz rfl, hV', ?_⟩
              · rw [hn]
                simp [execOp, go_sem, e]
              · simp only [getD_setF, hl1, hsz]
                exact ⟨fun _ => ⟨v.heap.size, hn, hM.size, by simp, heap_alloc_new _ _⟩, (by rw [hsame 7 (by decide), hsame 8 (by decide)]; simpa using hM.sn.keep gr (fun g e => by cases e)), (by rw [hsame 12 (by decide), hsame 13 (by decide)]; simpa using hM.sk.keep gr (fun g e => by cases e)), (by rw [hsame 8 (by decide), hsame 13 (by decide)]; simpa using hM.ap), (by rw [hsame 8 (by decide), hsame 13 (by decide)]; simpa using blk_allocZ hM.tat _), hM.only.grown gr (fun g e => by cases e), Nat.le_trans hM.size gr.size⟩
            · cases ho
              have lx : listed.getD 8 false = false := by
                cases hh : listed.getD 8 false
                · rfl
                · have := hC 8 _ rfl hh ⟨7, .data⟩ (by simp) rfl
                  rw [hl1] at this; cases this
              have e := hF.up 6 51 rfl (hdeps ⟨6, .data⟩ (by simp) rfl)
              rw [hV.v6] at e
              obtain ⟨vals', hvals⟩ : ∃ vals' : Nat → Value, vals' = fun j => if j = 7 then .slice (some ⟨v.heap.size, 0, none⟩) 1 1 else vals j := ⟨_, rfl⟩
              have hF' : Fr _ _ vals' listed b := hF.congr (fun i h => by rw [hvals]; exact if_neg (by rintro rfl; rw [hl1] at h; cases h))
              have hV' : MV (wa.heap.size) k (.slice xa k xc) (.slice ya k yc) c8 vals' := by rw [hvals]; exact ⟨hV.v0, hV.v1, hV.v2, hV.v3, hV.v4, hV.v6, hV.v9, hV.v10, hV.v11, hV.v14, hV.v16⟩
              have hn : vals' 7 = .slice (some ⟨v.heap.size, 0, none⟩) 1 1 := by rw [hvals]; rfl
              have hsame : ∀ j, j ≠ 7 → vals' j = vals j := fun j hj => by rw [hvals]; exact if_neg hj
              refine wpOp_run (w' := v.alloc (.cells #[.string ⟨#[lower k]⟩] 9)) (v := vals' 7) rfl rfl ?_ ⟨by simpa using hsz, hC.put hi, vals', hF'.put (Slots.of (by rfl)) hsz rfl, hV', ?_⟩
              · rw [hn]
                simp [execOp, go_sem, e]
              · have gr : v.grownBy (v.alloc (.cells #[.string ⟨#[lower k]⟩] 9)) none := World.grownBy_alloc v _ _
                simp only [getD_setF, hl1, lx, hsz]
                have a := hM.sn
                have c := hM.ap
                rw [hl1, lx] at a
                rw [lx] at c
                exact ⟨(by rw [hsame 5 (by decide)]; simpa using (fun h => (hM.lit h).keep gr (fun g e => by cases e))), (by rw [hn, hsame 8 (by decide)]; exact a.lay hM.size), (by rw [hsame 12 (by decide), hsame 13 (by decide)]; simpa using hM.sk.keep gr (fun g e => by cases e)), (by rw [hsame 8 (by decide), hsame 13 (by decide)]; simpa using c), (by rw [hsame 8 (by decide), hsame 13 (by decide)]; simpa using blk_allocZ hM.tat _), hM.only.grown gr (fun g e => by cases e), Nat.le_trans hM.size gr.size⟩
            · cases ho
              have lx : listed.getD 13 false = false := by
                cases hh : listed.getD 13 false
                · rfl
                · have := hC 13 _ rfl hh ⟨12, .data⟩ (by simp) rfl
                  rw [hl1] at this; cases this
              have e := hF.up 11 56 rfl (hdeps ⟨11, .data⟩ (by simp) rfl)
              rw [hV.v11] at e
              obtain ⟨vals', hvals⟩ : ∃ vals' : Nat → Value, vals' = fun j => if j = 12 then .slice (some ⟨v.heap.size, 0, none⟩) 1 1 else vals j := ⟨_, rfl⟩
              have hF' : Fr _ _ vals' listed b := hF.congr (fun i h => by rw [hvals]; exact if_neg (by rintro rfl; rw [hl1] at h; cases h))
              have hV' : MV (wa.heap.size) k (.slice xa k xc) (.slice ya k yc) c8 vals' := by rw [hvals]; exact ⟨hV.v0, hV.v1, hV.v2, hV.v3, hV.v4, hV.v6, hV.v9, hV.v10, hV.v11, hV.v14, hV.v16⟩
              have hn : vals' 12 = .slice (some ⟨v.heap.size, 0, none⟩) 1 1 := by rw [hvals]; rfl
              have hsame : ∀ j, j ≠ 12 → vals' j = vals j := fun j hj => by rw [hvals]; exact if_neg hj
              refine wpOp_run (w' := v.alloc (.cells #[.int .i64 c8.k, .string c8.n, .slice c8.an c8.ln c8.cn, .slice c8.ak c8.lk c8.ck] 25)) (v := vals' 12) rfl rfl ?_ ⟨by simpa using hsz, hC.put hi, vals', hF'.put (Slots.of (by rfl)) hsz rfl, hV', ?_⟩
              · rw [hn]
                simp [execOp, go_sem, e]
              · have gr : v.grownBy (v.alloc (.cells #[.int .i64 c8.k, .string c8.n, .slice c8.an c8.ln c8.cn, .slice c8.ak c8.lk c8.ck] 25)) none := World.grownBy_alloc v _ _
                simp only [getD_setF, hl1, lx, hsz]
                have a := hM.sk
                have c := hM.ap
                rw [hl1, lx] at a
                rw [lx] at c
                exact ⟨(by rw [hsame 5 (by decide)]; simpa using (fun h => (hM.lit h).keep gr (fun g e => by cases e))), (by rw [hsame 7 (by decide), hsame 8 (by decide)]; simpa using hM.sn.keep gr (fun g e => by cases e)), (by rw [hn, hsame 13 (by decide)]; exact a.lay hM.size), (by rw [hsame 8 (by decide), hsame 13 (by decide)]; simpa using c), (by rw [hsame 8 (by decide), hsame 13 (by decide)]; simpa using blk_allocZ hM.tat _), hM.only.grown gr (fun g e => by cases e), Nat.le_trans hM.size gr.size⟩
            · cases ho
              have la := hdeps ⟨7, .data⟩ (by simp) rfl
              have lb := hdeps ⟨1, .data⟩ (by simp) rfl
              have a := hM.sn
              rw [la, hl1] at a
              have c := hM.ap
              rw [hl1] at c
              obtain ⟨g, t1, t2, t3, t4⟩ := a.tmp rfl rfl
              have hvz : wr.heap.size ≤ v.heap.size := hM.size
              refine wpOp_wp rfl rfl (Sh.wp_append_fresh (.tmp 46) (.tmp 52) 22 rfl (wa.heap.size + 1) 9 is (.string ⟨#[]⟩) 1 16 Try.underlying22 HIs.out HJs.out HKs.out HLs.out rfl (by decide) (.slice xa k xc) k (nmV k) ((hF.eval (i := 1) rfl lb).trans hV.v1) (a.row rfl) ⟨g, 0, none⟩ 1 1 [.string ⟨#[lower k]⟩] ((hF.eval (i := 7) rfl la).trans t1) rfl (fun j u hu => by rw [addr_addZ]; simp only [World.cell?, t4]; simpa using hu) (by intro z hz; simp at hz; subst hz; rfl) (by unfold maxLen; omega) (by omega) (by omega) ?_)
              intro y w3 hown hgr hfr
              obtain ⟨vals', hvals⟩ : ∃ vals' : Nat → Value, vals' = fun j => if j = 8 then y else vals j := ⟨_, rfl⟩
              have hF' : Fr _ _ vals' listed b := hF.congr (fun i h => by rw [hvals]; exact if_neg (by rintro rfl; rw [hl1] at h; cases h))
              have hV' : MV (wa.heap.size) k (.slice xa k xc) (.slice ya k yc) c8 vals' := by rw [hvals]; exact ⟨hV.v0, hV.v1, hV.v2, hV.v3, hV.v4, hV.v6, hV.v9, hV.v10, hV.v11, hV.v14, hV.v16⟩
              have hn : vals' 8 = y := by rw [hvals]; rfl
              have hsame : ∀ j, j ≠ 8 → vals' j = vals j := fun j hj => by rw [hvals]; exact if_neg hj
              have hx : ∀ g, (Value.slice xa k xc).ownBlock = some g → wa.heap.size + 1 ≤ g ∧ g < wr.heap.size := hN
              refine ⟨by simpa using hsz, hC.put hi, vals', hn ▸ hF'.put (Slots.of (by rfl)) hsz rfl, hV', ?_⟩
              simp only [getD_setF, hl1, la, hsz]
              have ko := hM.sk.keep hgr (fun g e => ⟨(hx g e).2, c g e⟩)
              have ap : ApartV y (curV (.slice ya k yc) (vals 13) (listed.getD 13 false)) := ApartV.app c hfr (fun g hg => (hM.sk.cur_lt g hg).2)
              have tt := (hgr.block (wa.heap.size) (by omega) (fun e => by have := (hx _ e.symm).1; omega)).trans hM.tat
              have l15 : listed.getD 15 false = false := by
                cases hh : listed.getD 15 false
                · rfl
                · have := hc15 hh 8 (by omega); rw [hl1] at this; cases this
              exact ⟨(by rw [hsame 5 (by decide)]; simpa using (fun h => (hM.lit h).keep hgr (fun g e => (hx g e).2))), (by rw [hn, hsame 7 (by decide)]; exact a.app hM.size hown hfr), (by rw [hsame 12 (by decide), hsame 13 (by decide)]; simpa using ko), (by rw [hn, hsame 13 (by decide)]; simpa [curV] using ap), (by rw [hsame 13 (by decide)]; rw [l15] at tt ⊢; simpa using tt), hM.only.grown hgr (fun g e => .inr (by have := (hx g e).1; omega)), Nat.le_trans hM.size hgr.size⟩
            · cases ho
              have la := hdeps ⟨12, .data⟩ (by simp) rfl
              have lb := hdeps ⟨10, .data⟩ (by simp) rfl
              have a := hM.sk
              rw [la, hl1] at a
              have c := hM.ap
              rw [hl1] at c
              obtain ⟨g, t1, t2, t3, t4⟩ := a.tmp rfl rfl
              have hvz : wr.heap.size ≤ v.heap.size := hM.size
              refine wpOp_wp rfl rfl (Sh.wp_append_fresh (.tmp 55) (.tmp 57) 23 rfl (wa.heap.size + 1) 25 ik (.agg #[.int .i64 0, .string ⟨#[]⟩, .slice none 0 0, .slice none 0 0]) 4 72 Try.underlying23 HIk.out HJk.out HKk.out HLk.out rfl (by decide) (.slice ya k yc) k (kdV c8 k) ((hF.eval (i := 10) rfl lb).trans hV.v10) (a.row rfl) ⟨g, 0, none⟩ 1 1 c8.cells ((hF.eval (i := 12) rfl la).trans t1) rfl (fun j u hu => by rw [addr_addZ]; simp only [World.cell?, t4]; simpa using hu) (by exact C4.one c8) (by unfold maxLen; omega) (by omega) (by omega) ?_)
              intro y w3 hown hgr hfr
              obtain ⟨vals', hvals⟩ : ∃ vals' : Nat → Value, vals' = fun j => if j = 13 then y else vals j := ⟨_, rfl⟩
              have hF' : Fr _ _ vals' listed b := hF.congr (fun i h => by rw [hvals]; exact if_neg (by rintro rfl; rw [hl1] at h; cases h))
              have hV' : MV (wa.heap.size) k (.slice xa k xc) (.slice ya k yc) c8 vals' := by rw [hvals]; exact ⟨hV.v0, hV.v1, hV.v2, hV.v3, hV.v4, hV.v6, hV.v9, hV.v10, hV.v11, hV.v14, hV.v16⟩
              have hn : vals' 13 = y := by rw [hvals]; rfl
              have hsame : ∀ j, j ≠ 13 → vals' j = vals j := fun j hj => by rw [hvals]; exact if_neg hj
              have hx : ∀ g, (Value.slice ya k yc).ownBlock = some g → wa.heap.size + 1 ≤ g ∧ g < wr.heap.size := hK
              refine ⟨by simpa using hsz, hC.put hi, vals', hn ▸ hF'.put (Slots.of (by rfl)) hsz rfl, hV', ?_⟩
              simp only [getD_setF, hl1, la, hsz]
              have ko := hM.sn.keep hgr (fun g e => ⟨(hx g e).2, c.symm g e⟩)
              have ap : ApartV y (curV (.slice xa k xc) (vals 8) (listed.getD 8 false)) := ApartV.app c.symm hfr (fun g hg => (hM.sn.cur_lt g hg).2)
              have tt := (hgr.block (wa.heap.size) (by omega) (fun e => by have := (hx _ e.symm).1; omega)).trans hM.tat
              have l17 : listed.getD 17 false = false := by
                cases hh : listed.getD 17 false
                · rfl
                · have := hC 17 _ rfl hh ⟨13, .phase⟩ (by simp) rfl
                  rw [hl1] at this; cases this
              exact ⟨(by rw [hsame 5 (by decide)]; simpa using (fun h => (hM.lit h).keep hgr (fun g e => (hx g e).2))), (by rw [hsame 7 (by decide), hsame 8 (by decide)]; simpa using ko), (by rw [hn, hsame 12 (by decide)]; exact a.app hM.size hown hfr), (by rw [hn, hsame 8 (by decide)]; simpa [curV] using ap.symm), (by rw [hsame 8 (by decide)]; rw [l17] at tt ⊢; simpa using tt), hM.only.grown hgr (fun g e => .inr (by have := (hx g e).1; omega)), Nat.le_trans hM.size hgr.size⟩
            · cases ho
              have l8 := hdeps ⟨8, .data⟩ (by simp) rfl
              have l13 := hdeps ⟨13, .chain⟩ (by simp) rfl
              have l17 : listed.getD 17 false = false := by
                cases hh : listed.getD 17 false
                · rfl
                · have := hc17 hh; rw [hl1] at this; cases this
              have tt := hM.tat
              rw [hl1, l17] at tt
              have a := hM.sn
              have a2 := hM.sk
              have c := hM.ap
              rw [l8] at a c
              rw [l13] at a2 c
              have hvz : wr.heap.size ≤ v.heap.size := hM.size
              obtain ⟨va, vc, hv'⟩ := own_sliceZ (a.done rfl)
              obtain ⟨⟨z0, z1, z2, z3⟩, ⟨q0, q1, q2, q3⟩⟩ := four_blk tt
              have e := hF.up 14 59 rfl (hdeps ⟨14, .data⟩ (by simp) rfl)
              have f := hF.up 8 53 rfl (hdeps ⟨8, .data⟩ (by simp) rfl)
              rw [hV.v14] at e
              rw [hv'] at f
              have gr : v.grownBy (v.setCell ⟨wa.heap.size, 2, none⟩ (.slice va (k + 1) vc)) (some (wa.heap.size)) := (Only.refl (wa.heap.size) v).setCell 2 _
              have k1 := a.keep gr (fun g e => by cases e; exact ⟨hEw, fun e2 => by have := (a.cur_lt _ e2).1; omega⟩)
              have k2 := a2.keep gr (fun g e => by cases e; exact ⟨hEw, fun e2 => by have := (a2.cur_lt _ e2).1; omega⟩)
              have tn := set_four2 tt (.slice va (k + 1) vc)
              refine wpOp_wp rfl rfl ?_
              unfold Oper.wp Oper.upon
              simp [execOp, go_sem, e, f, z2, q2]
              refine ⟨by simpa using hsz, hC.put hi, vals, hF.put (i := 15) (Slots.of (by rfl)) hsz rfl, hV, ?_⟩
              simp only [getD_setF, hl1, l8, l13, l17, hsz]
              exact ⟨by simpa using (fun h => (hM.lit h).keep gr (fun g e => by cases e; exact hEw)), by simpa using k1, by simpa using k2, by simpa using c, by rw [hv']; simpa using tn, hM.only.grown gr (fun g e => by cases e; exact .inl rfl), Nat.le_trans hM.size gr.size⟩
            · cases ho
              have l8 := hdeps ⟨8, .phase⟩ (by simp) rfl
              have l13 := hdeps ⟨13, .data⟩ (by simp) rfl
              have l15 := hdeps ⟨15, .chain⟩ (by simp) rfl
              have tt := hM.tat
              rw [l15, hl1] at tt
              have a := hM.sn
              have a2 := hM.sk
              have c := hM.ap
              rw [l8] at a c
              rw [l13] at a2 c
              have hvz : wr.heap.size ≤ v.heap.size := hM.size
              obtain ⟨va, vc, hv'⟩ := own_sliceZ (a2.done rfl)
              obtain ⟨⟨z0, z1, z2, z3⟩, ⟨q0, q1, q2, q3⟩⟩ := four_blk tt
              have e := hF.up 16 60 rfl (hdeps ⟨16, .data⟩ (by simp) rfl)
              have f := hF.up 13 58 rfl (hdeps ⟨13, .data⟩ (by simp) rfl)
              rw [hV.v16] at e
              rw [hv'] at f
              have gr : v.grownBy (v.setCell ⟨wa.heap.size, 3, none⟩ (.slice va (k + 1) vc)) (some (wa.heap.size)) := (Only.refl (wa.heap.size) v).setCell 3 _
              have k1 := a.keep gr (fun g e => by cases e; exact ⟨hEw, fun e2 => by have := (a.cur_lt _ e2).1; omega⟩)
              have k2 := a2.keep gr (fun g e => by cases e; exact ⟨hEw, fun e2 => by have := (a2.cur_lt _ e2).1; omega⟩)
              have tn := set_four3 tt (.slice va (k + 1) vc)
              refine wpOp_wp rfl rfl ?_
              unfold Oper.wp Oper.upon
              simp [execOp, go_sem, e, f, z3, q3]
              refine ⟨by simpa using hsz, hC.put hi, vals, hF.put (i := 17) (Slots.of (by rfl)) hsz rfl, hV, ?_⟩
              simp only [getD_setF, hl1, l8, l13, l15, hsz]
              exact ⟨by simpa using (fun h => (hM.lit h).keep gr (fun g e => by cases e; exact hEw)), by simpa using k1, by simpa using k2, by simpa using c, by rw [hv']; simpa using tn, hM.only.grown gr (fun g e => by cases e; exact .inl rfl), Nat.le_trans hM.size gr.size⟩
          · intro listed b v hJ hr
            obtain ⟨hsz, hC, vals, hF, hV, hM⟩ := hJ
            have hall := all_upB (by rfl) hsz hr
            have hb : b = putAll _ vals _ 18 := hF.done (Slots.of (by rfl)) hall
            rw [hall 5 (by decide), hall 7 (by decide), hall 8 (by decide), hall 12 (by decide), hall 13 (by decide), hall 15 (by decide), hall 17 (by decide)] at hM
            obtain ⟨na, nc, hvn⟩ := own_sliceZ (hM.sn.done rfl)
            obtain ⟨ka, kc, hvk⟩ := own_sliceZ (hM.sk.done rfl)
            obtain ⟨lg, hvl, _⟩ := hM.lit rfl
            subst hb
            have e1 := hM.sn.done rfl
            have e2 := hM.sk.done rfl
            have e3 := hM.ap
            have e4 := hM.tat
            have e5 := hM.only
            rw [show nmV k ++ [.string ⟨#[lower k]⟩] = nmV (k + 1) by simp [nmV, List.range_succ]] at e1
            rw [show kdV c8 k ++ c8.cells = kdV c8 (k + 1) by simp [kdV, List.replicate_succ', List.flatMap_append]] at e2
            simp only [putAll, hV.v0, hV.v1, hV.v2, hV.v3, hV.v4, hV.v6, hV.v9, hV.v10, hV.v11, hV.v14, hV.v16, hvn, hvk, hvl]
            simp [dstOf]
            have E1 := Lib.hid e1; have E2 := Lib.hid e2; have E3 := Lib.hid e3; have E4 := Lib.hid e4; have E5 := Lib.hid e5
            clear e1 e2 e3 e4 e5 hM hF hV hC hvn hvk hvl hall hr hsz
            go_wp2
            exact ⟨⟨k + 1, _, _, by go_num, by omega, E4.out, E1.out, E2.out, E3.out, E5.out⟩, by simp [intOf]; omega⟩
        · obtain rfl : k = 8 := by omega
          rw [show ((8 : Nat) : Int) = 8 from rfl]
          obtain ⟨wb, rfl⟩ : ∃ wb, wb = wr := ⟨_, rfl⟩
          have hlow : Below wa.heap.size wa wb := ((Below.refl _ _).alloc (Nat.le_refl _) oT7).trans (h.only.below (Nat.le_refl _) (by simp))
          have hT8 : TzV wb (Any wb) eightT c8 := HT8.out.low rfl hlow
          obtain ⟨cw, hEW, hTW⟩ : ∃ cw : C4, wb.heap[wa.heap.size]? = some (.cells #[.int .i64 cw.k, .string cw.n, .slice cw.an cw.ln cw.cn, .slice cw.ak cw.lk cw.ck] 25 (0, 0)) ∧ TzV wb (Any wb) wideT cw := by
            obtain ⟨an, cn, ak, ck, q1, q2, hT⟩ := h.made hT8
            cases q1; cases q2
            exact ⟨⟨7, ⟨#[]⟩, xa, 8, xc, ya, 8, yc⟩, h.eat, hT⟩
          have hE8 := (hlow.block _ hza).trans HE8.out
          have hB2 := HB1.out.trans (hlow.mono HB1.out.size)
          have hzb := (Array.getElem?_eq_some_iff.1 hEW).1
          have HEB := Lib.hid hE8; have HTB := Lib.hid hT8; have HB2 := Lib.hid hB2; have HEW := Lib.hid hEW; have HTW := Lib.hid hTW
          clear hE8 hT8 hB2 hEW hTW h t0 t1 t2 t3 f0 f1 f2 f3 hlow
          go_wp2_with fail
          go_loopw [8] (fun v wr => ∃ k x, GRel (wb.alloc (.cells #[.int .i64 2, .string ⟨#[]⟩, .slice none 0 0, .slice none 0 0, .slice none 0 0, .slice none 0 0] 29)) wb.heap.size (wb.heap.size + 1) 29 44 5 5 (fun u => #[.int .i64 2, .string ⟨#[]⟩, .slice none 0 0, .slice none 0 0, u, .slice none 0 0]) (nmdV cw) v wr k x) (fun v _ => 5 - (intOf v).toNat)
          case atStart => exact ⟨0, _, GRel.start (by rw [blk_if, if_pos rfl]) rfl⟩
          case round =>
            obtain ⟨k, x, h⟩ := hrel
            obtain rfl := h.slot
            have hk := h.le
            obtain ⟨⟨s0, s1, s2, s3, s4, s5⟩, ⟨g0, g1, g2, g3, g4, g5⟩⟩ := six_blkF h.at_
            obtain ⟨xa, xc, rfl⟩ := own_sliceZ h.row
            have hEW := h.only.blk (blk_allocZ HEW.out _) (by omega)
            have hE8 := h.only.blk (blk_allocZ HEB.out _) (by omega)
            have hzr := h.only.size
            simp at hzr
            by_cases hlt : k < 5
            · obtain ⟨⟨t0, t1, t2, t3⟩, ⟨f0, f1, f2, f3⟩⟩ := four_blk hEW
              have hzw : wa.heap.size < wr.heap.size := by omega
              have hzs : wb.heap.size < wr.heap.size := by omega
              have hcv := conv_oneZ wr (65 + (k : Int)) (upper k) (upper_is k (by omega))
              have H := Lib.hid h; clear h hEW hE8
              go_wp2_with (at_builtin; (refine Sh.wpList_append_fresh rfl _ _ 26 rfl (wb.heap.size + 1) 44 im (.agg #[.string ⟨#[]⟩, .int .i64 0, .string ⟨#[]⟩, .slice none 0 0, .slice none 0 0]) 5 88 Try.underlying26 HIm.out HJm.out HKm.out HLm.out rfl (by decide) _ k (nmdV cw k) rfl ((H.out.row.alloc _).alloc _) ⟨wr.heap.size + 1, 0, none⟩ 1 1 [.string ⟨#[upper k]⟩, .int .i64 cw.k, .string cw.n, .slice cw.an cw.ln cw.cn, .slice cw.ak cw.lk cw.ck] rfl rfl (cells_atZ _ _ _ _ (by simp)) (one5 (n := [upper k])) (by unfold maxLen; omega) (by omega) (by simp; omega) ?_); intro v' w3 hown hgr hfr; have hA := H.out.app (by omega) (by simp) (((Below.refl _ _).alloc (Nat.le_refl _) _).alloc (by simp) _) hown (nmdV_succ cw k) hgr; obtain ⟨va, vc, rfl⟩ := own_sliceZ hA.row; have hz3 := hgr.size; simp at hz3; obtain ⟨⟨c0, c1, c2, c3, c4, c5⟩, ⟨d0, d1, d2, d3, d4, d5⟩⟩ := six_blkF hA.at_; have HA := Lib.hid hA; clear hown hgr hfr hA hcv)
              go_roundw
              case rel => exact ⟨k + 1, _, HA.out.next 4 (fun _ _ => rfl) (by go_num) (by omega) (by omega)⟩
              case measure => simp [intOf]; omega
            · obtain rfl : k = 5 := by omega
              rw [show ((5 : Nat) : Int) = 5 from rfl]
              obtain ⟨wc, rfl⟩ : ∃ wc, wc = wr := ⟨_, rfl⟩
              have hlow : Below wb.heap.size wb wc := ((Below.refl _ _).alloc (Nat.le_refl _) _).trans (h.only.below (Nat.le_refl _) (by simp))
              have hM : MSt wb wc wb.heap.size wc.heap.size cw xa xc (.slice none 0 0) 0 [] := ⟨hlow, h.at_, h.row, fun g hg => (h.row.lt g hg).2, World.ownsRow_nil _ _ _ _, by omega, Nat.le_refl _⟩
              have HM1 := Lib.hid hM; have HE3 := Lib.hid hE8
              clear hM hE8 hEW h s0 s1 s2 s3 s4 s5 g0 g1 g2 g3 g4 g5 hlow
              go_wp2_with fail
              go_loopw [9] (fun v wr => ∃ k x, GRel wc wb.heap.size wc.heap.size 29 46 6 3 (fun u => #[.int .i64 2, .string ⟨#[]⟩, .slice none 0 0, .slice none 0 0, .slice xa 5 xc, u]) (sgV c8) v wr k x) (fun v _ => 3 - (intOf v).toNat)
              case atStart => exact ⟨0, _, GRel.start HM1.out.at_ rfl⟩
              case round =>
                obtain ⟨k, x, h⟩ := hrel
                obtain rfl := h.slot
                have hk := h.le
                obtain ⟨⟨s0, s1, s2, s3, s4, s5⟩, ⟨g0, g1, g2, g3, g4, g5⟩⟩ := six_blkF h.at_
                obtain ⟨xb, xd, rfl⟩ := own_sliceZ h.row
                have hE8 := h.only.blk HE3.out (by omega)
                have hzq := h.only.size
                have hsc := HM1.out.hS
                by_cases hlt : k < 3
                · obtain ⟨⟨t0, t1, t2, t3⟩, ⟨f0, f1, f2, f3⟩⟩ := four_blk hE8
                  have hzw : w1.heap.size < wr.heap.size := by omega
                  have hzs : wb.heap.size < wr.heap.size := by omega
                  have hcv := conv_oneZ wr (97 + (k : Int)) (lower k) (lower_is k (by omega))
                  have hct := catF (lower k)
                  have H := Lib.hid h; clear h hE8
                  go_wp2_with (at_builtin; (refine Sh.wpList_append_fresh rfl _ _ 27 rfl wc.heap.size 46 ig (.agg #[.string ⟨#[]⟩, .slice none 0 0, .int .i64 0, .string ⟨#[]⟩, .slice none 0 0, .slice none 0 0]) 6 112 Try.underlying27 HIg.out HJg.out HKg.out HLg.out rfl (by decide) _ k (sgV c8 k) rfl ((H.out.row.alloc _).alloc _) ⟨wr.heap.size + 1, 0, none⟩ 1 1 [.string ⟨#[102, lower k]⟩, .slice none 0 0, .int .i64 c8.k, .string c8.n, .slice c8.an c8.ln c8.cn, .slice c8.ak c8.lk c8.ck] rfl rfl (cells_atZ _ _ _ _ (by simp)) (one6 (n := [102, lower k])) (by unfold maxLen; omega) (by omega) (by simp; omega) ?_); intro v' w3 hown hgr hfr; have hA := H.out.app hsc (Nat.le_refl _) (((Below.refl _ _).alloc (Nat.le_refl _) _).alloc (by simp) _) hown (sgV_succ c8 k) hgr; obtain ⟨va, vc, rfl⟩ := own_sliceZ hA.row; have hz3 := hgr.size; simp at hz3; obtain ⟨⟨c0, c1, c2, c3, c4, c5⟩, ⟨d0, d1, d2, d3, d4, d5⟩⟩ := six_blkF hA.at_; have HA := Lib.hid hA; clear hown hgr hfr hA hcv hct)
                  go_roundw
                  case rel => exact ⟨k + 1, _, HA.out.next 5 (fun _ _ => rfl) (by go_num) (by omega) hsc⟩
                  case measure => simp [intOf]; omega
                · obtain rfl : k = 3 := by omega
                  rw [show ((3 : Nat) : Int) = 3 from rfl]
                  obtain ⟨wd, rfl⟩ : ∃ wd, wd = wr := ⟨_, rfl⟩
                  have hM := HM1.out.sigsZ h h.at_ rfl
                  have HM2 := Lib.hid hM
                  clear hM hE8 h s0 s1 s2 s3 s4 s5 g0 g1 g2 g3 g4 g5
                  go_wp2_with fail
                  go_loopw [11] (fun v wr => ∃ k x, GRel (wd.alloc (oF 103)) wd.heap.size (wd.heap.size + 1) 46 25 4 4 (fun u => #[.string ⟨#[103]⟩, u, .int .i64 2, .string ⟨#[]⟩, .slice none 0 0, .slice none 0 0]) (kdV cI) v wr k x) (fun v _ => 4 - (intOf v).toNat)
                  case atStart => exact ⟨0, _, GRel.start (by rw [blk_if, if_pos rfl]; rfl) rfl⟩
                  case round =>
                    obtain ⟨k, x, h⟩ := hrel
                    obtain rfl := h.slot
                    have hk := h.le
                    obtain ⟨⟨s0, s1, s2, s3, s4, s5⟩, ⟨g0, g1, g2, g3, g4, g5⟩⟩ := six_blkF h.at_
                    obtain ⟨xp, xq, rfl⟩ := own_sliceZ h.row
                    have hzp := h.only.size
                    simp at hzp
                    by_cases hlt : k < 4
                    · have H := Lib.hid h; clear h
                      go_wp2_with (at_builtin; (refine Sh.wpList_append_fresh rfl _ _ 23 rfl (wd.heap.size + 1) 25 ik (.agg #[.int .i64 0, .string ⟨#[]⟩, .slice none 0 0, .slice none 0 0]) 4 72 Try.underlying23 HIk.out HJk.out HKk.out HLk.out rfl (by decide) _ k (kdV cI k) rfl (H.out.row.alloc _) ⟨wr.heap.size, 0, none⟩ 1 1 [.int .i64 2, .string ⟨#[]⟩, .slice none 0 0, .slice none 0 0] rfl rfl (cells_newZ _ _ _) (C4.one cI) (by unfold maxLen; omega) (by omega) (by simp; omega) ?_); intro v' w4 hown hgr hfr; have hA := H.out.app (by omega) (by simp) ((Below.refl _ _).alloc (Nat.le_refl _) _) hown (kdV_succ cI k) hgr; obtain ⟨va, vc, rfl⟩ := own_sliceZ hA.row; have hz4 := hgr.size; simp at hz4; obtain ⟨⟨c0, c1, c2, c3, c4, c5⟩, ⟨d0, d1, d2, d3, d4, d5⟩⟩ := six_blkF hA.at_; have HA := Lib.hid hA; clear hown hgr hfr hA)
                      go_roundw
                      case rel => exact ⟨k + 1, _, HA.out.next 1 (fun _ _ => rfl) (by go_num) (by omega) (by omega)⟩
                      case measure => simp [intOf]; omega
                    · obtain rfl : k = 4 := by omega
                      rw [show ((4 : Nat) : Int) = 4 from rfl]
                      obtain ⟨we, rfl⟩ : ∃ we, we = wr := ⟨_, rfl⟩
                      have hM := HM2.out.step ((Only.alloc wd.heap.size wd (oF 103)).trans h.only) (fun g e => by cases e; exact ⟨HM2.out.hB, fun e => by have := (HM2.out.sigs.lt _ e).2; omega⟩)
                      obtain ⟨⟨r0, r1, r2, r3, r4, r5⟩, ⟨q0, q1, q2, q3, q4, q5⟩⟩ := six_blkF hM.at_
                      have hzs : wb.heap.size < we.heap.size := by omega
                      have hP := h.row
                      have hap : ApartV (.slice xb 3 xd) (.slice xp 4 xq) := fun g e1 e2 => by have := (HM2.out.sigs.lt g e1).2; have := (hP.lt g e2).1; omega
                      have HM3 := Lib.hid hM; have HP := Lib.hid hP; have HAP := Lib.hid hap
                      clear hM hP hap h
                      go_wp2_with (at_builtin; (refine Sh.wpList_append_fresh rfl _ _ 27 rfl wc.heap.size 46 ig (.agg #[.string ⟨#[]⟩, .slice none 0 0, .int .i64 0, .string ⟨#[]⟩, .slice none 0 0, .slice none 0 0]) 6 112 Try.underlying27 HIg.out HJg.out HKg.out HLg.out rfl (by decide) _ 3 (sgV c8 3) rfl (HM3.out.sigs.alloc _) ⟨we.heap.size, 0, none⟩ 1 1 [.string ⟨#[103]⟩, .slice xp 4 xq, .int .i64 2, .string ⟨#[]⟩, .slice none 0 0, .slice none 0 0] rfl rfl (cells_newZ _ _ _) (one6 (n := [103])) (by unfold maxLen; omega) (by omega) (by simp; omega) ?_); intro v' w3 hown hgr hfr; have hA := HM3.out.app ((Below.refl _ _).alloc (Nat.le_refl _) _) hown hgr; have hP := (HP.out.alloc _).kept hgr (own_ne HAP.out.symm); have hap := ApartV.app HAP.out hfr (fun g e => (HP.out.alloc _).lt g e |>.2); obtain ⟨va, vc, rfl⟩ := own_sliceZ hown; have hz3 := hgr.size; simp at hz3; obtain ⟨⟨c0, c1, c2, c3, c4, c5⟩, ⟨d0, d1, d2, d3, d4, d5⟩⟩ := six_blkF hA.1; have HA := Lib.hid hA.2; have HP3 := Lib.hid hP; have HAP3 := Lib.hid hap; clear hown hgr hfr hA hP hap)
                      clear r0 r1 r2 r3 r4 r5 q0 q1 q2 q3 q4 q5 c0 c1 c2 c3 c4 c5 d0 d1 d2 d3 d4 d5
                      go_loopw [13] (fun v wr => ∃ k x, GRel ((w3.setCell ⟨wb.heap.size, 5, none⟩ (.slice va (3 + 1) vc)).alloc (oF 104)) w3.heap.size (w3.heap.size + 1) 46 25 4 m (fun u => #[.string ⟨#[104]⟩, u, .int .i64 2, .string ⟨#[]⟩, .slice none 0 0, .slice none 0 0]) (kdV cI) v wr k x) (fun v _ => m - (intOf v).toNat)
                      case atStart => exact ⟨0, _, GRel.start (by rw [blk_if, if_pos (by simp)]; rfl) rfl⟩
                      case round =>
                        obtain ⟨k, x, h⟩ := hrel
                        obtain rfl := h.slot
                        have hk := h.le
                        obtain ⟨⟨s0, s1, s2, s3, s4, s5⟩, ⟨g0, g1, g2, g3, g4, g5⟩⟩ := six_blkF h.at_
                        obtain ⟨xs, xt, rfl⟩ := own_sliceZ h.row
                        have hzs := h.only.size
                        simp at hzs
                        by_cases hlt : k < m
                        · have H := Lib.hid h; clear h
                          go_wp2_with (at_builtin; (refine Sh.wpList_append_fresh rfl _ _ 23 rfl (w3.heap.size + 1) 25 ik (.agg #[.int .i64 0, .string ⟨#[]⟩, .slice none 0 0, .slice none 0 0]) 4 72 Try.underlying23 HIk.out HJk.out HKk.out HLk.out rfl (by decide) _ k (kdV cI k) rfl (H.out.row.alloc _) ⟨wr.heap.size, 0, none⟩ 1 1 [.int .i64 2, .string ⟨#[]⟩, .slice none 0 0, .slice none 0 0] rfl rfl (cells_newZ _ _ _) (C4.one cI) (by unfold maxLen; omega) (by omega) (by simp; omega) ?_); intro v' w4 hown hgr hfr; have hA := H.out.app (by omega) (by simp) ((Below.refl _ _).alloc (Nat.le_refl _) _) hown (kdV_succ cI k) hgr; obtain ⟨va, vc, rfl⟩ := own_sliceZ hA.row; have hz4 := hgr.size; simp at hz4; obtain ⟨⟨c0, c1, c2, c3, c4, c5⟩, ⟨d0, d1, d2, d3, d4, d5⟩⟩ := six_blkF hA.at_; have HA := Lib.hid hA; clear hown hgr hfr hA)
                          go_roundw
                          case rel => exact ⟨k + 1, _, HA.out.next 1 (fun _ _ => rfl) (by go_num) (by omega) (by omega)⟩
                          case measure => simp [intOf]; omega
                        · obtain rfl : k = m := by omega
                          obtain ⟨wg, rfl⟩ : ∃ wg, wg = wr := ⟨_, rfl⟩
                          have hO : Only w3.heap.size (w3.setCell ⟨wb.heap.size, 5, none⟩ (.slice va (3 + 1) vc)) wg := (Only.alloc _ _ _).trans h.only
                          have hlt2 : ∀ g, (Value.slice va (3 + 1) vc).ownBlock = some g → g < w3.heap.size := fun g e => by have := (HA.out.sigs.lt g e).2; simpa using this
                          have hM := HA.out.step hO (fun g e => by cases e; exact ⟨by have := HA.out.hB; simpa using this, fun e => by have := hlt2 _ e; omega⟩)
                          obtain ⟨⟨r0, r1, r2, r3, r4, r5⟩, ⟨q0, q1, q2, q3, q4, q5⟩⟩ := six_blkF hM.at_
                          have hzx : wb.heap.size < wg.heap.size := by omega
                          have hP1 := (HP3.out.kept ((Only.refl wb.heap.size w3).setCell 5 (.slice va (3 + 1) vc)) (own_nb (fun g e => by have := (HP3.out.lt g e).1; omega))).kept hO (own_nb (fun g e => by have := (HP3.out.lt g e).2; omega))
                          have hP2 := h.row
                          have hap2 : ApartV (.slice va (3 + 1) vc) (.slice xs k xt) := fun g e1 e2 => by have := hlt2 g e1; have := (hP2.lt g e2).1; omega
                          have HM4 := Lib.hid hM; have HQ1 := Lib.hid hP1; have HQ2 := Lib.hid hP2; have HAQ := Lib.hid hap2
                          clear hM hP1 hP2 hap2 h hO hlt2
                          go_wp2_with (at_builtin; (refine Sh.wpList_append_fresh rfl _ _ 27 rfl wc.heap.size 46 ig (.agg #[.string ⟨#[]⟩, .slice none 0 0, .int .i64 0, .string ⟨#[]⟩, .slice none 0 0, .slice none 0 0]) 6 112 Try.underlying27 HIg.out HJg.out HKg.out HLg.out rfl (by decide) _ 4 _ rfl (HM4.out.sigs.alloc _) ⟨wg.heap.size, 0, none⟩ 1 1 [.string ⟨#[104]⟩, .slice xs k xt, .int .i64 2, .string ⟨#[]⟩, .slice none 0 0, .slice none 0 0] rfl rfl (cells_newZ _ _ _) (one6 (n := [104])) (by unfold maxLen; omega) (by omega) (by simp; omega) ?_); intro v' w5 hown hgr hfr; have hA := HM4.out.app ((Below.refl _ _).alloc (Nat.le_refl _) _) hown hgr; have hP1 := (HQ1.out.alloc _).kept hgr (own_ne (fun g e1 e2 => HAP3.out g e2 e1)); have hP2 := (HQ2.out.alloc _).kept hgr (own_ne HAQ.out.symm); have hn1 := fun g (e : (Value.slice xp 4 xq).ownBlock = some g) => (HQ1.out.lt g e).1; obtain ⟨vb, vd, rfl⟩ := own_sliceZ hown; have hz5 := hgr.size; simp at hz5; have hO := (Only.refl wb.heap.size w5).setCell 5 (.slice vb (4 + 1) vd); have hC := many_check hA.2 (hP1.kept hO (own_nb (fun g e => by have := hn1 g e; omega))) (hP2.kept hO (own_nb (fun g e => by have := (HQ2.out.lt g e).1; omega))) HTB.out HTW.out rfl hm4; obtain ⟨⟨c0, c1, c2, c3, c4, c5⟩, ⟨d0, d1, d2, d3, d4, d5⟩⟩ := six_blkF hA.1; obtain ⟨⟨y0, y1, y2, y3, y4, y5⟩, _⟩ := six_blkF hA.2.at_; have HA5 := Lib.hid hA.2; have HC := Lib.hid hC; clear hown hgr hfr hA hP1 hP2 hO hC hn1)
                          refine HC.out.mono ?_
                          rintro e w6 ⟨rfl, x6⟩
                          have HX6 := Lib.hid x6; clear x6
                          obtain rfl | rfl | rfl | rfl : k = 0 ∨ k = 1 ∨ k = 2 ∨ k = 3 := by omega
                          all_goals
                            go_wp2
                            go_ret
                            exact ⟨rfl, HB2.out.trans ((HA5.out.low.trans (HX6.out.mono HA5.out.low.size)).mono HB2.out.size)⟩
end Sp
end Go.Proofs.Ytnnnjonodnkccaa
