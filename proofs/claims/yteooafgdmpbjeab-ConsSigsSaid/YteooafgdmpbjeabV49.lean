/- Schema: its walk. Written by gen_wsch.py. -/
import Derived.Test.YteooafgdmpbjeabV34
import Derived.Deep.CutBlock
import Derived.Deep.DeepCutAuto
namespace Go.Proofs.Yteooafgdmpbjeab
open Go.RowKit
namespace Sp
open Sc
set_option maxRecDepth 100000 in
set_option maxHeartbeats 16000000 in
theorem Schema_any (main : Rw) (types sigs : List Rw) (c : R4) (at1 at2 : Option Addr) (ut us : List R4) (c1 c2 : Nat) (w : World) (hM : RwV w main c) (hT : RwsV w types at1 ut) (hG : RwsV w sigs at2 us) (hl1 : types.length ≤ maxLen) (hl2 : sigs.length ≤ maxLen) :
    Calls Try.prog 36 #[.agg #[.int .i64 c.k, .int .i64 c.n, .slice c.an c.ln c.cn, .slice c.ak c.lk c.ck], .slice at1 types.length c1, .slice at2 sigs.length c2] w (SchP (schR main types sigs) w) := by
  unfold maxLen at hl1 hl2
  have HM := Lib.hid hM; have HT := Lib.hid hT; have HG := Lib.hid hG
  clear hM hT hG
  obtain ⟨W0, hW0⟩ : ∃ W0, W0 = ((w.alloc (.cells #[.int .i64 c.k, .int .i64 c.n, .slice c.an c.ln c.cn, .slice c.ak c.lk c.ck] 45)).alloc (.cells #[.int .i64 0, .string ⟨#[]⟩, .slice none 0 0, .slice none 0 0, .slice none 0 0, .slice none 0 0] 35)).alloc (.cells #[.int .i64 0, .string ⟨#[]⟩, .slice none 0 0, .slice none 0 0, .slice none 0 0, .slice none 0 0] 35) := ⟨_, rfl⟩
  have hb0 : Below w.heap.size w W0 := by rw [hW0]; exact (((Below.refl _ _).alloc (Nat.le_refl _) _).alloc (by simp) _).alloc (by simp; omega) _
  have hz0 : W0.heap.size = w.heap.size + 3 := by rw [hW0]; simp
  have hr0 : W0.heap[w.heap.size]? = some (.cells #[.int .i64 c.k, .int .i64 c.n, .slice c.an c.ln c.cn, .slice c.ak c.lk c.ck] 45 (0, 0)) := by rw [hW0, blk_if, if_neg (by simp; omega), blk_if, if_neg (by simp), blk_if, if_pos rfl]
  have ho0 : W0.heap[w.heap.size + 1]? = some (.cells #[.int .i64 0, .string ⟨#[]⟩, .slice none 0 0, .slice none 0 0, .slice none 0 0, .slice none 0 0] 35 (0, 0)) := by rw [hW0, blk_if, if_neg (by simp), blk_if, if_pos (by simp)]
  have hs0 : W0.heap[w.heap.size + 2]? = some (.cells #[.int .i64 0, .string ⟨#[]⟩, .slice none 0 0, .slice none 0 0, .slice none 0 0, .slice none 0 0] 35 (0, 0)) := by rw [hW0, blk_if, if_pos (by simp)]
  have HW0 := Lib.hid hW0; have HB0 := Lib.hid hb0; have HR0 := Lib.hid hr0; have HO0 := Lib.hid ho0; have HS0 := Lib.hid hs0
  obtain ⟨is, his, js, ls, ms⟩ := info_parts infoS
  obtain ⟨ik, hik, jk, kk, lk⟩ := info_parts infoTz
  obtain ⟨ig, hig, jg, kg, lg⟩ := info_parts infoG
  obtain ⟨im, him, jm, km, lm⟩ := info_parts infoN
  have HIs := Lib.hid his; have HJs := Lib.hid js; have HKs := Lib.hid ls; have HLs := Lib.hid ms
  have HIk := Lib.hid hik; have HJk := Lib.hid jk; have HKk := Lib.hid kk; have HLk := Lib.hid lk
  have HIg := Lib.hid hig; have HJg := Lib.hid jg; have HKg := Lib.hid kg; have HLg := Lib.hid lg
  have HIm := Lib.hid him; have HJm := Lib.hid jm; have HKm := Lib.hid km; have HLm := Lib.hid lm
  clear hW0 hb0 hr0 ho0 hs0 his js ls ms hik jk kk lk hig jg kg lg him jm km lm
  go_enter Try.func36, Try.ntmps36
  go_upto_block 0 with fail
  rw [← HW0.out]
  go_cut [8, 9] (fun s8 s9 wx => ∃ na nc, s8 = .slice na (namesR types).length nc ∧ s9 = .int .i64 (namesR types).length ∧ wx.ownsRow (w.heap.size + 3) 9 1 (.slice na (namesR types).length nc) (namesR types).length (nmF (namesR types)) ∧ Below (w.heap.size + 3) W0 wx)
  case first =>
    go_wp2_with fail
    go_loopw [8, 9] (fun v8 v9 wr => ∃ i, L1 w W0 types v8 v9 wr i) (fun _ v9 _ => 4 - (intOf v9).toNat)
    case atStart => exact ⟨0, rfl, ⟨Nat.zero_le _, Nat.zero_le _⟩, World.ownsRow_nil _ _ _ _, Below.refl _ _⟩
    case round =>
      obtain ⟨i, h⟩ := hrel
      obtain rfl := h.slot
      obtain ⟨hi1, hi2⟩ := h.le
      have hzr := h.below.size
      obtain ⟨xa, xc, rfl⟩ := own_sliceZ h.own
      have H := Lib.hid h
      clear h
      by_cases hgo : i < types.length ∧ i < 4
      · obtain ⟨hi3, hi4⟩ := hgo
        have hi3z : (i : Int) < (types.length : Int) := by omega
        have hi4z : (i : Int) < 4 := by omega
        have hi0 : (0 : Int) ≤ (i : Int) := by omega
        have hsn := take_snoc nm4 i hi4
        have hx := nm4_at i hi4
        generalize nm4.getD i [] = n at *
        have hx' : ∀ h : i < ([.string ⟨#[65]⟩, .string ⟨#[66, 101, 101]⟩, .string ⟨#[67, 97, 116]⟩, .string ⟨#[68, 111, 103]⟩] : List Value).length, ([.string ⟨#[65]⟩, .string ⟨#[66, 101, 101]⟩, .string ⟨#[67, 97, 116]⟩, .string ⟨#[68, 111, 103]⟩] : List Value)[i] = .string ⟨n.toArray⟩ := fun h => (List.getElem?_eq_some_iff.1 hx).2
        have HSN := Lib.hid hsn
        clear hx hsn
        go_wp2_with (at_builtin; (refine Sh.wpList_append_fresh rfl _ _ 28 rfl (w.heap.size + 3) 9 is (.string ⟨#[]⟩) 1 16 Try.underlying28 HIs.out HJs.out HKs.out HLs.out rfl (by decide) _ _ _ rfl ((H.out.own.alloc _).alloc _) ⟨wr.heap.size + 1, 0, none⟩ 1 1 [.string ⟨n.toArray⟩] rfl rfl (cells_new1Z _ _ _ _) (fun x hx => by simp at hx; subst hx; rfl) (by unfold maxLen; omega) (by omega) (by simp; omega) ?_); intro v' w5 hown' hgrow hfr; have HOW := Lib.hid hown'; have HGR := Lib.hid hgrow; clear hown' hgrow hfr)
        go_roundw
        case rel =>
          have ho := HOW.out
          rw [nmF_snoc, ← HSN.out] at ho
          exact ⟨i + 1, by go_num, ⟨by omega, by omega⟩, ho, (H.out.below.trans ((Below.of_allocZ _ _ (by omega)).trans (Below.of_allocZ _ _ (by simp; omega)))).trans (below_grown HGR.out (fun g e => (H.out.own.lt g e).1) (by simp; omega))⟩
        case measure => simp [intOf]; omega
      · have hln : (namesR types).length = i := by rw [namesR_len]; omega
        have hnn : namesR types = nm4.take i := by
          unfold namesR
          by_cases e : types.length ≤ 4
          · rw [show i = types.length by omega]
          · rw [show i = 4 by omega, List.take_of_length_le (by simp [nm4]; omega), List.take_of_length_le (by simp [nm4])]
        have HLN := Lib.hid hln; have HNN := Lib.hid hnn
        clear hln hnn
        by_cases hi3 : i < types.length
        · have hi3z : (i : Int) < (types.length : Int) := by omega
          have hi4z : ¬ (i : Int) < 4 := by omega
          go_wp2
          go_meet
          exact ⟨xa, xc, by rw [HLN.out], by rw [HLN.out], by rw [HLN.out, HNN.out]; exact H.out.own, H.out.below⟩
        · have hi3z : ¬ (i : Int) < (types.length : Int) := by omega
          go_wp2
          go_meet
          exact ⟨xa, xc, by rw [HLN.out], by rw [HLN.out], by rw [HLN.out, HNN.out]; exact H.out.own, H.out.below⟩
  case rest =>
    obtain ⟨na, nc, rfl, rfl, hown, hb1⟩ := hcut
    obtain ⟨na', nc', e1, hn1⟩ := RowV.own (S := New (w.heap.size + 3) wc) (l := (namesR types).map fun n => [str n]) hown (str1_len _) (by simp) (fun g hg => hown.lt g hg)
    obtain ⟨rfl, rfl⟩ : na = na' ∧ nc = nc' := by cases e1; exact ⟨rfl, rfl⟩
    have hnl := namesR_len types
    have HN1 := Lib.hid hn1; have HB1 := Lib.hid hb1
    have hr1 := (hb1.block _ (by omega)).trans HR0.out
    have ho1 := (hb1.block _ (by omega)).trans HO0.out
    have hs1 := (hb1.block _ (by omega)).trans HS0.out
    have hbw : Below w.heap.size w wc := HB0.out.trans (hb1.mono (by omega))
    have hz1 := hb1.size
    have HR1 := Lib.hid hr1; have HO1 := Lib.hid ho1; have HS1 := Lib.hid hs1; have HBW := Lib.hid hbw
    clear hown hn1 hb1 hr1 ho1 hs1 hbw e1
    generalize hnames : namesR types = names at *
    have HNA := Lib.hid hnames; have HNL := Lib.hid hnl
    have hn4 : names.length ≤ 4 := by omega
    have hnt : names.length ≤ types.length := by omega
    clear hnames hnl
    go_wp2_with fail
    go_loopw [10] (fun v10 wr => ∃ j v us, L2 w wc names types v10 wr j v us) (fun v10 _ => 4 - (intOf v10).toNat)
    case atStart => exact ⟨0, .slice none 0 0, [], rfl, Nat.zero_le _, HS1.out, GRow.start _ _ _, HBW.out, Kp.refl _ _⟩
    case round =>
      obtain ⟨j, xv, us, h⟩ := hrel
      obtain rfl := h.slot
      have hle := h.le
      have hkz := h.kp.size
      obtain ⟨xa, xk, hxv⟩ := own_sliceZ h.row.own
      subst hxv
      obtain ⟨⟨s0, s1, s2, s3, s4, s5⟩, ⟨g0, g1, g2, g3, g4, g5⟩⟩ := six_blkF h.sat
      have H := Lib.hid h
      clear h
      by_cases hjn : j < names.length
      · have hjnz : (j : Int) < (names.length : Int) := by omega
        have hjtz : (j : Int) < (types.length : Int) := by omega
        have hj0 : (0 : Int) ≤ (j : Int) := by omega
        obtain ⟨gn, on, rfl, hgn, hcn⟩ := name_kp HN1.out j hjn
        obtain ⟨gt, ot, rc, rfl, hgt, hrv, hct⟩ := row4_at HT.out j (by omega)
        have hul : us.length = j := by rw [H.out.row.len]; simp [ntR]
        have hsz0 : w.heap.size + 2 < wr.heap.size := by omega
        have hgnz : gn < wr.heap.size := by have := hgn.2; omega
        have hgtz : gt < wr.heap.size := by omega
        have HCN := Lib.hid hcn; have HCT := Lib.hid hct; have HRV := Lib.hid hrv; have HUL := Lib.hid hul
        clear hcn hct hrv hul
        go_wp2_with fail
        refine wp_region_by (SJ wr.drew (w.heap.size + 2) wc.heap.size (.slice xa us.length xk) (.slice (some ⟨gn, on, none⟩) names.length nc) (.slice (some ⟨gt, ot, none⟩) types.length c1) j gn (on + j) gt (ot + j * 4) (names.getD j []) rc (treeR names 5 (types.getD j default)) us) (by kernel_rfl) ?_ ?_ ?_
        · exact ⟨by simp, Closed.start _, fun i => match i with
            | 0 => .pointer (some ⟨w.heap.size + 2, 4, none⟩)
            | 1 => .slice xa us.length xk
            | 2 => .slice (some ⟨gn, on, none⟩) names.length nc
            | 3 => .int .i64 j
            | 4 => .pointer (some ⟨gn, on + j, none⟩)
            | 5 => .string ⟨(names.getD j []).toArray⟩
            | 6 => .slice (some ⟨gt, ot, none⟩) types.length c1
            | 7 => .int .i64 j
            | 8 => .pointer (some ⟨gt, ot + j * 4, none⟩)
            | 9 => .agg #[.int .i64 rc.k, .int .i64 rc.n, .slice rc.an rc.ln rc.cn, .slice rc.ak rc.lk rc.ck]
            | 10 => .slice (some ⟨gn, on, none⟩) names.length nc
            | 11 => (.agg #[.int .i64 0, .string ⟨#[]⟩, .slice none 0 0, .slice none 0 0])
            | 12 => .agg #[.string ⟨(names.getD j []).toArray⟩, .int .i64 0, .string ⟨#[]⟩, .slice none 0 0, .slice none 0 0]
            | 15 => .pointer (some ⟨w.heap.size + 2, 4, none⟩)
            | _ => undef, ⟨0, ⟨#[]⟩, none, 0, 0, none, 0, 0⟩, Fr.start _ _ _, ⟨rfl, rfl, rfl, rfl, rfl, rfl, rfl, rfl, rfl, rfl, rfl, rfl, rfl, rfl⟩, by simp only [rep_getD]; exact AM.start⟩
        · intro listed b v q hJ hi
          obtain ⟨hsz, hC, vals, xc, hF, hV, hM⟩ := hJ
          obtain ⟨hl1, hiN⟩ := not_up hsz hi
          obtain ⟨_, o, ho, hdeps⟩ := mem_ready.1 hi
          have hiN : q < 17 := hiN
          obtain rfl | rfl | rfl | rfl | rfl | rfl | rfl | rfl | rfl | rfl | rfl | rfl | rfl | rfl | rfl | rfl | rfl : q = 0 ∨ q = 1 ∨ q = 2 ∨ q = 3 ∨ q = 4 ∨ q = 5 ∨ q = 6 ∨ q = 7 ∨ q = 8 ∨ q = 9 ∨ q = 10 ∨ q = 11 ∨ q = 12 ∨ q = 13 ∨ q = 14 ∨ q = 15 ∨ q = 16 := by omega
          · cases ho
            have e7 := hF.old_is 7 (by rfl) rfl
            refine SJ.quiet hsz hC hi hF hV hM (Slots.of (by rfl)) rfl rfl (by decide) ?_
            rw [hV.v0]
            simp [execOp, go_sem, e7]
          · cases ho
            have l16 : listed.getD 16 false = false := by
              cases hh : listed.getD 16 false
              · rfl
              · have y0 := hC 16 _ rfl hh ⟨1, .phase⟩ (by simp) rfl; rw [hl1] at y0; cases y0
            have hs := (hM.far (g := w.heap.size + 2) hsz0 (H.out.row.ne (by omega)) (.inr l16)).trans H.out.sat
            obtain ⟨⟨y0, y1, y2, y3, y4, y5⟩, ⟨z0, z1, z2, z3, z4, z5⟩⟩ := six_blkF hs
            have e37 := hF.up 0 37 rfl (hdeps ⟨0, .data⟩ (by simp) rfl)
            rw [hV.v0] at e37
            refine SJ.quiet hsz hC hi hF hV hM (Slots.of (by rfl)) rfl rfl (by decide) ?_
            rw [hV.v1]
            simp [execOp, go_sem, e37, y4]
          · cases ho
            have e8 := hF.old_is 8 (by rfl) rfl
            refine SJ.quiet hsz hC hi hF hV hM (Slots.of (by rfl)) rfl rfl (by decide) ?_
            rw [hV.v2]
            simp [execOp, go_sem, e8]
          · cases ho
            have e10 := hF.old_is 10 (by rfl) rfl
            refine SJ.quiet hsz hC hi hF hV hM (Slots.of (by rfl)) rfl rfl (by decide) ?_
            rw [hV.v3]
            simp [execOp, go_sem, e10]
          · cases ho
            have e39 := hF.up 2 39 rfl (hdeps ⟨2, .data⟩ (by simp) rfl)
            rw [hV.v2] at e39
            have e40 := hF.up 3 40 rfl (hdeps ⟨3, .data⟩ (by simp) rfl)
            rw [hV.v3] at e40
            refine SJ.quiet hsz hC hi hF hV hM (Slots.of (by rfl)) rfl rfl (by decide) ?_
            rw [hV.v4]
            simp [execOp, go_sem, e39, e40, hj0, hjnz]
          · cases ho
            have l16 : listed.getD 16 false = false := by
              cases hh : listed.getD 16 false
              · rfl
              · have y0 := hC 16 _ rfl hh ⟨5, .phase⟩ (by simp) rfl; rw [hl1] at y0; cases y0
            have yn := HCN.out v ((hM.far (g := gn) hgnz (H.out.row.ne hgn.2) (.inr l16)).trans (H.out.kp.blk gn hgn.2 (by have := hgn.1; omega)))
            have e41 := hF.up 4 41 rfl (hdeps ⟨4, .data⟩ (by simp) rfl)
            rw [hV.v4] at e41
            refine SJ.quiet hsz hC hi hF hV hM (Slots.of (by rfl)) rfl rfl (by decide) ?_
            rw [hV.v5]
            simp [execOp, go_sem, e41, yn]
          · cases ho
            have e1 := hF.old_is 1 (by rfl) rfl
            refine SJ.quiet hsz hC hi hF hV hM (Slots.of (by rfl)) rfl rfl (by decide) ?_
            rw [hV.v6]
            simp [execOp, go_sem, e1]
          · cases ho
            have e10 := hF.old_is 10 (by rfl) rfl
            refine SJ.quiet hsz hC hi hF hV hM (Slots.of (by rfl)) rfl rfl (by decide) ?_
            rw [hV.v7]
            simp [execOp, go_sem, e10]
          · cases ho
            have e43 := hF.up 6 43 rfl (hdeps ⟨6, .data⟩ (by simp) rfl)
            rw [hV.v6] at e43
            have e44 := hF.up 7 44 rfl (hdeps ⟨7, .data⟩ (by simp) rfl)
            rw [hV.v7] at e44
            refine SJ.quiet hsz hC hi hF hV hM (Slots.of (by rfl)) rfl rfl (by decide) ?_
            rw [hV.v8]
            simp [execOp, go_sem, e43, e44, hj0, hjtz]
          · cases ho
            have l16 : listed.getD 16 false = false := by
              cases hh : listed.getD 16 false
              · rfl
              · have y0 := hC 16 _ rfl hh ⟨9, .phase⟩ (by simp) rfl; rw [hl1] at y0; cases y0
            obtain ⟨y0, y1, y2, y3⟩ := HCT.out v ((hM.far (g := gt) hgtz (H.out.row.ne (by omega)) (.inr l16)).trans (H.out.below.block gt hgt))
            have e45 := hF.up 8 45 rfl (hdeps ⟨8, .data⟩ (by simp) rfl)
            rw [hV.v8] at e45
            refine SJ.quiet hsz hC hi hF hV hM (Slots.of (by rfl)) rfl rfl (by decide) ?_
            rw [hV.v9]
            simp [execOp, go_sem, e45, y0, y1, y2, y3]
          · cases ho
            have e8 := hF.old_is 8 (by rfl) rfl
            refine SJ.quiet hsz hC hi hF hV hM (Slots.of (by rfl)) rfl rfl (by decide) ?_
            rw [hV.v10]
            simp [execOp, go_sem, e8]
          · cases ho
            have l12 : listed.getD 12 false = false := by
              cases hh : listed.getD 12 false
              · rfl
              · have y0 := hC 12 _ rfl hh ⟨11, .data⟩ (by simp) rfl; rw [hl1] at y0; cases y0
            have l13 : listed.getD 13 false = false := by
              cases hh : listed.getD 13 false
              · rfl
              · have y0 := hC 13 _ rfl hh ⟨12, .data⟩ (by simp) rfl; have y1 := hC 12 _ rfl y0 ⟨11, .data⟩ (by simp) rfl; rw [hl1] at y1; cases y1
            have l14 : listed.getD 14 false = false := by
              cases hh : listed.getD 14 false
              · rfl
              · have y0 := hC 14 _ rfl hh ⟨11, .chain⟩ (by simp) rfl; rw [hl1] at y0; cases y0
            have l16 : listed.getD 16 false = false := by
              cases hh : listed.getD 16 false
              · rfl
              · have y0 := hC 16 _ rfl hh ⟨11, .phase⟩ (by simp) rfl; rw [hl1] at y0; cases y0
            have e46 := hF.up 9 46 rfl (hdeps ⟨9, .data⟩ (by simp) rfl)
            rw [hV.v9] at e46
            have e47 := hF.up 10 47 rfl (hdeps ⟨10, .data⟩ (by simp) rfl)
            rw [hV.v10] at e47
            rw [hl1, l13, l14, l16] at hM
            have hbv := Below.of_drew hM.below
            have CT := Tree_any 5 (by decide) (types.getD j default) rc names (some ⟨gn, on, none⟩) nc v (HRV.out.later (H.out.below.trans (hbv.mono (by omega)))) (HN1.out.keep (fun g hg => by have := hbv.size; omega) (fun g hg => (hbv.block g (by have := hg.2; omega)).trans (H.out.kp.blk g hg.2 (by have := hg.1; omega)))) (by omega)
            refine wpOp_call (f := 15) (args := #[.agg #[.int .i64 rc.k, .int .i64 rc.n, .slice rc.an rc.ln rc.cn, .slice rc.ak rc.lk rc.ck], .int .i64 5, .slice (some ⟨gn, on, none⟩) names.length nc]) rfl rfl (by simp [execOp, go_sem, e46, e47]) CT ?_
            rintro e w' ⟨yc, rfl, hk, hb⟩
            refine ⟨_, rfl, ?_⟩
            obtain ⟨vals', hvals⟩ : ∃ vals' : Nat → Value, vals' = fun q => if q = 11 then (Value.agg #[.int .i64 yc.k, .string yc.n, .slice yc.an yc.ln yc.cn, .slice yc.ak yc.lk yc.ck]) else if q = 12 then (Value.agg #[.string ⟨(names.getD j []).toArray⟩, .int .i64 yc.k, .string yc.n, .slice yc.an yc.ln yc.cn, .slice yc.ak yc.lk yc.ck]) else vals q := ⟨_, rfl⟩
            have hF' : Fr _ _ vals' listed b := hF.congr (fun i h => by rw [hvals]; exact (if_neg (by rintro rfl; rw [hl1] at h; cases h)).trans (if_neg (by rintro rfl; rw [l12] at h; cases h)))
            have hV' : SV (w.heap.size + 2) (.slice xa us.length xk) (.slice (some ⟨gn, on, none⟩) names.length nc) (.slice (some ⟨gt, ot, none⟩) types.length c1) j gn (on + j) gt (ot + j * 4) (names.getD j []) rc yc vals' := by rw [hvals]; exact ⟨hV.v0, hV.v1, hV.v2, hV.v3, hV.v4, hV.v5, hV.v6, hV.v7, hV.v8, hV.v9, hV.v10, rfl, rfl, hV.v15⟩
            have hn : vals' 11 = .agg #[.int .i64 yc.k, .string yc.n, .slice yc.an yc.ln yc.cn, .slice yc.ak yc.lk yc.ck] := by rw [hvals]; rfl
            refine ⟨by simpa using hsz, hC.put hi, vals', yc, hn ▸ hF'.put (Slots.of (by rfl)) hsz rfl, hV', ?_⟩
            rw [getD_setE (i := 11) (by simp [hsz]), getD_setN (show 11 ≠ 13 by decide), getD_setN (show 11 ≠ 14 by decide), getD_setN (show 11 ≠ 16 by decide), l13, l14, l16]
            exact hM.called hb hk
          · cases ho
            have e42 := hF.up 5 42 rfl (hdeps ⟨5, .data⟩ (by simp) rfl)
            rw [hV.v5] at e42
            have e48 := hF.up 11 48 rfl (hdeps ⟨11, .data⟩ (by simp) rfl)
            rw [hV.v11] at e48
            refine SJ.quiet hsz hC hi hF hV hM (Slots.of (by rfl)) rfl rfl (by decide) ?_
            rw [hV.v12]
            simp [execOp, go_sem, e42, e48]
          · cases ho
            have u11_0 := hdeps ⟨12, .data⟩ (by simp) rfl
            have l11 := hC 12 _ rfl u11_0 ⟨11, .data⟩ (by simp) rfl
            have l14 : listed.getD 14 false = false := by
              cases hh : listed.getD 14 false
              · rfl
              · have y0 := hC 14 _ rfl hh ⟨13, .data⟩ (by simp) rfl; rw [hl1] at y0; cases y0
            have l16 : listed.getD 16 false = false := by
              cases hh : listed.getD 16 false
              · rfl
              · have y0 := hC 16 _ rfl hh ⟨13, .phase⟩ (by simp) rfl; rw [hl1] at y0; cases y0
            have e49 := hF.up 12 49 rfl (hdeps ⟨12, .data⟩ (by simp) rfl)
            rw [hV.v12] at e49
            rw [l11, hl1, l14, l16] at hM
            obtain ⟨vals', hvals⟩ : ∃ vals' : Nat → Value, vals' = fun q => if q = 13 then (Value.slice (some ⟨v.heap.size, 0, none⟩) 1 1) else vals q := ⟨_, rfl⟩
            have hF' : Fr _ _ vals' listed b := hF.congr (fun i h => by rw [hvals]; exact (if_neg (by rintro rfl; rw [hl1] at h; cases h)))
            have hV' : SV (w.heap.size + 2) (.slice xa us.length xk) (.slice (some ⟨gn, on, none⟩) names.length nc) (.slice (some ⟨gt, ot, none⟩) types.length c1) j gn (on + j) gt (ot + j * 4) (names.getD j []) rc xc vals' := by rw [hvals]; exact ⟨hV.v0, hV.v1, hV.v2, hV.v3, hV.v4, hV.v5, hV.v6, hV.v7, hV.v8, hV.v9, hV.v10, hV.v11, hV.v12, hV.v15⟩
            have hn : vals' 13 = .slice (some ⟨v.heap.size, 0, none⟩) 1 1 := by rw [hvals]; rfl
            refine wpOp_run (w' := v.alloc (.cells (encZ ((names.getD j []), xc)).toArray 120)) (v := vals' 13) rfl rfl ?_ ⟨by simpa using hsz, hC.put hi, vals', xc, hF'.put (Slots.of (by rfl)) hsz rfl, hV', ?_⟩
            · rw [hn]
              simp [execOp, go_sem, e49, encZ, str]
            · rw [getD_setE (i := 13) (by simp [hsz]), getD_setN (show 13 ≠ 11 by decide), getD_setN (show 13 ≠ 14 by decide), getD_setN (show 13 ≠ 16 by decide), l11, l14, l16]
              rw [hn]
              exact hM.laid
          · cases ho
            have l11 := hdeps ⟨11, .chain⟩ (by simp) rfl
            have l13 := hdeps ⟨13, .data⟩ (by simp) rfl
            have l16 : listed.getD 16 false = false := by
              cases hh : listed.getD 16 false
              · rfl
              · have y0 := hC 16 _ rfl hh ⟨14, .data⟩ (by simp) rfl; rw [hl1] at y0; cases y0
            have d1 := hdeps ⟨1, .data⟩ (by simp) rfl
            rw [l11, l13, hl1, l16] at hM
            obtain ⟨v0, h0, h2, rfl, hbs⟩ := hM.bs_at
            have h0' := Below.of_drew h0
            have h0z := h0'.size
            refine wpOp_wp rfl rfl (Sh.wp_append_fresh (.tmp 38) (.tmp 50) 32 rfl wc.heap.size 120 im (.agg #[.string ⟨#[]⟩, .int .i64 0, .string ⟨#[]⟩, .slice none 0 0, .slice none 0 0]) 5 88 Try.underlying32 HIm.out HJm.out HKm.out HLm.out rfl (by decide) (.slice xa us.length xk) us.length (us.flatMap encZ) ((hF.eval (i := 1) rfl d1).trans hV.v1) ((H.out.row.below h0').alloc _).own ⟨v0.heap.size, 0, none⟩ 1 1 (encZ ((names.getD j []), xc)) ((hF.eval (i := 13) rfl l13).trans hbs) rfl (cells_newZ v0 (encZ ((names.getD j []), xc)) 120) (one5 (n := (names.getD j []))) (by have := HUL.out; unfold maxLen; omega) (by have := HUL.out; omega) (by simp; omega) ?_)
            intro y w3 hown hgr hfr
            obtain ⟨vals', hvals⟩ : ∃ vals' : Nat → Value, vals' = fun q => if q = 14 then y else vals q := ⟨_, rfl⟩
            have hF' : Fr _ _ vals' listed b := hF.congr (fun i h => by rw [hvals]; exact (if_neg (by rintro rfl; rw [hl1] at h; cases h)))
            have hV' : SV (w.heap.size + 2) (.slice xa us.length xk) (.slice (some ⟨gn, on, none⟩) names.length nc) (.slice (some ⟨gt, ot, none⟩) types.length c1) j gn (on + j) gt (ot + j * 4) (names.getD j []) rc xc vals' := by rw [hvals]; exact ⟨hV.v0, hV.v1, hV.v2, hV.v3, hV.v4, hV.v5, hV.v6, hV.v7, hV.v8, hV.v9, hV.v10, hV.v11, hV.v12, hV.v15⟩
            have hn : vals' 14 = y := by rw [hvals]; rfl
            have hn3 : vals' 13 = vals 13 := by rw [hvals]; rfl
            refine ⟨by simpa using hsz, hC.put hi, vals', xc, hn ▸ hF'.put (Slots.of (by rfl)) hsz rfl, hV', ?_⟩
            rw [getD_setE (i := 14) (by simp [hsz]), getD_setN (show 14 ≠ 11 by decide), getD_setN (show 14 ≠ 13 by decide), getD_setN (show 14 ≠ 16 by decide), l11, l13, l16]
            rw [hn, hn3]
            exact AM.appended h0 h2 ⟨hown, hgr, hfr⟩
          · cases ho
            have e7 := hF.old_is 7 (by rfl) rfl
            refine SJ.quiet hsz hC hi hF hV hM (Slots.of (by rfl)) rfl rfl (by decide) ?_
            rw [hV.v15]
            simp [execOp, go_sem, e7]
          · cases ho
            have l11 := hdeps ⟨11, .phase⟩ (by simp) rfl
            have l13 := hdeps ⟨13, .phase⟩ (by simp) rfl
            have l14 := hdeps ⟨14, .data⟩ (by simp) rfl
            have e52 := hF.up 15 52 rfl (hdeps ⟨15, .data⟩ (by simp) rfl)
            rw [hV.v15] at e52
            have e51 := hF.up 14 51 rfl (hdeps ⟨14, .data⟩ (by simp) rfl)
            have hs := (hM.far (g := w.heap.size + 2) hsz0 (H.out.row.ne (by omega)) (.inr hl1)).trans H.out.sat
            obtain ⟨⟨y0, y1, y2, y3, y4, y5⟩, ⟨z0, z1, z2, z3, z4, z5⟩⟩ := six_blkF hs
            rw [l11, l13, l14, hl1] at hM
            obtain ⟨va, vc, hap⟩ := hM.row_at
            rw [hap] at e51
            refine wpOp_wp rfl rfl ?_
            unfold Oper.wp Oper.upon
            simp [execOp, go_sem, e52, e51, y4, z4]
            refine ⟨by simpa using hsz, hC.put hi, vals, xc, hF.put (i := 16) (Slots.of (by rfl)) hsz rfl, hV, ?_⟩
            rw [getD_setE (i := 16) (by simp [hsz]), getD_setN (show 16 ≠ 11 by decide), getD_setN (show 16 ≠ 13 by decide), getD_setN (show 16 ≠ 14 by decide), l11, l13, l14]
            rw [← hap]
            exact hM.stored
        · intro listed b v hJ hr
          obtain ⟨hsz, hC, vals, xc, hF, hV, hM⟩ := hJ
          have hall := all_upB (by rfl) hsz hr
          have hb : b = putAll _ vals _ 17 := hF.done (Slots.of (by rfl)) hall
          rw [hall 11 (by decide), hall 13 (by decide), hall 14 (by decide), hall 16 (by decide)] at hM
          obtain ⟨v0, w3, h0, h2, hp, rfl⟩ := hM.done
          obtain ⟨va, vc, hap⟩ := own_sliceZ hp.own
          subst hb
          simp only [putAll, hV.v0, hV.v1, hV.v2, hV.v3, hV.v4, hV.v5, hV.v6, hV.v7, hV.v8, hV.v9, hV.v10, hV.v11, hV.v12, hV.v15, hap]
          simp [dstOf]
          have h0' := Below.of_drew h0
          have hz3 : w3.heap.size ≥ v0.heap.size := by have := hp.grown.size; simp at this; omega
          have h0z := h0'.size
          have hS3 := ((AM.appended (bs := vals 13) (sb := w.heap.size + 2) (off := 4) (enc := fun c => encZ ((names.getD j []), c)) h0 h2 hp).far (g := w.heap.size + 2) hsz0 (H.out.row.ne (by omega)) (.inr rfl)).trans H.out.sat
          have hg3 := (GRow.snoc (H.out.row.below h0') (h2.free (X := ((w.heap.size + 2) :: (w.heap.size + 1) :: List.range w.heap.size)) (vs := [.slice xa us.length xk]) (fun x hx => by simp at hx ⊢; omega) (fun v hv g e => by rw [List.mem_singleton.1 hv] at e; exact (H.out.row.own.lt g e).2)) hp.own hp.grown hp.fresh).1
          have hO : Only (w.heap.size + 2) w3 (w3.setCell ⟨w.heap.size + 2, 4, none⟩ (vals 14)) := (Only.refl _ _).setCell _ _
          have e1 := set_six4 hS3 (vals 14)
          have hb3 := hp.below (H.out.below.trans (h0'.mono (by omega))) (fun g e => by have := (H.out.row.own.lt g e).1; omega) (by omega)
          have e4 := hb3.trans (hO.below (by omega) hb3.size)
          have e5 := hg3.only (b := w.heap.size + 2) (by simp) (fun x hx => by simp at hx; omega) hO
          have e6 := (hp.kp (H.out.kp.below h0') (fun g e => (H.out.row.own.lt g e).1)).only hO
          rw [← ntR_succ] at e5
          rw [hap] at e1 e4 e5 e6
          have E1 := Lib.hid e1; have E4 := Lib.hid e4; have E5 := Lib.hid e5; have E6 := Lib.hid e6
          clear e1 e4 e5 e6 hO hb3 hg3 hS3 h0 h2 hp hM hF hV hC hall hr hsz
          go_wp2
          go_roundw
          case rel => exact ⟨j + 1, _, _, by go_num, by omega, E1.out, E5.out, E4.out, E6.out⟩
          case measure => simp [intOf]; omega
      · have hje : j = names.length := by omega
        subst hje
        have CT : Calls Try.prog 15 #[.agg #[.int .i64 c.k, .int .i64 c.n, .slice c.an c.ln c.cn, .slice c.ak c.lk c.ck], .int .i64 6, .slice na names.length nc] wr (TreeP (treeR names 6 main) wr) := Tree_any 6 (by decide) main c names na nc wr (HM.out.later H.out.below) (HN1.out.keep (fun g hg => by have := hg.2; omega) (fun g hg => H.out.kp.blk g hg.2 (by have := hg.1; omega))) (by omega)
        have HCT := Lib.hid CT
        have hr2 := (H.out.kp.blk w.heap.size (by omega) (by omega)).trans HR1.out
        obtain ⟨⟨p0, p1, p2, p3⟩, _⟩ := four_blk hr2
        clear CT hr2
        go_upto_block 4 with (go_at_call 15; (with_reducible refine HCT.out.mono ?_); rintro e w4 ⟨mc, rfl, hk, hb4⟩; have hs4 := (hb4.block _ (by omega)).trans H.out.sat; have hz4 := hb4.size; obtain ⟨⟨t0, t1, t2, t3, t4, t5⟩, ⟨f0, f1, f2, f3, f4, f5⟩⟩ := six_blkF hs4; have HK := Lib.hid hk; have HB4 := Lib.hid hb4; have HS4 := Lib.hid hs4; clear hk hb4 hs4)
        obtain ⟨W3, hW3⟩ : ∃ W3, W3 = put4 w4 (w.heap.size + 2) mc := ⟨_, rfl⟩
        have hO3 : Only (w.heap.size + 2) w4 W3 := by rw [hW3]; exact put4_only _ _ _
        have hs3 : W3.heap[w.heap.size + 2]? = some (.cells #[.int .i64 mc.k, .string mc.n, .slice mc.an mc.ln mc.cn, .slice mc.ak mc.lk mc.ck, .slice xa us.length xk, .slice none 0 0] 35 (0, 0)) := by rw [hW3]; exact put4_six HS4.out mc
        have hb3 : Below w.heap.size w W3 := (H.out.below.trans (HB4.out.mono (by omega))).trans (hO3.below (by omega) (by omega))
        have hk3 : Kp (w.heap.size + 2) wc W3 := (H.out.kp.below HB4.out).only hO3
        have hg3 := (H.out.row.below HB4.out).only (b := w.heap.size + 2) (by simp) (fun x hx => by simp at hx; omega) hO3
        have hm3 : TzV W3 (New wr.heap.size W3) (treeR names 6 main) mc := HK.out.past (Nat.le_refl _) hO3 (by omega)
        have hz3 : W3.heap.size = w4.heap.size := by rw [hW3]; exact put4_size _ _ _
        have hv1 := fun g e => H.out.row.own.lt g e
        obtain ⟨X3, hX3⟩ : ∃ X3, X3 = (w.heap.size + 2) :: (w.heap.size + 1) :: (blkL (.slice xa us.length xk) ++ List.range w.heap.size) := ⟨_, rfl⟩
        have hx3 : ∀ x ∈ X3, x < W3.heap.size := by
          intro x hx
          rw [hX3] at hx
          rcases List.mem_cons.1 hx with rfl | hx
          · omega
          · rcases List.mem_cons.1 hx with rfl | hx
            · omega
            · rcases List.mem_append.1 hx with hx | hx
              · have := (hg3.own.lt x (mem_blkL.1 hx)).2; omega
              · have := List.mem_range.1 hx; omega
        have hn3 : RowV W3 (fun g => New (w.heap.size + 3) W3 g) na 1 (names.map fun n => [str n]) := HN1.out.keep (fun g hg => ⟨hg.1, by have := hg.2; have := hk3.size; omega⟩) (fun g hg => hk3.blk g hg.2 (by have := hg.1; omega))
        have ho3 := (hk3.blk (w.heap.size + 1) (by omega) (by omega)).trans HO1.out
        unfold put4 at hW3
        rw [← hW3]
        have HS3 := Lib.hid hs3; have HB3 := Lib.hid hb3; have HG3 := Lib.hid hg3; have HM3 := Lib.hid hm3; have HX3 := Lib.hid hx3; have HN3 := Lib.hid hn3; have HXX := Lib.hid hX3; have HV1 := Lib.hid hv1; have HO3 := Lib.hid ho3
        have hWz : w.heap.size + 2 < W3.heap.size := by omega
        have hWr : wr.heap.size ≤ W3.heap.size := by omega
        clear hs3 hb3 hg3 hm3 hx3 hn3 hW3 hO3 hk3 hX3 hv1 ho3 t0 t1 t2 t3 t4 t5 f0 f1 f2 f3 f4 f5 s0 s1 s2 s3 s4 s5 g0 g1 g2 g3 g4 g5 p0 p1 p2 p3
        generalize hwrz : wr.heap.size = rz at *
        go_cut [11] (fun s11 wx => ∃ v2 gs, L3 w W3 X3 names sigs mc (.slice xa us.length xk) s11 wx (min sigs.length 4) v2 gs)
        case first =>
          go_wp2_with fail
          go_loopw [11] (fun v11 wr => ∃ j v gs, L3 w W3 X3 names sigs mc (.slice xa us.length xk) v11 wr j v gs) (fun v11 _ => 4 - (intOf v11).toNat)
          case atStart => exact ⟨0, .slice none 0 0, [], rfl, ⟨Nat.zero_le _, Nat.zero_le _⟩, HS3.out, SRow.start _ _ _, HB3.out, Kp.refl _ _⟩
          case round =>
            clear H
            obtain ⟨j, v2, gs, h⟩ := hrel
            obtain rfl := h.slot
            obtain ⟨hle1, hle2⟩ := h.le
            have hkz3 := h.kp.size
            obtain ⟨sa, sk, hv2⟩ := own_sliceZ h.row.own
            subst hv2
            have H := Lib.hid h
            clear h
            by_cases hgo : j < sigs.length ∧ j < 4
            · obtain ⟨hjs, hj4⟩ := hgo
              have hjz : (j : Int) < (sigs.length : Int) := by omega
              have hj4z : (j : Int) < 4 := by omega
              have hj0 : (0 : Int) ≤ (j : Int) := by omega
              obtain ⟨gt, ot, rc, rfl, hgt, hrv, hct⟩ := row4_at HG.out j hjs
              have hgtz : gt < wr.heap.size := by omega
              have hsg := sgsR_succ names sigs j
              unfold sgR at hsg
              generalize sigs.getD j default = rj at *
              have hrv0 := hrv
              cases hrv with
              | mk kd kn kns kks kan kcn kak kck kus hk1 hk2 hki hkln hklk hkl hka hkb hku =>
                have HSG := Lib.hid hsg; have HRV := Lib.hid hrv0; have HCT := Lib.hid hct; have HKK := Lib.hid (RwsV.mk hkl hkb hku)
                clear hsg hrv0 hct hkl hkb hku hka hki hk1 hk2
                generalize hrj : Rw.mk kd kn kns kks = rj at *
                have HRJ := Lib.hid hrj
                clear hrj
                go_wp2_with fail
                refine wp_region_by (FJ wr.drew (.slice na names.length nc) (.slice (some ⟨gt, ot, none⟩) sigs.length c2) j gt (ot + j * 4) (fn4.getD j []) ⟨kd, kn, kan, kns.length, kcn, kak, kks.length, kck⟩ (treeR names 4 rj)) (by kernel_rfl) ?_ ?_ ?_
                · exact ⟨by simp, Closed.start _, fun i => match i with
                    | 0 => .slice (some ⟨0, 0, none⟩) 4 4
                    | 1 => .int .i64 j
                    | 2 => .pointer (some ⟨0, j, none⟩)
                    | 3 => .string ⟨(fn4.getD j []).toArray⟩
                    | 4 => .slice (some ⟨gt, ot, none⟩) sigs.length c2
                    | 5 => .int .i64 j
                    | 6 => .pointer (some ⟨gt, ot + j * 4, none⟩)
                    | 7 => .agg #[.int .i64 kd, .int .i64 kn, .slice kan kns.length kcn, .slice kak kks.length kck]
                    | 8 => .slice na names.length nc
                    | 9 => (.agg #[.int .i64 0, .string ⟨#[]⟩, .slice none 0 0, .slice none 0 0])
                    | 10 => .agg #[.string ⟨(fn4.getD j []).toArray⟩, .slice none 0 0, .int .i64 0, .string ⟨#[]⟩, .slice none 0 0, .slice none 0 0]
                    | 11 => .pointer (some ⟨0, 0, none⟩)
                    | _ => undef, 0, 0, ⟨0, ⟨#[]⟩, none, 0, 0, none, 0, 0⟩, Fr.start _ _ _, ⟨rfl, rfl, rfl, rfl, rfl, rfl, rfl, rfl, rfl, rfl, rfl, rfl⟩, by simp only [rep_getD]; exact FM.start⟩
                · intro listed b v q hJ hi
                  obtain ⟨hsz, hC, vals, lb, fb, xc, hF, hV, hM⟩ := hJ
                  obtain ⟨hl1, hiN⟩ := not_up hsz hi
                  obtain ⟨_, o, ho, hdeps⟩ := mem_ready.1 hi
                  have hiN : q < 13 := hiN
                  obtain rfl | rfl | rfl | rfl | rfl | rfl | rfl | rfl | rfl | rfl | rfl | rfl | rfl : q = 0 ∨ q = 1 ∨ q = 2 ∨ q = 3 ∨ q = 4 ∨ q = 5 ∨ q = 6 ∨ q = 7 ∨ q = 8 ∨ q = 9 ∨ q = 10 ∨ q = 11 ∨ q = 12 := by omega
                  · cases ho
                    have l2 : listed.getD 2 false = false := by
                      cases hh : listed.getD 2 false
                      · rfl
                      · have y0 := hC 2 _ rfl hh ⟨0, .data⟩ (by simp) rfl; rw [hl1] at y0; cases y0
                    have l12 : listed.getD 12 false = false := by
                      cases hh : listed.getD 12 false
                      · rfl
                      · have y0 := hC 12 _ rfl hh ⟨0, .phase⟩ (by simp) rfl; rw [hl1] at y0; cases y0
                    rw [hl1, l12] at hM
                    obtain ⟨vals', hvals⟩ : ∃ vals' : Nat → Value, vals' = fun q => if q = 0 then (Value.slice (some ⟨v.heap.size, 0, none⟩) 4 4) else if q = 2 then (Value.pointer (some ⟨v.heap.size, j, none⟩)) else vals q := ⟨_, rfl⟩
                    have hF' : Fr _ _ vals' listed b := hF.congr (fun i h => by rw [hvals]; exact (if_neg (by rintro rfl; rw [hl1] at h; cases h)).trans (if_neg (by rintro rfl; rw [l2] at h; cases h)))
                    have hV' : FV (.slice na names.length nc) (.slice (some ⟨gt, ot, none⟩) sigs.length c2) j gt (ot + j * 4) (fn4.getD j []) ⟨kd, kn, kan, kns.length, kcn, kak, kks.length, kck⟩ v.heap.size fb xc vals' := by rw [hvals]; exact ⟨rfl, hV.v1, rfl, hV.v3, hV.v4, hV.v5, hV.v6, hV.v7, hV.v8, hV.v9, hV.v10, hV.v11⟩
                    have hn : vals' 0 = .slice (some ⟨v.heap.size, 0, none⟩) 4 4 := by rw [hvals]; rfl
                    refine wpOp_run (w' := v.alloc (.cells #[.string ⟨#[102, 97]⟩, .string ⟨#[102, 98]⟩, .string ⟨#[102, 99]⟩, .string ⟨#[102, 100]⟩] 9)) (v := vals' 0) rfl rfl ?_ ⟨by simpa using hsz, hC.put hi, vals', v.heap.size, fb, xc, hF'.put (Slots.of (by rfl)) hsz rfl, hV', ?_⟩
                    · rw [hn]
                      simp [execOp, go_sem]
                    · rw [getD_setE (i := 0) (by simp [hsz]), getD_setN (show 0 ≠ 9 by decide), getD_setN (show 0 ≠ 11 by decide), getD_setN (show 0 ≠ 12 by decide), l12]
                      exact hM.litted
                  · cases ho
                    have e11 := hF.old_is 11 (by rfl) rfl
                    refine FJ.quiet hsz hC hi hF hV hM (Slots.of (by rfl)) rfl rfl (by decide) ?_
                    rw [hV.v1]
                    simp [execOp, go_sem, e11]
                  · cases ho
                    have e67 := hF.up 0 67 rfl (hdeps ⟨0, .data⟩ (by simp) rfl)
                    rw [hV.v0] at e67
                    have e68 := hF.up 1 68 rfl (hdeps ⟨1, .data⟩ (by simp) rfl)
                    rw [hV.v1] at e68
                    refine FJ.quiet hsz hC hi hF hV hM (Slots.of (by rfl)) rfl rfl (by decide) ?_
                    rw [hV.v2]
                    simp [execOp, go_sem, e67, e68, hj0, hj4z]
                  · cases ho
                    have l12 : listed.getD 12 false = false := by
                      cases hh : listed.getD 12 false
                      · rfl
                      · have y0 := hC 12 _ rfl hh ⟨3, .phase⟩ (by simp) rfl; rw [hl1] at y0; cases y0
                    have u0_0 := hdeps ⟨2, .data⟩ (by simp) rfl
                    have l0 := hC 2 _ rfl u0_0 ⟨0, .data⟩ (by simp) rfl
                    obtain y0 := lit_at (hM.lit l0 l12) (nm := (fn4.getD j [])) (fn4_at j hj4)
                    have e69 := hF.up 2 69 rfl (hdeps ⟨2, .data⟩ (by simp) rfl)
                    rw [hV.v2] at e69
                    refine FJ.quiet hsz hC hi hF hV hM (Slots.of (by rfl)) rfl rfl (by decide) ?_
                    rw [hV.v3]
                    simp [execOp, go_sem, e69, y0]
                  · cases ho
                    have e2 := hF.old_is 2 (by rfl) rfl
                    refine FJ.quiet hsz hC hi hF hV hM (Slots.of (by rfl)) rfl rfl (by decide) ?_
                    rw [hV.v4]
                    simp [execOp, go_sem, e2]
                  · cases ho
                    have e11 := hF.old_is 11 (by rfl) rfl
                    refine FJ.quiet hsz hC hi hF hV hM (Slots.of (by rfl)) rfl rfl (by decide) ?_
                    rw [hV.v5]
                    simp [execOp, go_sem, e11]
                  · cases ho
                    have e71 := hF.up 4 71 rfl (hdeps ⟨4, .data⟩ (by simp) rfl)
                    rw [hV.v4] at e71
                    have e72 := hF.up 5 72 rfl (hdeps ⟨5, .data⟩ (by simp) rfl)
                    rw [hV.v5] at e72
                    refine FJ.quiet hsz hC hi hF hV hM (Slots.of (by rfl)) rfl rfl (by decide) ?_
                    rw [hV.v6]
                    simp [execOp, go_sem, e71, e72, hj0, hjz]
                  · cases ho
                    obtain ⟨y0, y1, y2, y3⟩ := HCT.out v (((Below.of_drew hM.below).block gt hgtz).trans (H.out.below.block gt hgt))
                    have e73 := hF.up 6 73 rfl (hdeps ⟨6, .data⟩ (by simp) rfl)
                    rw [hV.v6] at e73
                    refine FJ.quiet hsz hC hi hF hV hM (Slots.of (by rfl)) rfl rfl (by decide) ?_
                    rw [hV.v7]
                    simp [execOp, go_sem, e73, y0, y1, y2, y3]
                  · cases ho
                    have e8 := hF.old_is 8 (by rfl) rfl
                    refine FJ.quiet hsz hC hi hF hV hM (Slots.of (by rfl)) rfl rfl (by decide) ?_
                    rw [hV.v8]
                    simp [execOp, go_sem, e8]
                  · cases ho
                    have l10 : listed.getD 10 false = false := by
                      cases hh : listed.getD 10 false
                      · rfl
                      · have y0 := hC 10 _ rfl hh ⟨9, .data⟩ (by simp) rfl; rw [hl1] at y0; cases y0
                    have l12 : listed.getD 12 false = false := by
                      cases hh : listed.getD 12 false
                      · rfl
                      · have y0 := hC 12 _ rfl hh ⟨9, .chain⟩ (by simp) rfl; rw [hl1] at y0; cases y0
                    have e74 := hF.up 7 74 rfl (hdeps ⟨7, .data⟩ (by simp) rfl)
                    rw [hV.v7] at e74
                    have e75 := hF.up 8 75 rfl (hdeps ⟨8, .data⟩ (by simp) rfl)
                    rw [hV.v8] at e75
                    rw [hl1, l12] at hM
                    have hbv := Below.of_drew hM.below
                    have CT : Calls Try.prog 15 #[.agg #[.int .i64 kd, .int .i64 kn, .slice kan kns.length kcn, .slice kak kks.length kck], .int .i64 4, .slice na names.length nc] v (TreeP (treeR names 4 rj) v) := Tree_any 4 (by decide) rj ⟨kd, kn, kan, kns.length, kcn, kak, kks.length, kck⟩ names na nc v (HRV.out.later (H.out.below.trans (hbv.mono (by omega)))) (HN3.out.keep (fun g hg => by have := hbv.size; omega) (fun g hg => (hbv.block g (by have := hg.2; omega)).trans (H.out.kp.blk g hg.2 (by have := hg.1; omega)))) (by omega)
                    refine wpOp_call (f := 15) (args := #[.agg #[.int .i64 kd, .int .i64 kn, .slice kan kns.length kcn, .slice kak kks.length kck], .int .i64 4, .slice na names.length nc]) rfl rfl (by simp [execOp, go_sem, e74, e75]) CT ?_
                    rintro e w' ⟨yc, rfl, hk, hb⟩
                    refine ⟨_, rfl, ?_⟩
                    obtain ⟨vals', hvals⟩ : ∃ vals' : Nat → Value, vals' = fun q => if q = 9 then (Value.agg #[.int .i64 yc.k, .string yc.n, .slice yc.an yc.ln yc.cn, .slice yc.ak yc.lk yc.ck]) else if q = 10 then (Value.agg #[.string ⟨(fn4.getD j []).toArray⟩, .slice none 0 0, .int .i64 yc.k, .string yc.n, .slice yc.an yc.ln yc.cn, .slice yc.ak yc.lk yc.ck]) else vals q := ⟨_, rfl⟩
                    have hF' : Fr _ _ vals' listed b := hF.congr (fun i h => by rw [hvals]; exact (if_neg (by rintro rfl; rw [hl1] at h; cases h)).trans (if_neg (by rintro rfl; rw [l10] at h; cases h)))
                    have hV' : FV (.slice na names.length nc) (.slice (some ⟨gt, ot, none⟩) sigs.length c2) j gt (ot + j * 4) (fn4.getD j []) ⟨kd, kn, kan, kns.length, kcn, kak, kks.length, kck⟩ lb fb yc vals' := by rw [hvals]; exact ⟨hV.v0, hV.v1, hV.v2, hV.v3, hV.v4, hV.v5, hV.v6, hV.v7, hV.v8, rfl, rfl, hV.v11⟩
                    have hn : vals' 9 = .agg #[.int .i64 yc.k, .string yc.n, .slice yc.an yc.ln yc.cn, .slice yc.ak yc.lk yc.ck] := by rw [hvals]; rfl
                    refine ⟨by simpa using hsz, hC.put hi, vals', lb, fb, yc, hn ▸ hF'.put (Slots.of (by rfl)) hsz rfl, hV', ?_⟩
                    rw [getD_setE (i := 9) (by simp [hsz]), getD_setN (show 9 ≠ 0 by decide), getD_setN (show 9 ≠ 11 by decide), getD_setN (show 9 ≠ 12 by decide), l12]
                    exact hM.called hb hk
                  · cases ho
                    have e70 := hF.up 3 70 rfl (hdeps ⟨3, .data⟩ (by simp) rfl)
                    rw [hV.v3] at e70
                    have e76 := hF.up 9 76 rfl (hdeps ⟨9, .data⟩ (by simp) rfl)
                    rw [hV.v9] at e76
                    refine FJ.quiet hsz hC hi hF hV hM (Slots.of (by rfl)) rfl rfl (by decide) ?_
                    rw [hV.v10]
                    simp [execOp, go_sem, e70, e76]
                  · cases ho
                    have l12 : listed.getD 12 false = false := by
                      cases hh : listed.getD 12 false
                      · rfl
                      · have y0 := hC 12 _ rfl hh ⟨11, .data⟩ (by simp) rfl; rw [hl1] at y0; cases y0
                    rw [hl1, l12] at hM
                    obtain ⟨vals', hvals⟩ : ∃ vals' : Nat → Value, vals' = fun q => if q = 11 then (Value.pointer (some ⟨v.heap.size, 0, none⟩)) else vals q := ⟨_, rfl⟩
                    have hF' : Fr _ _ vals' listed b := hF.congr (fun i h => by rw [hvals]; exact (if_neg (by rintro rfl; rw [hl1] at h; cases h)))
                    have hV' : FV (.slice na names.length nc) (.slice (some ⟨gt, ot, none⟩) sigs.length c2) j gt (ot + j * 4) (fn4.getD j []) ⟨kd, kn, kan, kns.length, kcn, kak, kks.length, kck⟩ lb v.heap.size xc vals' := by rw [hvals]; exact ⟨hV.v0, hV.v1, hV.v2, hV.v3, hV.v4, hV.v5, hV.v6, hV.v7, hV.v8, hV.v9, hV.v10, rfl⟩
                    have hn : vals' 11 = .pointer (some ⟨v.heap.size, 0, none⟩) := by rw [hvals]; rfl
                    refine wpOp_run (w' := v.alloc (.cells #[.string ⟨#[]⟩, .slice none 0 0, .int .i64 0, .string ⟨#[]⟩, .slice none 0 0, .slice none 0 0] 58)) (v := vals' 11) rfl rfl ?_ ⟨by simpa using hsz, hC.put hi, vals', lb, v.heap.size, xc, hF'.put (Slots.of (by rfl)) hsz rfl, hV', ?_⟩
                    · rw [hn]
                      simp [execOp, go_sem]
                    · rw [getD_setE (i := 11) (by simp [hsz]), getD_setN (show 11 ≠ 0 by decide), getD_setN (show 11 ≠ 9 by decide), getD_setN (show 11 ≠ 12 by decide), l12]
                      exact hM.made
                  · cases ho
                    have l0 := hdeps ⟨0, .phase⟩ (by simp) rfl
                    have l9 := hdeps ⟨9, .chain⟩ (by simp) rfl
                    have l11 := hdeps ⟨11, .data⟩ (by simp) rfl
                    have e12 := hF.up 11 12 rfl (hdeps ⟨11, .data⟩ (by simp) rfl)
                    rw [hV.v11] at e12
                    have e77 := hF.up 10 77 rfl (hdeps ⟨10, .data⟩ (by simp) rfl)
                    rw [hV.v10] at e77
                    rw [l0, l9, l11, hl1] at hM
                    obtain ⟨⟨y0, y1, y2, y3, y4, y5⟩, ⟨z0, z1, z2, z3, z4, z5⟩⟩ := six_blkF (hM.fvar rfl).2
                    refine wpOp_wp rfl rfl ?_
                    unfold Oper.wp Oper.upon
                    simp [execOp, go_sem, e12, e77, y0, y1, y2, y3, y4, y5, z0, z1, z2, z3, z4, z5]
                    refine ⟨by simpa using hsz, hC.put hi, vals, lb, fb, xc, hF.put (i := 12) (Slots.of (by rfl)) hsz rfl, hV, ?_⟩
                    rw [getD_setE (i := 12) (by simp [hsz]), getD_setN (show 12 ≠ 0 by decide), getD_setN (show 12 ≠ 9 by decide), getD_setN (show 12 ≠ 11 by decide), l0, l9, l11]
                    have hq := hM.stored
                    unfold putS at hq
                    simpa using hq
                · intro listed b W4 hJ hr
                  obtain ⟨hsz, hC, vals, lb, fb, xc, hF, hV, hM⟩ := hJ
                  have hall := all_upB (by rfl) hsz hr
                  have hb : b = putAll _ vals _ 13 := hF.done (Slots.of (by rfl)) hall
                  rw [hall 0 (by decide), hall 9 (by decide), hall 11 (by decide), hall 12 (by decide)] at hM
                  subst hb
                  simp only [putAll, hV.v0, hV.v1, hV.v2, hV.v3, hV.v4, hV.v5, hV.v6, hV.v7, hV.v8, hV.v9, hV.v10, hV.v11]
                  simp [dstOf]
                  have hb4 := Below.of_drew hM.below
                  obtain ⟨hfb, hfat⟩ := hM.fvar rfl
                  have hfb : wr.heap.size ≤ fb := hfb
                  have hfz := (Array.getElem?_eq_some_iff.1 hfat).1
                  have HXT := Lib.hid (hM.tree rfl); have HFAT := Lib.hid hfat; have HBD := Lib.hid hb4
                  have hz4 := hb4.size
                  clear hM hF hV hC hall hr hsz hfat hb4
                  go_upto_block 6 with fail
                  go_cut [13] (fun s13 wx => ∃ pv us4, L4 W4 fb X3 (.slice sa gs.length sk) (fn4.getD j []) names kks xc s13 wx (min kks.length 3) pv us4)
                  case first =>
                    go_wp2_with fail
                    go_loopw [13] (fun v13 wr => ∃ k v us4, L4 W4 fb X3 (.slice sa gs.length sk) (fn4.getD j []) names kks xc v13 wr k v us4) (fun v13 _ => 3 - (intOf v13).toNat)
                    case atStart => exact ⟨0, .slice none 0 0, [], rfl, ⟨Nat.zero_le _, Nat.zero_le _⟩, HFAT.out, TRow.start _ _ _ _, Kp.refl _ _, Below.refl _ _⟩
                    case round =>
                      obtain ⟨k, pv, us4, h4⟩ := hrel
                      obtain rfl := h4.slot
                      obtain ⟨hkl1, hkl2⟩ := h4.le
                      have hkz4 := h4.kp.size
                      obtain ⟨pa, pk, hpv⟩ := own_sliceZ h4.row.own
                      subst hpv
                      have hgts := (h4.kp.blk gt (by omega) (by omega)).trans ((HBD.out.block gt hgtz).trans (H.out.below.block gt hgt))
                      obtain ⟨m0, m1, m2, m3⟩ := HCT.out _ hgts
                      have H4 := Lib.hid h4
                      clear h4
                      by_cases hgo4 : k < kks.length ∧ k < 3
                      · obtain ⟨hkk, hk3⟩ := hgo4
                        obtain ⟨gk, ok, rk, rfl, hgk, hrk, hck⟩ := row4_at HKK.out k hkk
                        have hgks := (H4.out.kp.blk gk (by omega) (by omega)).trans ((HBD.out.block gk (by omega)).trans (H.out.below.block gk hgk))
                        have hk0 : (0 : Int) ≤ (k : Int) := by omega
                        have hkz : (k : Int) < (kks.length : Int) := by omega
                        have hk3z : (k : Int) < 3 := by omega
                        have hul4 : us4.length = k := by rw [H4.out.row.len]; simp [parR]
                        have hfbr : fb < wr.heap.size := by omega
                        have hgtr : gt < wr.heap.size := by omega
                        have hgkr : gk < wr.heap.size := by omega
                        have hw4 : Below w.heap.size w wr := (H.out.below.trans (HBD.out.mono (by omega))).trans (H4.out.below.mono (by omega))
                        have hkn : ∀ g, w.heap.size + 3 ≤ g → g < W3.heap.size → wr.heap[g]? = W3.heap[g]? := fun g h1 h2 => (H4.out.kp.blk g (by omega) (by omega)).trans ((HBD.out.block g (by omega)).trans (H.out.kp.blk g h2 (by omega)))
                        have HCK := Lib.hid hck; have HRK := Lib.hid hrk; have HUL4 := Lib.hid hul4; have HW4 := Lib.hid hw4; have HKN := Lib.hid hkn
                        clear hck hrk hul4 hw4 hkn
                        go_wp2_with fail
                        refine wp_region_by (PJs wr.drew fb W4.heap.size (.slice pa us4.length pk) (.slice na names.length nc) (.slice (some ⟨gt, ot, none⟩) sigs.length c2) (.slice (some ⟨gk, ok, none⟩) kks.length kck) j k gt (ot + j * 4) gk (ok + k * 4) rk (treeR names 4 (kks.getD k default)) us4) (by kernel_rfl) ?_ ?_ ?_
                        · exact ⟨by simp, Closed.start _, fun i => match i with
                            | 0 => .pointer (some ⟨fb, 1, none⟩)
                            | 1 => .slice pa us4.length pk
                            | 2 => .slice (some ⟨gt, ot, none⟩) sigs.length c2
                            | 3 => .int .i64 j
                            | 4 => .pointer (some ⟨gt, ot + j * 4, none⟩)
                            | 5 => .pointer (some ⟨gt, ot + j * 4 + 3, none⟩)
                            | 6 => .slice (some ⟨gk, ok, none⟩) kks.length kck
                            | 7 => .int .i64 k
                            | 8 => .pointer (some ⟨gk, ok + k * 4, none⟩)
                            | 9 => .agg #[.int .i64 rk.k, .int .i64 rk.n, .slice rk.an rk.ln rk.cn, .slice rk.ak rk.lk rk.ck]
                            | 10 => .slice na names.length nc
                            | 11 => (.agg #[.int .i64 0, .string ⟨#[]⟩, .slice none 0 0, .slice none 0 0])
                            | 14 => .pointer (some ⟨fb, 1, none⟩)
                            | _ => undef, ⟨0, ⟨#[]⟩, none, 0, 0, none, 0, 0⟩, Fr.start _ _ _, ⟨rfl, rfl, rfl, rfl, rfl, rfl, rfl, rfl, rfl, rfl, rfl, rfl, rfl⟩, by simp only [rep_getD]; exact AM.start⟩
                        · intro listed b v q hJ hi
                          obtain ⟨hsz, hC, vals, xc, hF, hV, hM⟩ := hJ
                          obtain ⟨hl1, hiN⟩ := not_up hsz hi
                          obtain ⟨_, o, ho, hdeps⟩ := mem_ready.1 hi
                          have hiN : q < 16 := hiN
                          obtain rfl | rfl | rfl | rfl | rfl | rfl | rfl | rfl | rfl | rfl | rfl | rfl | rfl | rfl | rfl | rfl : q = 0 ∨ q = 1 ∨ q = 2 ∨ q = 3 ∨ q = 4 ∨ q = 5 ∨ q = 6 ∨ q = 7 ∨ q = 8 ∨ q = 9 ∨ q = 10 ∨ q = 11 ∨ q = 12 ∨ q = 13 ∨ q = 14 ∨ q = 15 := by omega
                          · cases ho
                            have e12 := hF.old_is 12 (by rfl) rfl
                            refine PJs.quiet hsz hC hi hF hV hM (Slots.of (by rfl)) rfl rfl (by decide) ?_
                            rw [hV.v0]
                            simp [execOp, go_sem, e12]
                          · cases ho
                            have l15 : listed.getD 15 false = false := by
                              cases hh : listed.getD 15 false
                              · rfl
                              · have y0 := hC 15 _ rfl hh ⟨1, .phase⟩ (by simp) rfl; rw [hl1] at y0; cases y0
                            have hs := (hM.far (g := fb) hfbr (H4.out.row.ne (by omega)) (.inr l15)).trans H4.out.fat
                            obtain ⟨⟨y0, y1, y2, y3, y4, y5⟩, ⟨z0, z1, z2, z3, z4, z5⟩⟩ := six_blkF hs
                            have e92 := hF.up 0 92 rfl (hdeps ⟨0, .data⟩ (by simp) rfl)
                            rw [hV.v0] at e92
                            refine PJs.quiet hsz hC hi hF hV hM (Slots.of (by rfl)) rfl rfl (by decide) ?_
                            rw [hV.v1]
                            simp [execOp, go_sem, e92, y1]
                          · cases ho
                            have e2 := hF.old_is 2 (by rfl) rfl
                            refine PJs.quiet hsz hC hi hF hV hM (Slots.of (by rfl)) rfl rfl (by decide) ?_
                            rw [hV.v2]
                            simp [execOp, go_sem, e2]
                          · cases ho
                            have e11 := hF.old_is 11 (by rfl) rfl
                            refine PJs.quiet hsz hC hi hF hV hM (Slots.of (by rfl)) rfl rfl (by decide) ?_
                            rw [hV.v3]
                            simp [execOp, go_sem, e11]
                          · cases ho
                            have e94 := hF.up 2 94 rfl (hdeps ⟨2, .data⟩ (by simp) rfl)
                            rw [hV.v2] at e94
                            have e95 := hF.up 3 95 rfl (hdeps ⟨3, .data⟩ (by simp) rfl)
                            rw [hV.v3] at e95
                            refine PJs.quiet hsz hC hi hF hV hM (Slots.of (by rfl)) rfl rfl (by decide) ?_
                            rw [hV.v4]
                            simp [execOp, go_sem, e94, e95, hj0, hjz]
                          · cases ho
                            have e96 := hF.up 4 96 rfl (hdeps ⟨4, .data⟩ (by simp) rfl)
                            rw [hV.v4] at e96
                            refine PJs.quiet hsz hC hi hF hV hM (Slots.of (by rfl)) rfl rfl (by decide) ?_
                            rw [hV.v5]
                            simp [execOp, go_sem, e96]
                          · cases ho
                            have l15 : listed.getD 15 false = false := by
                              cases hh : listed.getD 15 false
                              · rfl
                              · have y0 := hC 15 _ rfl hh ⟨6, .phase⟩ (by simp) rfl; rw [hl1] at y0; cases y0
                            obtain ⟨y0, y1, y2, y3⟩ := HCT.out v ((hM.far (g := gt) hgtr (H4.out.row.ne (by omega)) (.inr l15)).trans hgts)
                            have e97 := hF.up 5 97 rfl (hdeps ⟨5, .data⟩ (by simp) rfl)
                            rw [hV.v5] at e97
                            refine PJs.quiet hsz hC hi hF hV hM (Slots.of (by rfl)) rfl rfl (by decide) ?_
                            rw [hV.v6]
                            simp [execOp, go_sem, e97, y3]
                          · cases ho
                            have e13 := hF.old_is 13 (by rfl) rfl
                            refine PJs.quiet hsz hC hi hF hV hM (Slots.of (by rfl)) rfl rfl (by decide) ?_
                            rw [hV.v7]
                            simp [execOp, go_sem, e13]
                          · cases ho
                            have e98 := hF.up 6 98 rfl (hdeps ⟨6, .data⟩ (by simp) rfl)
                            rw [hV.v6] at e98
                            have e99 := hF.up 7 99 rfl (hdeps ⟨7, .data⟩ (by simp) rfl)
                            rw [hV.v7] at e99
                            refine PJs.quiet hsz hC hi hF hV hM (Slots.of (by rfl)) rfl rfl (by decide) ?_
                            rw [hV.v8]
                            simp [execOp, go_sem, e98, e99, hk0, hkz]
                          · cases ho
                            have l15 : listed.getD 15 false = false := by
                              cases hh : listed.getD 15 false
                              · rfl
                              · have y0 := hC 15 _ rfl hh ⟨9, .phase⟩ (by simp) rfl; rw [hl1] at y0; cases y0
                            obtain ⟨y0, y1, y2, y3⟩ := HCK.out v ((hM.far (g := gk) hgkr (H4.out.row.ne (by omega)) (.inr l15)).trans hgks)
                            have e100 := hF.up 8 100 rfl (hdeps ⟨8, .data⟩ (by simp) rfl)
                            rw [hV.v8] at e100
                            refine PJs.quiet hsz hC hi hF hV hM (Slots.of (by rfl)) rfl rfl (by decide) ?_
                            rw [hV.v9]
                            simp [execOp, go_sem, e100, y0, y1, y2, y3]
                          · cases ho
                            have e8 := hF.old_is 8 (by rfl) rfl
                            refine PJs.quiet hsz hC hi hF hV hM (Slots.of (by rfl)) rfl rfl (by decide) ?_
                            rw [hV.v10]
                            simp [execOp, go_sem, e8]
                          · cases ho
                            have l12 : listed.getD 12 false = false := by
                              cases hh : listed.getD 12 false
                              · rfl
                              · have y0 := hC 12 _ rfl hh ⟨11, .data⟩ (by simp) rfl; rw [hl1] at y0; cases y0
                            have l13 : listed.getD 13 false = false := by
                              cases hh : listed.getD 13 false
                              · rfl
                              · have y0 := hC 13 _ rfl hh ⟨11, .chain⟩ (by simp) rfl; rw [hl1] at y0; cases y0
                            have l15 : listed.getD 15 false = false := by
                              cases hh : listed.getD 15 false
                              · rfl
                              · have y0 := hC 15 _ rfl hh ⟨11, .phase⟩ (by simp) rfl; rw [hl1] at y0; cases y0
                            have e101 := hF.up 9 101 rfl (hdeps ⟨9, .data⟩ (by simp) rfl)
                            rw [hV.v9] at e101
                            have e102 := hF.up 10 102 rfl (hdeps ⟨10, .data⟩ (by simp) rfl)
                            rw [hV.v10] at e102
                            rw [hl1, l12, l13, l15] at hM
                            have hbv := Below.of_drew hM.below
                            have CT : Calls Try.prog 15 #[.agg #[.int .i64 rk.k, .int .i64 rk.n, .slice rk.an rk.ln rk.cn, .slice rk.ak rk.lk rk.ck], .int .i64 4, .slice na names.length nc] v (TreeP (treeR names 4 (kks.getD k default)) v) := Tree_any 4 (by decide) (kks.getD k default) rk names na nc v (HRK.out.later (HW4.out.trans (hbv.mono (by omega)))) (HN3.out.keep (fun g hg => by have := hbv.size; have := hg.2; omega) (fun g hg => (hbv.block g (by have := hg.2; omega)).trans (HKN.out g hg.1 hg.2))) (by omega)
                            refine wpOp_call (f := 15) (args := #[.agg #[.int .i64 rk.k, .int .i64 rk.n, .slice rk.an rk.ln rk.cn, .slice rk.ak rk.lk rk.ck], .int .i64 4, .slice na names.length nc]) rfl rfl (by simp [execOp, go_sem, e101, e102]) CT ?_
                            rintro e w' ⟨yc, rfl, hk, hb⟩
                            refine ⟨_, rfl, ?_⟩
                            obtain ⟨vals', hvals⟩ : ∃ vals' : Nat → Value, vals' = fun q => if q = 11 then (Value.agg #[.int .i64 yc.k, .string yc.n, .slice yc.an yc.ln yc.cn, .slice yc.ak yc.lk yc.ck]) else vals q := ⟨_, rfl⟩
                            have hF' : Fr _ _ vals' listed b := hF.congr (fun i h => by rw [hvals]; exact (if_neg (by rintro rfl; rw [hl1] at h; cases h)))
                            have hV' : PVs fb (.slice pa us4.length pk) (.slice na names.length nc) (.slice (some ⟨gt, ot, none⟩) sigs.length c2) (.slice (some ⟨gk, ok, none⟩) kks.length kck) j k gt (ot + j * 4) gk (ok + k * 4) rk yc vals' := by rw [hvals]; exact ⟨hV.v0, hV.v1, hV.v2, hV.v3, hV.v4, hV.v5, hV.v6, hV.v7, hV.v8, hV.v9, hV.v10, rfl, hV.v14⟩
                            have hn : vals' 11 = .agg #[.int .i64 yc.k, .string yc.n, .slice yc.an yc.ln yc.cn, .slice yc.ak yc.lk yc.ck] := by rw [hvals]; rfl
                            refine ⟨by simpa using hsz, hC.put hi, vals', yc, hn ▸ hF'.put (Slots.of (by rfl)) hsz rfl, hV', ?_⟩
                            rw [getD_setE (i := 11) (by simp [hsz]), getD_setN (show 11 ≠ 12 by decide), getD_setN (show 11 ≠ 13 by decide), getD_setN (show 11 ≠ 15 by decide), l12, l13, l15]
                            exact hM.called hb hk
                          · cases ho
                            have l11 := hdeps ⟨11, .data⟩ (by simp) rfl
                            have l13 : listed.getD 13 false = false := by
                              cases hh : listed.getD 13 false
                              · rfl
                              · have y0 := hC 13 _ rfl hh ⟨12, .data⟩ (by simp) rfl; rw [hl1] at y0; cases y0
                            have l15 : listed.getD 15 false = false := by
                              cases hh : listed.getD 15 false
                              · rfl
                              · have y0 := hC 15 _ rfl hh ⟨12, .phase⟩ (by simp) rfl; rw [hl1] at y0; cases y0
                            have e103 := hF.up 11 103 rfl (hdeps ⟨11, .data⟩ (by simp) rfl)
                            rw [hV.v11] at e103
                            rw [l11, hl1, l13, l15] at hM
                            obtain ⟨vals', hvals⟩ : ∃ vals' : Nat → Value, vals' = fun q => if q = 12 then (Value.slice (some ⟨v.heap.size, 0, none⟩) 1 1) else vals q := ⟨_, rfl⟩
                            have hF' : Fr _ _ vals' listed b := hF.congr (fun i h => by rw [hvals]; exact (if_neg (by rintro rfl; rw [hl1] at h; cases h)))
                            have hV' : PVs fb (.slice pa us4.length pk) (.slice na names.length nc) (.slice (some ⟨gt, ot, none⟩) sigs.length c2) (.slice (some ⟨gk, ok, none⟩) kks.length kck) j k gt (ot + j * 4) gk (ok + k * 4) rk xc vals' := by rw [hvals]; exact ⟨hV.v0, hV.v1, hV.v2, hV.v3, hV.v4, hV.v5, hV.v6, hV.v7, hV.v8, hV.v9, hV.v10, hV.v11, hV.v14⟩
                            have hn : vals' 12 = .slice (some ⟨v.heap.size, 0, none⟩) 1 1 := by rw [hvals]; rfl
                            refine wpOp_run (w' := v.alloc (.cells (C4.cells xc).toArray 31)) (v := vals' 12) rfl rfl ?_ ⟨by simpa using hsz, hC.put hi, vals', xc, hF'.put (Slots.of (by rfl)) hsz rfl, hV', ?_⟩
                            · rw [hn]
                              simp [execOp, go_sem, e103, C4.cells]
                            · rw [getD_setE (i := 12) (by simp [hsz]), getD_setN (show 12 ≠ 11 by decide), getD_setN (show 12 ≠ 13 by decide), getD_setN (show 12 ≠ 15 by decide), l11, l13, l15]
                              rw [hn]
                              exact hM.laid
                          · cases ho
                            have l11 := hdeps ⟨11, .chain⟩ (by simp) rfl
                            have l12 := hdeps ⟨12, .data⟩ (by simp) rfl
                            have l15 : listed.getD 15 false = false := by
                              cases hh : listed.getD 15 false
                              · rfl
                              · have y0 := hC 15 _ rfl hh ⟨13, .data⟩ (by simp) rfl; rw [hl1] at y0; cases y0
                            have d1 := hdeps ⟨1, .data⟩ (by simp) rfl
                            rw [l11, l12, hl1, l15] at hM
                            obtain ⟨v0, h0, h2, rfl, hbs⟩ := hM.bs_at
                            have h0' := Below.of_drew h0
                            have h0z := h0'.size
                            refine wpOp_wp rfl rfl (Sh.wp_append_fresh (.tmp 93) (.tmp 104) 29 rfl W4.heap.size 31 ik (.agg #[.int .i64 0, .string ⟨#[]⟩, .slice none 0 0, .slice none 0 0]) 4 72 Try.underlying29 HIk.out HJk.out HKk.out HLk.out rfl (by decide) (.slice pa us4.length pk) us4.length (us4.flatMap C4.cells) ((hF.eval (i := 1) rfl d1).trans hV.v1) ((H4.out.row.below h0').alloc _).own ⟨v0.heap.size, 0, none⟩ 1 1 (C4.cells xc) ((hF.eval (i := 12) rfl l12).trans hbs) rfl (cells_newZ v0 (C4.cells xc) 31) (C4.one xc) (by have := HUL4.out; unfold maxLen; omega) (by have := HUL4.out; omega) (by simp; omega) ?_)
                            intro y w3 hown hgr hfr
                            obtain ⟨vals', hvals⟩ : ∃ vals' : Nat → Value, vals' = fun q => if q = 13 then y else vals q := ⟨_, rfl⟩
                            have hF' : Fr _ _ vals' listed b := hF.congr (fun i h => by rw [hvals]; exact (if_neg (by rintro rfl; rw [hl1] at h; cases h)))
                            have hV' : PVs fb (.slice pa us4.length pk) (.slice na names.length nc) (.slice (some ⟨gt, ot, none⟩) sigs.length c2) (.slice (some ⟨gk, ok, none⟩) kks.length kck) j k gt (ot + j * 4) gk (ok + k * 4) rk xc vals' := by rw [hvals]; exact ⟨hV.v0, hV.v1, hV.v2, hV.v3, hV.v4, hV.v5, hV.v6, hV.v7, hV.v8, hV.v9, hV.v10, hV.v11, hV.v14⟩
                            have hn : vals' 13 = y := by rw [hvals]; rfl
                            have hn3 : vals' 12 = vals 12 := by rw [hvals]; rfl
                            refine ⟨by simpa using hsz, hC.put hi, vals', xc, hn ▸ hF'.put (Slots.of (by rfl)) hsz rfl, hV', ?_⟩
                            rw [getD_setE (i := 13) (by simp [hsz]), getD_setN (show 13 ≠ 11 by decide), getD_setN (show 13 ≠ 12 by decide), getD_setN (show 13 ≠ 15 by decide), l11, l12, l15]
                            rw [hn, hn3]
                            exact AM.appended h0 h2 ⟨hown, hgr, hfr⟩
                          · cases ho
                            have e12 := hF.old_is 12 (by rfl) rfl
                            refine PJs.quiet hsz hC hi hF hV hM (Slots.of (by rfl)) rfl rfl (by decide) ?_
                            rw [hV.v14]
                            simp [execOp, go_sem, e12]
                          · cases ho
                            have l11 := hdeps ⟨11, .phase⟩ (by simp) rfl
                            have l12 := hdeps ⟨12, .phase⟩ (by simp) rfl
                            have l13 := hdeps ⟨13, .data⟩ (by simp) rfl
                            have e106 := hF.up 14 106 rfl (hdeps ⟨14, .data⟩ (by simp) rfl)
                            rw [hV.v14] at e106
                            have e105 := hF.up 13 105 rfl (hdeps ⟨13, .data⟩ (by simp) rfl)
                            have hs := (hM.far (g := fb) hfbr (H4.out.row.ne (by omega)) (.inr hl1)).trans H4.out.fat
                            obtain ⟨⟨y0, y1, y2, y3, y4, y5⟩, ⟨z0, z1, z2, z3, z4, z5⟩⟩ := six_blkF hs
                            rw [l11, l12, l13, hl1] at hM
                            obtain ⟨va, vc, hap⟩ := hM.row_at
                            rw [hap] at e105
                            refine wpOp_wp rfl rfl ?_
                            unfold Oper.wp Oper.upon
                            simp [execOp, go_sem, e106, e105, y1, z1]
                            refine ⟨by simpa using hsz, hC.put hi, vals, xc, hF.put (i := 15) (Slots.of (by rfl)) hsz rfl, hV, ?_⟩
                            rw [getD_setE (i := 15) (by simp [hsz]), getD_setN (show 15 ≠ 11 by decide), getD_setN (show 15 ≠ 12 by decide), getD_setN (show 15 ≠ 13 by decide), l11, l12, l13]
                            rw [← hap]
                            exact hM.stored
                        · intro listed b v hJ hr
                          obtain ⟨hsz, hC, vals, yc, hF, hV, hM⟩ := hJ
                          have hall := all_upB (by rfl) hsz hr
                          have hb : b = putAll _ vals _ 16 := hF.done (Slots.of (by rfl)) hall
                          rw [hall 11 (by decide), hall 12 (by decide), hall 13 (by decide), hall 15 (by decide)] at hM
                          obtain ⟨v0, w3, h0, h2, hp, rfl⟩ := hM.done
                          obtain ⟨va, vc, hap⟩ := own_sliceZ hp.own
                          subst hb
                          simp only [putAll, hV.v0, hV.v1, hV.v2, hV.v3, hV.v4, hV.v5, hV.v6, hV.v7, hV.v8, hV.v9, hV.v10, hV.v11, hV.v14, hap]
                          simp [dstOf]
                          have h0' := Below.of_drew h0
                          have hz3 : w3.heap.size ≥ v0.heap.size := by have := hp.grown.size; simp at this; omega
                          have h0z := h0'.size
                          have hS3 := ((AM.appended (bs := vals 12) (sb := fb) (off := 1) (enc := C4.cells) h0 h2 hp).far (g := fb) hfbr (H4.out.row.ne (by omega)) (.inr rfl)).trans H4.out.fat
                          have hstep : Step (fb :: X3) [.slice pa us4.length pk, (.slice sa gs.length sk)] [vals 13, (.slice sa gs.length sk)] v0 w3 := (Step.alloc v0 _).trans (Step.append hp.grown (by simp) hp.fresh (fun u hu => by simp at hu ⊢; rcases hu with rfl | rfl; exact .inl rfl; exact .inr (.inr rfl)))
                          have hg3 := TRow.snoc (H4.out.row.below h0') (h2.free (X := fb :: X3) (vs := [.slice pa us4.length pk, (.slice sa gs.length sk)]) (fun x hx => by rcases List.mem_cons.1 hx with rfl | hx; exact hfbr; have := HX3.out x hx; have : wr.drew.heap.size = wr.heap.size := rfl; omega) (fun v hv g e => by rcases List.mem_cons.1 hv with rfl | hv; exact (H4.out.row.own.lt g e).2; rw [List.mem_singleton.1 hv] at e; have := (H.out.row.own.lt g e).2; have : wr.drew.heap.size = wr.heap.size := rfl; omega)) hp.own hstep
                          have hO : Only fb w3 (w3.setCell ⟨fb, 1, none⟩ (vals 13)) := (Only.refl _ _).setCell _ _
                          have e1 := set_six1 hS3 (vals 13)
                          have hb3 := hp.below (H4.out.below.trans (h0'.mono (by omega))) (fun g e => by have := (H4.out.row.own.lt g e).1; omega) (by omega)
                          have e4 := hb3.trans (hO.below (Nat.le_refl _) (by omega))
                          have e5 := hg3.only (b := fb) (by simp) (fun x hx => by rcases List.mem_cons.1 hx with rfl | hx; exact hfz; have := HX3.out x hx; omega) hO
                          have e6 := (hp.kp (H4.out.kp.below h0') (fun g e => (H4.out.row.own.lt g e).1)).only hO
                          rw [← parR_succ] at e5
                          rw [hap] at e1 e4 e5 e6
                          have E1 := Lib.hid e1; have E4 := Lib.hid e4; have E5 := Lib.hid e5; have E6 := Lib.hid e6
                          clear e1 e4 e5 e6 hO hb3 hg3 hS3 h0 h2 hp hM hF hV hC hall hr hsz hstep
                          go_wp2
                          go_roundw
                          case rel => exact ⟨k + 1, _, _, by go_num, ⟨by omega, by omega⟩, E1.out, E5.out, E6.out, E4.out⟩
                          case measure => simp [intOf]; omega
                      · have hmk : min kks.length 3 = k := by omega
                        have HMK := Lib.hid hmk
                        clear hmk
                        by_cases hkk : k < kks.length
                        · have hkz : (k : Int) < (kks.length : Int) := by omega
                          have hk3z : ¬ (k : Int) < 3 := by omega
                          go_wp2
                          go_meet
                          exact ⟨_, us4, by rw [HMK.out]; exact H4.out⟩
                        · have hkz : ¬ (k : Int) < (kks.length : Int) := by omega
                          go_wp2
                          go_meet
                          exact ⟨_, us4, by rw [HMK.out]; exact H4.out⟩
                  case rest =>
                    obtain ⟨pv, us4, h4⟩ := hcut
                    obtain rfl := h4.slot
                    have hkz4 := h4.kp.size
                    obtain ⟨pa, pk, hpv⟩ := own_sliceZ h4.row.own
                    subst hpv
                    have hbx : Below wr.heap.size wr wc := HBD.out.trans (h4.below.mono hfb)
                    have hbz := hbx.size
                    have hs6 := (hbx.block (w.heap.size + 2) (by omega)).trans H.out.sat
                    obtain ⟨⟨a0, a1, a2, a3, a4, a5⟩, _⟩ := six_blkF hs6
                    obtain ⟨⟨b0, b1, b2, b3, b4, b5⟩, _⟩ := six_blkF h4.fat
                    have hrow6 := H.out.row.below hbx
                    have hgl : gs.length ≤ 4 := by rw [H.out.row.len]; simp [sgsR]; omega
                    have hsg := HSG.out
                    rw [← HRJ.out] at hsg
                    simp only [kidsR] at hsg
                    rw [HRJ.out] at hsg
                    have hfree : ∀ g, wr.heap.size ≤ g → g < wc.heap.size → Free wc X3 [(.slice sa gs.length sk)] g := fun g h1 h2 => ⟨h2, fun hx => by have := HX3.out g hx; omega, fun v hv e => by rw [List.mem_singleton.1 hv] at e; have := (H.out.row.own.lt g e).2; omega⟩
                    have hsv : SgV wc (Free wc X3 [(.slice sa gs.length sk)]) ⟨(fn4.getD j []), parR names kks (min kks.length 3), treeR names 4 rj⟩ ((fn4.getD j []), ⟨pa, us4.length, pk, xc⟩) :=
                      ⟨rfl, h4.row.len, ⟨us4, h4.row.len, h4.row.row _ (fun g e => hfree g (by have := (h4.row.own.lt g e).1; omega) (h4.row.own.lt g e).2), fun i h1 h2 => (h4.row.val i h1 h2).keep (fun g hg => ⟨hg.1, fun hx => hg.2.1 (List.mem_cons_of_mem _ hx), fun v hv => hg.2.2 v (List.mem_cons_of_mem _ hv)⟩) (fun _ _ => rfl)⟩,
                        HXT.out.keep (fun g hg => hfree g hg.1.1 (by have := hg.1.2; omega)) (fun g hg => h4.kp.blk g hg.1.2 (hg.2 rfl))⟩
                    have hbw6 : Below w.heap.size w wc := H.out.below.trans (hbx.mono (by omega))
                    have hkp6 := H.out.kp.below hbx
                    have HS6 := Lib.hid hs6; have HR6 := Lib.hid hrow6; have HSG2 := Lib.hid hsg; have HSV := Lib.hid hsv; have HBW6 := Lib.hid hbw6; have HKP6 := Lib.hid hkp6; have H4 := Lib.hid h4
                    clear hs6 hrow6 hsg hsv hbw6 hkp6 h4 hfree hbx
                    generalize fn4.getD j [] = fnm at *
                    go_wp2_with (at_builtin; (refine Sh.wpList_append_fresh rfl _ _ 33 rfl W3.heap.size 58 ig (.agg #[.string ⟨#[]⟩, .slice none 0 0, .int .i64 0, .string ⟨#[]⟩, .slice none 0 0, .slice none 0 0]) 6 112 Try.underlying33 HIg.out HJg.out HKg.out HLg.out rfl (by decide) _ _ _ rfl ((HR6.out.alloc _).own) ⟨wc.heap.size, 0, none⟩ 1 1 [.string ⟨fnm.toArray⟩, .slice pa us4.length pk, .int .i64 xc.k, .string xc.n, .slice xc.an xc.ln xc.cn, .slice xc.ak xc.lk xc.ck] rfl rfl (cells_newZ _ _ _) one6 (by unfold maxLen; omega) (by omega) (by simp; omega) ?_); intro v' w7 hown hgr hfr; obtain ⟨va, vk, rfl⟩ := own_sliceZ hown; have hs7 := (hgr.block (w.heap.size + 2) (by simp; omega) (fun e => H.out.row.ne (by omega) e.symm)).trans ((Below.heap_alloc _ _ _ (by omega)).trans HS6.out); have hz7 := hgr.size; simp at hz7; obtain ⟨⟨t0, t1, t2, t3, t4, t5⟩, ⟨f0, f1, f2, f3, f4, f5⟩⟩ := six_blkF hs7; have HS7 := Lib.hid hs7; have HOW := Lib.hid hown; have HGR := Lib.hid hgr; have HFR := Lib.hid hfr; clear hs7 hown hgr hfr)
                    have hO : Only (w.heap.size + 2) w7 (w7.setCell ⟨w.heap.size + 2, 5, none⟩ (.slice va (gs.length + 1) vk)) := (Only.refl _ _).setCell _ _
                    have e1 := set_six5 HS7.out (.slice va (gs.length + 1) vk)
                    have hb7 := (HBW6.out.alloc HBW6.out.size _).trans (below_grown HGR.out (fun g e => by have := (H.out.row.own.lt g e).1; omega) (by simp; omega))
                    have e4 := hb7.trans (hO.below (by omega) hb7.size)
                    have e5 := ((HR6.out.snoc HSV.out HOW.out HGR.out HFR.out).1).only (b := w.heap.size + 2) (by rw [HXX.out]; exact List.mem_cons_self) HX3.out hO
                    rw [← HSG2.out] at e5
                    have e6 := ((HKP6.out.below ((Below.refl _ _).alloc (Nat.le_refl _) _)).grown HGR.out (fun g e => (H.out.row.own.lt g e).1)).only hO
                    have E1 := Lib.hid e1; have E4 := Lib.hid e4; have E5 := Lib.hid e5; have E6 := Lib.hid e6
                    clear e1 e4 e5 e6 hO hb7
                    go_roundw
                    case rel => exact ⟨j + 1, _, _, by go_num, ⟨by omega, by omega⟩, E1.out, E5.out, E4.out, E6.out⟩
                    case measure => simp [intOf]; omega
            · have hmj : min sigs.length 4 = j := by omega
              have HMJ := Lib.hid hmj
              clear hmj
              by_cases hjs : j < sigs.length
              · have hjz : (j : Int) < (sigs.length : Int) := by omega
                have hj4z : ¬ (j : Int) < 4 := by omega
                go_wp2
                go_meet
                exact ⟨_, gs, by rw [HMJ.out]; exact H.out⟩
              · have hjz : ¬ (j : Int) < (sigs.length : Int) := by omega
                go_wp2
                go_meet
                exact ⟨_, gs, by rw [HMJ.out]; exact H.out⟩
        case rest =>
          clear H
          obtain ⟨v2, gs, h⟩ := hcut
          obtain rfl := h.slot
          obtain ⟨sa, sk, hv2⟩ := own_sliceZ h.row.own
          subst hv2
          have hkz3 := h.kp.size
          have hz9 := (h.kp.blk (w.heap.size + 1) (by omega) (by omega)).trans HO3.out
          obtain ⟨⟨a0, a1, a2, a3, a4, a5⟩, _⟩ := six_blkF h.sat
          obtain ⟨_, ⟨f0, f1, f2, f3, f4, f5⟩⟩ := six_blkF hz9
          obtain ⟨⟨v0, v1, v2, v3, v4, v5⟩, _⟩ := six_blkF (set_six5 (set_six4 (put4_six hz9 mc) (.slice xa us.length xk)) (.slice sa gs.length sk))
          have hO9 : Only (w.heap.size + 1) wc (((put4 wc (w.heap.size + 1) mc).setCell ⟨w.heap.size + 1, 4, none⟩ (.slice xa us.length xk)).setCell ⟨w.heap.size + 1, 5, none⟩ (.slice sa gs.length sk)) := ((put4_only _ _ _).setCell _ _).setCell _ _
          generalize hW9 : ((put4 wc (w.heap.size + 1) mc).setCell ⟨w.heap.size + 1, 4, none⟩ (.slice xa us.length xk)).setCell ⟨w.heap.size + 1, 5, none⟩ (.slice sa gs.length sk) = W9 at *
          have hs9 := hO9.size
          have hgl := HG3.out.len
          have hsl := h.row.len
          have hfin : SchP ⟨treeR names 6 main, ntR names types names.length, sgsR names sigs (min sigs.length 4)⟩ w (.returned (.agg #[.int .i64 mc.k, .string mc.n, .slice mc.an mc.ln mc.cn, .slice mc.ak mc.lk mc.ck, .slice xa us.length xk, .slice sa gs.length sk])) W9 := by
            have hk9 : ∀ g, g < W3.heap.size → g ≠ w.heap.size + 1 → g ≠ w.heap.size + 2 → W9.heap[g]? = W3.heap[g]? := fun g h1 h2 h3 => (hO9.block g (by omega) (fun e => h2 (by cases e; rfl))).trans (h.kp.blk g h1 h3)
            refine ⟨mc, xa, xk, us, sa, sk, gs, by rw [hgl, hsl], ?_, h.below.trans (hO9.below (by omega) h.below.size)⟩
            rw [← hgl, ← hsl]
            refine ⟨HM3.out.keep (fun g hg => ⟨by have := hg.2; omega, (fun hx => by have := List.mem_range.1 hx; have := hg.1; omega), fun v hv e => ?_⟩) (fun g hg => hk9 g hg.2 (by have := hg.1; omega) (by have := hg.1; omega)), own_kp HG3.out.own (by omega) (fun g e => hk9 g (HG3.out.own.lt g e).2 (by have := (HG3.out.own.lt g e).1; omega) (by have := (HG3.out.own.lt g e).1; omega)), hgl, fun i h1 h2 => ⟨(HG3.out.val i h1 h2).1, (HG3.out.val i h1 h2).2.keep (fun g hg => ⟨by have := hg.1; omega, (fun hx => hg.2.1 (List.mem_cons_of_mem _ (List.mem_cons_of_mem _ hx))), fun v hv e => ?_⟩) (fun g hg => hk9 g hg.1 (fun e => hg.2.1 (by rw [e]; simp)) (fun e => hg.2.1 (by rw [e]; simp)))⟩,
              own_kp h.row.own (by omega) (fun g e => hO9.block g (h.row.own.lt g e).2 (fun e2 => by cases e2; have := (h.row.own.lt _ e).1; omega)), hsl, fun i h1 h2 => (h.row.val i h1 h2).step (fun g hg => ⟨⟨by have := hg.1; omega, (fun hx => hg.2.1 (by rw [HXX.out]; exact List.mem_cons_of_mem _ (List.mem_cons_of_mem _ (List.mem_append_right _ hx)))), fun v hv e => ?_⟩, hO9.block g hg.1 (fun e => hg.2.1 (by cases e; rw [HXX.out]; simp))⟩), fun g e1 e2 => ?_⟩
            · simp at hv
              rcases hv with rfl | rfl
              · have := (HV1.out g e).2; have := hg.1; omega
              · have := (h.row.own.lt g e).1; have := hg.2; omega
            · simp at hv
              rcases hv with rfl | rfl
              · exact hg.2.2 _ (by simp) e
              · have := (h.row.own.lt g e).1; have := hg.1; omega
            · simp at hv
              rcases hv with rfl | rfl
              · exact hg.2.1 (by rw [HXX.out]; exact List.mem_cons_of_mem _ (List.mem_cons_of_mem _ (List.mem_append_left _ (mem_blkL.2 e))))
              · exact hg.2.2 _ (by simp) e
            · have := (HG3.out.own.lt g e1).2; have := (h.row.own.lt g e2).1; omega
          have HFIN := Lib.hid hfin
          have hss : schR main types sigs = ⟨treeR names 6 main, ntR names types names.length, sgsR names sigs (min sigs.length 4)⟩ := by unfold schR; rw [HNA.out]
          have HSS := Lib.hid hss
          clear hfin hss hO9 hz9 hs9 h hgl hsl
          unfold put4 at hW9
          go_wp2
          rw [HSS.out]
          refine bodyPost_ret (v := .agg #[.int .i64 mc.k, .string mc.n, .slice mc.an mc.ln mc.cn, .slice mc.ak mc.lk mc.ck, .slice xa us.length xk, .slice sa gs.length sk]) (by simp [results, Try.results36, go_sem, v0, v1, v2, v3, v4, v5]) rfl ?_
          exact HFIN.out
end Sp
end Go.Proofs.Yteooafgdmpbjeab
