/- Tree: records. Written by gen_wrec.py. -/
import Derived.Test.YtdophmlnmbcjlaaT27
namespace Go.Proofs.Ytdophmlnmbcjlaa
open Go.RowKit
namespace Sp
open Sc
set_option maxRecDepth 100000 in
set_option maxHeartbeats 16000000 in
theorem tree_6r (D d : Nat) (hD : D = d + 1) (ih : TreeC d) (hd : d ≤ 1000) (hd1 : 1 ≤ d) (kd n : Int) (ns : List Int) (ks : List Rw) (c : R4) (names : List (List UInt8)) (na : Option Addr) (nc : Nat) (w : World) (hV : RwV w (.mk kd n ns ks) c) (hnl : names.length ≤ 1000) (hnm : RowV w (Any w) na 1 (names.map fun n => [str n])) (hk0 : kd % 9 = 6) :
    Calls Try.prog 19 #[.agg #[.int .i64 c.k, .int .i64 c.n, .slice c.an c.ln c.cn, .slice c.ak c.lk c.ck], .int .i64 D, .slice na names.length nc] w (TreeP (treeR names D (.mk kd n ns ks)) w) := by
  have hT : topK names.length (d + 1) kd = 7 := by unfold topK; rw [hk0]; exact if_neg (by omega)
  rw [hD, treeR_recT names d kd n ns ks 7 hT (by omega), ← hD]
  have hV0 := hV
  cases hV with
  | mk _ _ _ _ an cn ak ck us hk hn hii hln hlk hl ha hb hu =>
    obtain ⟨hkl, hkh⟩ := hk
    have hdz : ¬ (D : Int) ≤ 1 := by omega
    have hdm : (D : Int) - 1 = (d : Int) := by omega
    have hdw : IntKind.i64.wrap ((D : Int) - 1) = (d : Int) := by rw [IntKind.wrap_i64]; omega
    have HK0 := Lib.hid hk0; have HV := Lib.hid hV0; have HNM := Lib.hid hnm; have HIH := Lib.hid ih; have HD := Lib.hid hD; have HA := Lib.hid ha; have HI := Lib.hid hii
    clear hu hb ha hii hl hT hk0 hnm hV0 ih hD
    go_enter Try.func19, Try.ntmps19
    go_wp2_with (go_at_call 30; (with_reducible refine (within3_is _ _ _ _ (by omega) (by omega) hkl hkh HK0.out).mono ?_); rintro e w2 ⟨rfl, hw⟩; have hz2 : w2.heap.size = w.heap.size + 2 := (by rw [← hw]; simp); have hb2 : Below w.heap.size w w2 := (by rw [← hw]; exact ((Below.refl _ _).alloc (Nat.le_refl _) _).alloc (by simp) _); have hr2 : w2.heap[w.heap.size]? = some (.cells #[.int .i64 kd, .int .i64 n, .slice an ns.length cn, .slice ak ks.length ck] 54 (0, 0)) := (by rw [← hw, blk_if, if_neg (by simp), blk_if, if_pos rfl]); have ho2 : w2.heap[w.heap.size + 1]? = some (.cells #[.int .i64 0, .string ⟨#[]⟩, .slice none 0 0, .slice none 0 0] 30 (0, 0)) := (by rw [← hw, blk_if, if_pos (by simp)]); obtain ⟨⟨r0, r1, r2, r3⟩, -⟩ := four_blk hr2; obtain ⟨⟨o0, o1, o2, o3⟩, ⟨f0, f1, f2, f3⟩⟩ := four_blk ho2; have HB2 := Lib.hid hb2; have HR2 := Lib.hid hr2; have HO2 := Lib.hid ho2; clear hw hb2 hr2 ho2)
    go_loopw [9] (fun iv wr => ∃ i, TRel w ⟨kd, n, an, ns.length, cn, ak, ks.length, ck⟩ names d kd n ns ks 7 iv wr i) (fun iv _ => 5 - (intOf iv).toNat)
    case atStart => exact ⟨0, rfl, Nat.zero_le _, by simp; omega, HB2.out.alloc (by omega) _, by rw [blk_if, if_neg (by omega)]; exact HR2.out, by rw [blk_if, if_neg (by omega)]; exact HO2.out, ⟨7, ⟨#[]⟩, none, 0, 0, none, 0, 0⟩, by rw [blk_if, if_pos (by omega)], TzV.leaf _ _ 7 [], ⟨Nat.le_refl _, Nat.le_refl _⟩⟩
    case round =>
      obtain ⟨i, h⟩ := hrel
      obtain rfl := h.slot
      have hzr := h.size
      have hle := h.le
      have hle4 : i ≤ 4 := by unfold fldM at hle; simp at hle; omega
      obtain ⟨⟨tk, tn, tan, tln, tcn, tak, tlk, tck⟩, htt, hvt, hct⟩ := h.var
      simp only at htt
      obtain ⟨⟨r0, r1, r2, r3⟩, _⟩ := four_blk h.raw
      obtain ⟨⟨t0, t1, t2, t3⟩, _⟩ := four_blk htt
      have H := Lib.hid h; have HTT := Lib.hid htt; have HVT := Lib.hid hvt; have HCT := Lib.hid hct
      clear h htt hvt hct
      by_cases hil : i < ns.length
      · by_cases hi4 : i < 4
        · have hiz : (i : Int) < (ns.length : Int) := by omega
          have hi4z : (i : Int) < 4 := by omega
          have hi0 : (0 : Int) ≤ (i : Int) := by omega
          obtain ⟨gi, oi, rfl, hgi, hci⟩ := int_name HA.out i hil
          have c0 := hci wr H.out.below
          have hii1 := HI.out _ (List.getElem_mem hil)
          have hnm' : fldN ns i = nameL ns[i] := by unfold fldN; rw [List.getElem?_eq_getElem hil]
          have HII := Lib.hid hii1; have HNE := Lib.hid hnm'
          clear hci hii1 hnm'
          generalize ns[i] = nz at *
          go_wp2_with (go_at_call 32; (with_reducible refine (Name3_any nz wr HII.out).mono ?_); rintro e w5 ⟨rfl, hb5⟩; have HB5 := Lib.hid hb5; have hz5 := hb5.size; clear hb5)
          generalize nameL nz = nm at *
          refine wp_region_by (TJ w w.heap.size D d i ⟨tk, tn, tan, tln, tcn, tak, tlk, tck⟩ nm ⟨kd, n, (some ⟨gi, oi, none⟩), ns.length, cn, ak, ks.length, ck⟩ na names.length nc (recT names d kd n ns ks 7 i) (treeR names d (kidR (.mk kd n ns ks) i)) (putT nm (treeR names d (kidR (.mk kd n ns ks) i)) (recT names d kd n ns ks 7 i)) (kidR (.mk kd n ns ks) i)) (by kernel_rfl) ?_ ?_ ?_
          · exact ⟨by simp, Closed.start _, fun q => match q with
              | 0 => .agg #[.int .i64 tk, .string tn, .slice tan tln tcn, .slice tak tlk tck]
              | 1 => .string ⟨(nm : List UInt8).toArray⟩
              | 2 => .agg #[.int .i64 kd, .int .i64 n, .slice (some ⟨gi, oi, none⟩) ns.length cn, .slice ak ks.length ck]
              | 3 => .int .i64 i
              | 5 => .int .i64 D
              | 6 => .int .i64 d
              | 7 => .slice na names.length nc
              | _ => undef, Fr.start _ _ _, ⟨rfl, rfl, rfl, rfl, rfl, rfl, rfl⟩, by simp only [rep_getD]; exact TM.start (by omega) (H.out.below.trans (HB5.out.mono (by omega))) ((HB5.out.block _ (by omega)).trans H.out.raw) ((HB5.out.block _ (by omega)).trans H.out.zer) ((HB5.out.block _ (by omega)).trans HTT.out) (HVT.out.growN HB5.out)⟩
          · intro listed b v q hJ hi
            obtain ⟨hsz, hC, vals, hF, hV, hM⟩ := hJ
            obtain ⟨hl1, hi11⟩ := not_up hsz hi
            obtain ⟨_, o, ho, hdeps⟩ := mem_ready.1 hi
            have hi11 : q < 11 := hi11
            have h10 : listed.getD 10 false = true → listed.getD 9 false = true := fun h => hC 10 _ rfl h ⟨9, .data⟩ (by simp) rfl
            have h9 : listed.getD 9 false = true → listed.getD 8 false = true := fun h => hC 9 _ rfl h ⟨8, .data⟩ (by simp) rfl
            have h90 : listed.getD 9 false = true → listed.getD 0 false = true := fun h => hC 9 _ rfl h ⟨0, .data⟩ (by simp) rfl
            have h8 : listed.getD 8 false = true → listed.getD 4 false = true := fun h => hC 8 _ rfl h ⟨4, .data⟩ (by simp) rfl
            obtain rfl | rfl | rfl | rfl | rfl | rfl | rfl | rfl | rfl | rfl | rfl : q = 0 ∨ q = 1 ∨ q = 2 ∨ q = 3 ∨ q = 5 ∨ q = 6 ∨ q = 7 ∨ q = 4 ∨ q = 8 ∨ q = 9 ∨ q = 10 := by omega
            · cases ho
              have l10 : listed.getD 10 false = false := by
                cases hh : listed.getD 10 false
                · rfl
                · have := h90 (h10 hh); rw [hl1] at this; cases this
              obtain ⟨⟨z0, z1, z2, z3⟩, _⟩ := four_blk (hM.told l10)
              have e := hF.old_is 8 (by rfl) rfl
              refine TJ.quiet hsz hC hi hF hV hM (Slots.of (by rfl)) rfl rfl (by decide) ?_
              rw [hV.v0]
              simp [execOp, go_sem, e, z0, z1, z2, z3]
            · cases ho
              have e := hF.old_is 10 (by rfl) rfl
              refine TJ.quiet hsz hC hi hF hV hM (Slots.of (by rfl)) rfl rfl (by decide) ?_
              rw [hV.v1]
              simp [execOp, go_sem, e]
            · cases ho
              obtain ⟨⟨z0, z1, z2, z3⟩, _⟩ := four_blk hM.raw
              have e := hF.old_is 3 (by rfl) rfl
              refine TJ.quiet hsz hC hi hF hV hM (Slots.of (by rfl)) rfl rfl (by decide) ?_
              rw [hV.v2]
              simp [execOp, go_sem, e, z0, z1, z2, z3]
            · cases ho
              have e := hF.old_is 9 (by rfl) rfl
              refine TJ.quiet hsz hC hi hF hV hM (Slots.of (by rfl)) rfl rfl (by decide) ?_
              rw [hV.v3]
              simp [execOp, go_sem, e]
            · cases ho
              have e := hF.old_is 1 (by rfl) rfl
              refine TJ.quiet hsz hC hi hF hV hM (Slots.of (by rfl)) rfl rfl (by decide) ?_
              rw [hV.v5]
              simp [execOp, go_sem, e]
            · cases ho
              have e := hF.up 5 112 rfl (hdeps ⟨5, .data⟩ (by simp) rfl)
              rw [hV.v5] at e
              refine TJ.quiet hsz hC hi hF hV hM (Slots.of (by rfl)) rfl rfl (by decide) ?_
              rw [hV.v6]
              simp [execOp, go_sem, e, hdw]
            · cases ho
              have e := hF.old_is 2 (by rfl) rfl
              refine TJ.quiet hsz hC hi hF hV hM (Slots.of (by rfl)) rfl rfl (by decide) ?_
              rw [hV.v7]
              simp [execOp, go_sem, e]
            · cases ho
              have l8 : listed.getD 8 false = false := by
                cases hh : listed.getD 8 false
                · rfl
                · have := h8 hh; rw [hl1] at this; cases this
              have l9 : listed.getD 9 false = false := by
                cases hh : listed.getD 9 false
                · rfl
                · have := h9 hh; rw [l8] at this; cases this
              have l10 : listed.getD 10 false = false := by
                cases hh : listed.getD 10 false
                · rfl
                · have := h10 hh; rw [l9] at this; cases this
              have e := hF.up 2 109 rfl (hdeps ⟨2, .data⟩ (by simp) rfl)
              rw [hV.v2] at e
              have f := hF.up 3 110 rfl (hdeps ⟨3, .data⟩ (by simp) rfl)
              rw [hV.v3] at f
              rw [hl1, l8, l9, l10] at hM
              refine wpOp_call (f := 31) (args := #[.agg #[.int .i64 kd, .int .i64 n, .slice (some ⟨gi, oi, none⟩) ns.length cn, .slice ak ks.length ck], .int .i64 i]) rfl rfl (by simp [execOp, go_sem, e, f]) (kid_any (.mk kd n ns ks) ⟨kd, n, (some ⟨gi, oi, none⟩), ns.length, cn, ak, ks.length, ck⟩ i v (by omega) (HV.out.later hM.below)) ?_
              rintro e w' ⟨kc, rfl, hk, hb⟩
              refine ⟨_, rfl, ?_⟩
              obtain ⟨vals', hvals⟩ : ∃ vals' : Nat → Value, vals' = fun q => if q = 4 then (Value.agg #[.int .i64 kc.k, .int .i64 kc.n, .slice kc.an kc.ln kc.cn, .slice kc.ak kc.lk kc.ck]) else vals q := ⟨_, rfl⟩
              have hF' : Fr _ _ vals' listed b := hF.congr (fun i h => by rw [hvals]; exact if_neg (by rintro rfl; rw [hl1] at h; cases h))
              have hV' : TV D d i ⟨tk, tn, tan, tln, tcn, tak, tlk, tck⟩ nm ⟨kd, n, (some ⟨gi, oi, none⟩), ns.length, cn, ak, ks.length, ck⟩ na names.length nc vals' := by rw [hvals]; exact ⟨hV.v0, hV.v1, hV.v2, hV.v3, hV.v5, hV.v6, hV.v7⟩
              have hn : vals' 4 = (Value.agg #[.int .i64 kc.k, .int .i64 kc.n, .slice kc.an kc.ln kc.cn, .slice kc.ak kc.lk kc.ck]) := by rw [hvals]; rfl
              refine ⟨by simpa using hsz, hC.put hi, vals', hn ▸ hF'.put (Slots.of (by rfl)) hsz rfl, hV', ?_⟩
              rw [getD_setE (i := 4) (by simp [hsz]), getD_setN (show 4 ≠ 8 by decide), getD_setN (show 4 ≠ 9 by decide), getD_setN (show 4 ≠ 10 by decide), l8, l9, l10]
              exact hM.kidded hn hk hb
            · cases ho
              have l4 := hdeps ⟨4, .data⟩ (by simp) rfl
              have l9 : listed.getD 9 false = false := by
                cases hh : listed.getD 9 false
                · rfl
                · have := h9 hh; rw [hl1] at this; cases this
              have l10 : listed.getD 10 false = false := by
                cases hh : listed.getD 10 false
                · rfl
                · have := h10 hh; rw [l9] at this; cases this
              rw [l4, hl1, l9, l10] at hM
              obtain ⟨kc, hkc, hkv⟩ := hM.kid rfl rfl
              have e := hF.up 4 111 rfl l4
              rw [hkc] at e
              have f := hF.up 6 113 rfl (hdeps ⟨6, .data⟩ (by simp) rfl)
              rw [hV.v6] at f
              have g := hF.up 7 114 rfl (hdeps ⟨7, .data⟩ (by simp) rfl)
              rw [hV.v7] at g
              have CT := HIH.out _ kc names na nc v hkv (HNM.out.up hM.below) hnl
              refine wpOp_call (f := 19) (args := #[.agg #[.int .i64 kc.k, .int .i64 kc.n, .slice kc.an kc.ln kc.cn, .slice kc.ak kc.lk kc.ck], .int .i64 d, .slice na names.length nc]) rfl rfl (by simp [execOp, go_sem, e, f, g]) CT ?_
              rintro e w' ⟨xc, rfl, hk, hb⟩
              refine ⟨_, rfl, ?_⟩
              obtain ⟨vals', hvals⟩ : ∃ vals' : Nat → Value, vals' = fun q => if q = 8 then (Value.agg #[.int .i64 xc.k, .string xc.n, .slice xc.an xc.ln xc.cn, .slice xc.ak xc.lk xc.ck]) else vals q := ⟨_, rfl⟩
              have hF' : Fr _ _ vals' listed b := hF.congr (fun i h => by rw [hvals]; exact if_neg (by rintro rfl; rw [hl1] at h; cases h))
              have hV' : TV D d i ⟨tk, tn, tan, tln, tcn, tak, tlk, tck⟩ nm ⟨kd, n, (some ⟨gi, oi, none⟩), ns.length, cn, ak, ks.length, ck⟩ na names.length nc vals' := by rw [hvals]; exact ⟨hV.v0, hV.v1, hV.v2, hV.v3, hV.v5, hV.v6, hV.v7⟩
              have hn : vals' 8 = (Value.agg #[.int .i64 xc.k, .string xc.n, .slice xc.an xc.ln xc.cn, .slice xc.ak xc.lk xc.ck]) := by rw [hvals]; rfl
              refine ⟨by simpa using hsz, hC.put hi, vals', hn ▸ hF'.put (Slots.of (by rfl)) hsz rfl, hV', ?_⟩
              rw [getD_setE (i := 8) (by simp [hsz]), getD_setN (show 8 ≠ 4 by decide), getD_setN (show 8 ≠ 9 by decide), getD_setN (show 8 ≠ 10 by decide), l4, l9, l10]
              exact hM.treed hn hk hb
            · cases ho
              have l8 := hdeps ⟨8, .data⟩ (by simp) rfl
              have l4 := h8 l8
              have l10 : listed.getD 10 false = false := by
                cases hh : listed.getD 10 false
                · rfl
                · have := h10 hh; rw [hl1] at this; cases this
              rw [l4, l8, hl1, l10] at hM
              obtain ⟨xc, hxc, hxv⟩ := hM.tree rfl rfl
              have hov := hM.old rfl
              have e := hF.up 0 107 rfl (hdeps ⟨0, .data⟩ (by simp) rfl)
              rw [hV.v0] at e
              have f := hF.up 1 108 rfl (hdeps ⟨1, .data⟩ (by simp) rfl)
              rw [hV.v1] at f
              have g := hF.up 8 115 rfl l8
              rw [hxc] at g
              obtain ⟨ms, us, hrf, hr1, hr2⟩ := recT_form names d kd n ns ks 7 i
              rw [hrf] at hov
              have CT := put_any 7 [] ms us nm _ ⟨tk, tn, tan, tln, tcn, tak, tlk, tck⟩ xc (w.heap.size + 3) v hM.size hov hxv hr1 (by omega) HCT.out
              refine wpOp_call (f := 33) (args := #[.agg #[.int .i64 tk, .string tn, .slice tan tln tcn, .slice tak tlk tck], .string ⟨(nm : List UInt8).toArray⟩, .agg #[.int .i64 xc.k, .string xc.n, .slice xc.an xc.ln xc.cn, .slice xc.ak xc.lk xc.ck]]) rfl rfl (by simp [execOp, go_sem, e, f, g]) CT ?_
              rintro e w' ⟨pc, rfl, hk, hcap, hb⟩
              rw [← hrf] at hk
              refine ⟨_, rfl, ?_⟩
              obtain ⟨vals', hvals⟩ : ∃ vals' : Nat → Value, vals' = fun q => if q = 9 then (Value.agg #[.int .i64 pc.k, .string pc.n, .slice pc.an pc.ln pc.cn, .slice pc.ak pc.lk pc.ck]) else vals q := ⟨_, rfl⟩
              have hF' : Fr _ _ vals' listed b := hF.congr (fun i h => by rw [hvals]; exact if_neg (by rintro rfl; rw [hl1] at h; cases h))
              have hV' : TV D d i ⟨tk, tn, tan, tln, tcn, tak, tlk, tck⟩ nm ⟨kd, n, (some ⟨gi, oi, none⟩), ns.length, cn, ak, ks.length, ck⟩ na names.length nc vals' := by rw [hvals]; exact ⟨hV.v0, hV.v1, hV.v2, hV.v3, hV.v5, hV.v6, hV.v7⟩
              have hn : vals' 9 = (Value.agg #[.int .i64 pc.k, .string pc.n, .slice pc.an pc.ln pc.cn, .slice pc.ak pc.lk pc.ck]) := by rw [hvals]; rfl
              refine ⟨by simpa using hsz, hC.put hi, vals', hn ▸ hF'.put (Slots.of (by rfl)) hsz rfl, hV', ?_⟩
              rw [getD_setE (i := 9) (by simp [hsz]), getD_setN (show 9 ≠ 4 by decide), getD_setN (show 9 ≠ 8 by decide), getD_setN (show 9 ≠ 10 by decide), l4, l8, l10]
              exact hM.putted hn hk hcap hb
            · cases ho
              have l9 := hdeps ⟨9, .data⟩ (by simp) rfl
              have l8 := h9 l9
              have l4 := h8 l8
              rw [l4, l8, l9, hl1] at hM
              obtain ⟨⟨z0, z1, z2, z3⟩, ⟨y0, y1, y2, y3⟩⟩ := four_blk (hM.told rfl)
              obtain ⟨pc, hpc, _⟩ := hM.put rfl
              have e := hF.old_is 8 (by rfl) rfl
              have f := hF.up 9 116 rfl l9
              rw [hpc] at f
              refine wpOp_wp rfl rfl ?_
              unfold Oper.wp Oper.upon
              simp [execOp, go_sem, e, f, z0, z1, z2, z3, y0, y1, y2, y3]
              refine ⟨by simpa using hsz, hC.put hi, vals, hF.put (i := 10) (Slots.of (by rfl)) hsz rfl, hV, ?_⟩
              rw [getD_setE (i := 10) (by simp [hsz]), getD_setN (show 10 ≠ 4 by decide), getD_setN (show 10 ≠ 8 by decide), getD_setN (show 10 ≠ 9 by decide), l4, l8, l9]
              exact hM.stored hpc
          · intro listed b v hJ hr
            obtain ⟨hsz, hC, vals, hF, hV, hM⟩ := hJ
            have hall := all_upB (by rfl) hsz hr
            have hb : b = putAll _ vals _ 11 := hF.done (Slots.of (by rfl)) hall
            rw [hall 4 (by decide), hall 8 (by decide), hall 9 (by decide), hall 10 (by decide)] at hM
            subst hb
            simp only [putAll, hV.v0, hV.v1, hV.v2, hV.v3, hV.v5, hV.v6, hV.v7]
            simp [dstOf]
            obtain ⟨pc, _, hk, hcap, hat⟩ := hM.put rfl
            have HM := Lib.hid hM; have HK := Lib.hid hk; have HCAP := Lib.hid hcap; have HAT := Lib.hid (hat rfl)
            clear hM hk hcap hat hF hV hC hall hr hsz
            go_wp2
            go_roundw
            case rel => exact ⟨i + 1, by go_num, by rw [fldM, if_neg (by decide)]; omega, HM.out.size, HM.out.below, HM.out.raw, HM.out.zer, pc, HAT.out, by rw [recT_succ, HNE.out]; exact HK.out, HCAP.out⟩
            case measure => simp [intOf]; omega
        · have hiz : (i : Int) < (ns.length : Int) := by omega
          have hi4z : ¬ (i : Int) < 4 := by omega
          have hi0 : ((i : Int) == 0) = false := by rw [beq_eq_false_iff_ne]; omega
          have hend : recT names d kd n ns ks 7 i = recT names d kd n ns ks 7 (fldM 7 ns) := by rw [show i = fldM 7 ns by unfold fldM at hle ⊢; simp at hle ⊢; omega]
          have HL := Lib.hid hend
          clear hend
          obtain ⟨⟨q0, q1, q2, q3⟩, ⟨x0, x1, x2, x3⟩⟩ := four_blk H.out.zer
          obtain ⟨⟨v0, v1, v2, v3⟩, _⟩ := four_blk (put4_at H.out.zer ⟨tk, tn, tan, tln, tcn, tak, tlk, tck⟩)
          have hPO := put4_only wr (w.heap.size + 1) ⟨tk, tn, tan, tln, tcn, tak, tlk, tck⟩
          have HBL := Lib.hid (H.out.below.trans (hPO.below (by omega) (by omega)))
          have HF := Lib.hid ((HVT.out.past (a := w.heap.size) (by omega) hPO (by omega)))
          clear hPO
          have hzw : w.heap.size + 1 < wr.heap.size := (by omega)
          unfold put4 at v0 v1 v2 v3
          go_wp2
          refine bodyPost_ret (v := .agg #[.int .i64 tk, .string tn, .slice tan tln tcn, .slice tak tlk tck]) (by simp [results, Try.results19, go_sem, v0, v1, v2, v3]) rfl ?_
          have hF := HF.out
          rw [HL.out] at hF
          exact ⟨⟨tk, tn, tan, tln, tcn, tak, tlk, tck⟩, rfl, hF, HBL.out⟩
      · by_cases hi0n : i = 0
        · have hiz : ¬ (i : Int) < (ns.length : Int) := by omega
          have hi0 : ((i : Int) == 0) = true := by rw [beq_iff_eq]; omega
          have hend : recT names d kd n ns ks 7 i = recT names d kd n ns ks 7 (fldM 7 ns) := by rw [show i = fldM 7 ns by unfold fldM at hle ⊢; simp at hle ⊢; omega]
          have HL := Lib.hid hend
          clear hend
          obtain ⟨⟨q0, q1, q2, q3⟩, ⟨x0, x1, x2, x3⟩⟩ := four_blk H.out.zer
          obtain ⟨⟨v0, v1, v2, v3⟩, _⟩ := four_blk (put4_at H.out.zer ⟨tk, tn, tan, tln, tcn, tak, tlk, tck⟩)
          have hPO := put4_only wr (w.heap.size + 1) ⟨tk, tn, tan, tln, tcn, tak, tlk, tck⟩
          have HBL := Lib.hid (H.out.below.trans (hPO.below (by omega) (by omega)))
          have HF := Lib.hid ((HVT.out.past (a := w.heap.size) (by omega) hPO (by omega)))
          clear hPO
          have hzw : w.heap.size + 1 < wr.heap.size := (by omega)
          unfold put4 at v0 v1 v2 v3
          go_wp2
          refine bodyPost_ret (v := .agg #[.int .i64 tk, .string tn, .slice tan tln tcn, .slice tak tlk tck]) (by simp [results, Try.results19, go_sem, v0, v1, v2, v3]) rfl ?_
          have hF := HF.out
          rw [HL.out] at hF
          exact ⟨⟨tk, tn, tan, tln, tcn, tak, tlk, tck⟩, rfl, hF, HBL.out⟩
        · have hiz : ¬ (i : Int) < (ns.length : Int) := by omega
          have hi0 : ((i : Int) == 0) = false := by rw [beq_eq_false_iff_ne]; omega
          have hend : recT names d kd n ns ks 7 i = recT names d kd n ns ks 7 (fldM 7 ns) := by rw [show i = fldM 7 ns by unfold fldM at hle ⊢; simp at hle ⊢; omega]
          have HL := Lib.hid hend
          clear hend
          obtain ⟨⟨q0, q1, q2, q3⟩, ⟨x0, x1, x2, x3⟩⟩ := four_blk H.out.zer
          obtain ⟨⟨v0, v1, v2, v3⟩, _⟩ := four_blk (put4_at H.out.zer ⟨tk, tn, tan, tln, tcn, tak, tlk, tck⟩)
          have hPO := put4_only wr (w.heap.size + 1) ⟨tk, tn, tan, tln, tcn, tak, tlk, tck⟩
          have HBL := Lib.hid (H.out.below.trans (hPO.below (by omega) (by omega)))
          have HF := Lib.hid ((HVT.out.past (a := w.heap.size) (by omega) hPO (by omega)))
          clear hPO
          have hzw : w.heap.size + 1 < wr.heap.size := (by omega)
          unfold put4 at v0 v1 v2 v3
          go_wp2
          refine bodyPost_ret (v := .agg #[.int .i64 tk, .string tn, .slice tan tln tcn, .slice tak tlk tck]) (by simp [results, Try.results19, go_sem, v0, v1, v2, v3]) rfl ?_
          have hF := HF.out
          rw [HL.out] at hF
          exact ⟨⟨tk, tn, tan, tln, tcn, tak, tlk, tck⟩, rfl, hF, HBL.out⟩
end Sp
end Go.Proofs.Ytdophmlnmbcjlaa
